/-
  No cell of these rows narrows 'for every input' (looked for: loops, veiled, ifaces, maps, wideKeys, modest, calm, conditions, laid).
  DERIVED. THE GIVEN ROWS OF THIS SEAT. 5 by the template 'for every input the law returns true; each argument reads behind the call as it read before'; 0 by the template 'total and deterministic' (their statements: YtnidakplcaanfaaTotals.lean).
  GIVEN WITH THE SEED: the statements are not yours to turn. If you find one false, say at which input.
  Laid BY PROGRAM, IN A SANDBOX (cutbox-rows.mjs): the forced cells as the released guide's own fill.sh prints them over the translation 5052877f2168ffb9… (all of the seat's roots in one cut). By AI agents, Wed Nov 11 2026. No macro, syntax, notation, axiom, sorry.
-/
import Derived.Test.YtnidakplcaanfaaChecked
import GoSem.Claim
import GoSem.ClaimJoined
import GoSem.ClaimMapViews
import Derived.JoinedTies
import Derived.KernelRfl
namespace Go.Proofs.Ytnidakplcaanfaa
/- THE CELL 'sum', in the pinned program and in every row, IS THE sha256 OF THE DUMP (.gsa) THAT YtnidakplcaanfaaProg.lean LOADS. Nothing in Lean hashes anything: it is a label: what it is worth is what the hold of that sum in a sandbox is worth. -/
noncomputable def Try.pinned : Pinned := { name := "ytnidakplcaanfaa", sum := "5052877f2168ffb97f5be6eee5e6eb81975b040e6b5167a3635c52d9a982f809", checked := Try.checked }
namespace Rows
def none {H : Type} : Left H := { results := [], args := [] }

/-- 'weighhouselaw07.TypesChecks': WHATEVER THE INPUT: true; the input reads as it did. -/
def typesChecksSpec : ChangeSpec := { name := "typesChecks", fn := fun _ => fun
  | [d1, d2] => { results := [.lit (.bool true)], args := [d1, d2] }
  | _ => none }
def typesChecksRow : OpenClaim := { program := "ytnidakplcaanfaa", sum := "5052877f2168ffb97f5be6eee5e6eb81975b040e6b5167a3635c52d9a982f809", func := "weighhouse/weighhouselaw07.TypesChecks", spec := "typesChecks", unfollowed := true, recurses := true, apart := false }
def TypesChecksSaid : Prop := typesChecksRow.holds Try.pinned (OpenSpec.ofChange typesChecksSpec)

/-- ITS FALSE NEIGHBOUR: 'it returns false'. Refute it at one input. -/
def typesChecksWrong : ChangeSpec := { name := "typesChecks", fn := fun _ => fun
  | [d1, d2] => { results := [.lit (.bool false)], args := [d1, d2] }
  | _ => none }
def TypesChecksWrongFalsely : Prop := typesChecksRow.holds Try.pinned (OpenSpec.ofChange typesChecksWrong)

/-- 'weighhouselaw07.TypesAll': WHATEVER THE INPUT: true; the input reads as it did. -/
def typesAllSpec : ChangeSpec := { name := "typesAll", fn := fun _ => fun
  | [d1, d2, d3] => { results := [.lit (.bool true)], args := [d1, d2, d3] }
  | _ => none }
def typesAllRow : OpenClaim := { program := "ytnidakplcaanfaa", sum := "5052877f2168ffb97f5be6eee5e6eb81975b040e6b5167a3635c52d9a982f809", func := "weighhouse/weighhouselaw07.TypesAll", spec := "typesAll", unfollowed := true, recurses := true, apart := false }
def TypesAllSaid : Prop := typesAllRow.holds Try.pinned (OpenSpec.ofChange typesAllSpec)

/-- ITS FALSE NEIGHBOUR: 'it returns false'. Refute it at one input. -/
def typesAllWrong : ChangeSpec := { name := "typesAll", fn := fun _ => fun
  | [d1, d2, d3] => { results := [.lit (.bool false)], args := [d1, d2, d3] }
  | _ => none }
def TypesAllWrongFalsely : Prop := typesAllRow.holds Try.pinned (OpenSpec.ofChange typesAllWrong)

/-- 'weighhouselaw07.TypesWays': WHATEVER THE INPUT: true; the input reads as it did. -/
def typesWaysSpec : ChangeSpec := { name := "typesWays", fn := fun _ => fun
  | [d1, d2] => { results := [.lit (.bool true)], args := [d1, d2] }
  | _ => none }
def typesWaysRow : OpenClaim := { program := "ytnidakplcaanfaa", sum := "5052877f2168ffb97f5be6eee5e6eb81975b040e6b5167a3635c52d9a982f809", func := "weighhouse/weighhouselaw07.TypesWays", spec := "typesWays", unfollowed := true, recurses := true, apart := false }
def TypesWaysSaid : Prop := typesWaysRow.holds Try.pinned (OpenSpec.ofChange typesWaysSpec)

/-- ITS FALSE NEIGHBOUR: 'it returns false'. Refute it at one input. -/
def typesWaysWrong : ChangeSpec := { name := "typesWays", fn := fun _ => fun
  | [d1, d2] => { results := [.lit (.bool false)], args := [d1, d2] }
  | _ => none }
def TypesWaysWrongFalsely : Prop := typesWaysRow.holds Try.pinned (OpenSpec.ofChange typesWaysWrong)

/-- 'weighhouselaw07.TypesSame': WHATEVER THE INPUT: true; the input reads as it did. -/
def typesSameSpec : ChangeSpec := { name := "typesSame", fn := fun _ => fun
  | [d1, d2, d3] => { results := [.lit (.bool true)], args := [d1, d2, d3] }
  | _ => none }
def typesSameRow : OpenClaim := { program := "ytnidakplcaanfaa", sum := "5052877f2168ffb97f5be6eee5e6eb81975b040e6b5167a3635c52d9a982f809", func := "weighhouse/weighhouselaw07.TypesSame", spec := "typesSame", unfollowed := true, recurses := true, apart := false }
def TypesSameSaid : Prop := typesSameRow.holds Try.pinned (OpenSpec.ofChange typesSameSpec)

/-- ITS FALSE NEIGHBOUR: 'it returns false'. Refute it at one input. -/
def typesSameWrong : ChangeSpec := { name := "typesSame", fn := fun _ => fun
  | [d1, d2, d3] => { results := [.lit (.bool false)], args := [d1, d2, d3] }
  | _ => none }
def TypesSameWrongFalsely : Prop := typesSameRow.holds Try.pinned (OpenSpec.ofChange typesSameWrong)

/-- 'weighhouselaw07.TypesMore': WHATEVER THE INPUT: true; the input reads as it did. -/
def typesMoreSpec : ChangeSpec := { name := "typesMore", fn := fun _ => fun
  | [d1, d2] => { results := [.lit (.bool true)], args := [d1, d2] }
  | _ => none }
def typesMoreRow : OpenClaim := { program := "ytnidakplcaanfaa", sum := "5052877f2168ffb97f5be6eee5e6eb81975b040e6b5167a3635c52d9a982f809", func := "weighhouse/weighhouselaw07.TypesMore", spec := "typesMore", unfollowed := true, recurses := true, apart := false }
def TypesMoreSaid : Prop := typesMoreRow.holds Try.pinned (OpenSpec.ofChange typesMoreSpec)

/-- ITS FALSE NEIGHBOUR: 'it returns false'. Refute it at one input. -/
def typesMoreWrong : ChangeSpec := { name := "typesMore", fn := fun _ => fun
  | [d1, d2] => { results := [.lit (.bool false)], args := [d1, d2] }
  | _ => none }
def TypesMoreWrongFalsely : Prop := typesMoreRow.holds Try.pinned (OpenSpec.ofChange typesMoreWrong)

/- THE SECOND FORM. 'bulk': how many values and letters a reading holds, each counted each time it is reached (what is shared counts as often as it is met; a slice's spare places count too). A statement '..UptoSaid' is the law's where the arguments, and the package variables that the reading takes, are together of bulk at most 1048576: NARROWER than '..Said'. Prove '..Said' where nothing that the law and all that it calls make is longer than what came in: it says more and counts as full. Else prove '..UptoSaid'. A law counts once. -/
mutual
def uptoBulk {H : Type} : DataW H → Nat
  | .lit (.string bytes) => bytes.length + 1
  | .lit _ => 1
  | .nil => 1
  | .ptr d => uptoBulk d + 1
  | .slice elems spare => uptoBulkAll elems + uptoBulkAll spare + 1
  | .agg parts => uptoBulkAll parts + 1
  | .iface _ d => uptoBulk d + 1
  | .map entries => uptoBulkEntries entries + 1
  | .held _ => 1
def uptoBulkAll {H : Type} : List (DataW H) → Nat
  | [] => 0
  | d :: r => uptoBulk d + uptoBulkAll r
def uptoBulkEntries {H : Type} : List (Lit × DataW H) → Nat
  | [] => 0
  | x :: r => uptoBulkEntry x + uptoBulkEntries r
def uptoBulkEntry {H : Type} : Lit × DataW H → Nat
  | (.string bytes, d) => bytes.length + uptoBulk d + 1
  | (_, d) => uptoBulk d + 1
 end
def uptoSmall : (H : Type) → List (DataW H) → Bool := fun _ ds => decide (uptoBulkAll ds ≤ 1048576)
def OpenSpec.upto (s : _root_.Go.ChangeSpec) : _root_.Go.OpenSpec := { _root_.Go.OpenSpec.ofChange s with cond := some uptoSmall }

/-- 'weighhouselaw07.TypesChecks', WHERE WHAT IT READS IS OF BULK AT MOST 1048576: true; the input reads as it did. -/
def typesChecksUptoRow : OpenClaim := { program := "ytnidakplcaanfaa", sum := "5052877f2168ffb97f5be6eee5e6eb81975b040e6b5167a3635c52d9a982f809", func := "weighhouse/weighhouselaw07.TypesChecks", spec := "typesChecks", unfollowed := true, recurses := true, apart := false, narrowed := true }
def TypesChecksUptoSaid : Prop := typesChecksUptoRow.holds Try.pinned (OpenSpec.upto typesChecksSpec)

/-- 'weighhouselaw07.TypesAll', WHERE WHAT IT READS IS OF BULK AT MOST 1048576: true; the input reads as it did. -/
def typesAllUptoRow : OpenClaim := { program := "ytnidakplcaanfaa", sum := "5052877f2168ffb97f5be6eee5e6eb81975b040e6b5167a3635c52d9a982f809", func := "weighhouse/weighhouselaw07.TypesAll", spec := "typesAll", unfollowed := true, recurses := true, apart := false, narrowed := true }
def TypesAllUptoSaid : Prop := typesAllUptoRow.holds Try.pinned (OpenSpec.upto typesAllSpec)

/-- 'weighhouselaw07.TypesWays', WHERE WHAT IT READS IS OF BULK AT MOST 1048576: true; the input reads as it did. -/
def typesWaysUptoRow : OpenClaim := { program := "ytnidakplcaanfaa", sum := "5052877f2168ffb97f5be6eee5e6eb81975b040e6b5167a3635c52d9a982f809", func := "weighhouse/weighhouselaw07.TypesWays", spec := "typesWays", unfollowed := true, recurses := true, apart := false, narrowed := true }
def TypesWaysUptoSaid : Prop := typesWaysUptoRow.holds Try.pinned (OpenSpec.upto typesWaysSpec)

/-- 'weighhouselaw07.TypesSame', WHERE WHAT IT READS IS OF BULK AT MOST 1048576: true; the input reads as it did. -/
def typesSameUptoRow : OpenClaim := { program := "ytnidakplcaanfaa", sum := "5052877f2168ffb97f5be6eee5e6eb81975b040e6b5167a3635c52d9a982f809", func := "weighhouse/weighhouselaw07.TypesSame", spec := "typesSame", unfollowed := true, recurses := true, apart := false, narrowed := true }
def TypesSameUptoSaid : Prop := typesSameUptoRow.holds Try.pinned (OpenSpec.upto typesSameSpec)

/-- 'weighhouselaw07.TypesMore', WHERE WHAT IT READS IS OF BULK AT MOST 1048576: true; the input reads as it did. -/
def typesMoreUptoRow : OpenClaim := { program := "ytnidakplcaanfaa", sum := "5052877f2168ffb97f5be6eee5e6eb81975b040e6b5167a3635c52d9a982f809", func := "weighhouse/weighhouselaw07.TypesMore", spec := "typesMore", unfollowed := true, recurses := true, apart := false, narrowed := true }
def TypesMoreUptoSaid : Prop := typesMoreUptoRow.holds Try.pinned (OpenSpec.upto typesMoreSpec)

end Rows
end Go.Proofs.Ytnidakplcaanfaa
