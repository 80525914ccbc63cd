/-
  No cell of these rows narrows 'for every input' (looked for: loops, veiled, ifaces, maps, wideKeys, modest, calm, conditions, laid).
  DERIVED. THE GIVEN ROWS OF THIS SEAT. 5 by the template 'for every input the law returns true; each argument reads behind the call as it read before'; 0 by the template 'total and deterministic' (their statements: YtodagpmcmjleaaaTotals.lean).
  GIVEN WITH THE SEED: the statements are not yours to turn. If you find one false, say at which input.
  Laid BY PROGRAM, IN A SANDBOX (cutbox-rows.mjs): the forced cells as the released guide's own fill.sh prints them over the translation a44067ec731cbcee… (all of the seat's roots in one cut). By AI agents, Wed Nov 11 2026. No macro, syntax, notation, axiom, sorry.
-/
import Derived.Test.YtodagpmcmjleaaaChecked
import GoSem.Claim
import GoSem.ClaimJoined
import GoSem.ClaimMapViews
import Derived.JoinedTies
import Derived.KernelRfl
namespace Go.Proofs.Ytodagpmcmjleaaa
/- THE CELL 'sum', in the pinned program and in every row, IS THE sha256 OF THE DUMP (.gsa) THAT YtodagpmcmjleaaaProg.lean LOADS. Nothing in Lean hashes anything: it is a label: what it is worth is what the hold of that sum in a sandbox is worth. -/
noncomputable def Try.pinned : Pinned := { name := "ytodagpmcmjleaaa", sum := "a44067ec731cbceef48ef39914b117e66cfe2e79a2c67b68632e62071177dacf", checked := Try.checked }
namespace Rows
def none {H : Type} : Left H := { results := [], args := [] }

/-- 'weighhouselaw09.BoundParts': WHATEVER THE INPUT: true; the input reads as it did. -/
def boundPartsSpec : ChangeSpec := { name := "boundParts", fn := fun _ => fun
  | [d1, d2] => { results := [.lit (.bool true)], args := [d1, d2] }
  | _ => none }
def boundPartsRow : OpenClaim := { program := "ytodagpmcmjleaaa", sum := "a44067ec731cbceef48ef39914b117e66cfe2e79a2c67b68632e62071177dacf", func := "weighhouse/weighhouselaw09.BoundParts", spec := "boundParts", unfollowed := true, recurses := true, apart := false }
def BoundPartsSaid : Prop := boundPartsRow.holds Try.pinned (OpenSpec.ofChange boundPartsSpec)

/-- ITS FALSE NEIGHBOUR: 'it returns false'. Refute it at one input. -/
def boundPartsWrong : ChangeSpec := { name := "boundParts", fn := fun _ => fun
  | [d1, d2] => { results := [.lit (.bool false)], args := [d1, d2] }
  | _ => none }
def BoundPartsWrongFalsely : Prop := boundPartsRow.holds Try.pinned (OpenSpec.ofChange boundPartsWrong)

/-- 'weighhouselaw09.BoundMore': WHATEVER THE INPUT: true; the input reads as it did. -/
def boundMoreSpec : ChangeSpec := { name := "boundMore", fn := fun _ => fun
  | [d1, d2, d3, d4] => { results := [.lit (.bool true)], args := [d1, d2, d3, d4] }
  | _ => none }
def boundMoreRow : OpenClaim := { program := "ytodagpmcmjleaaa", sum := "a44067ec731cbceef48ef39914b117e66cfe2e79a2c67b68632e62071177dacf", func := "weighhouse/weighhouselaw09.BoundMore", spec := "boundMore", unfollowed := true, recurses := true, apart := false }
def BoundMoreSaid : Prop := boundMoreRow.holds Try.pinned (OpenSpec.ofChange boundMoreSpec)

/-- ITS FALSE NEIGHBOUR: 'it returns false'. Refute it at one input. -/
def boundMoreWrong : ChangeSpec := { name := "boundMore", fn := fun _ => fun
  | [d1, d2, d3, d4] => { results := [.lit (.bool false)], args := [d1, d2, d3, d4] }
  | _ => none }
def BoundMoreWrongFalsely : Prop := boundMoreRow.holds Try.pinned (OpenSpec.ofChange boundMoreWrong)

/-- 'weighhouselaw09.BoundTogether': WHATEVER THE INPUT: true; the input reads as it did. -/
def boundTogetherSpec : ChangeSpec := { name := "boundTogether", fn := fun _ => fun
  | [d1, d2, d3] => { results := [.lit (.bool true)], args := [d1, d2, d3] }
  | _ => none }
def boundTogetherRow : OpenClaim := { program := "ytodagpmcmjleaaa", sum := "a44067ec731cbceef48ef39914b117e66cfe2e79a2c67b68632e62071177dacf", func := "weighhouse/weighhouselaw09.BoundTogether", spec := "boundTogether", unfollowed := true, recurses := true, apart := false }
def BoundTogetherSaid : Prop := boundTogetherRow.holds Try.pinned (OpenSpec.ofChange boundTogetherSpec)

/-- ITS FALSE NEIGHBOUR: 'it returns false'. Refute it at one input. -/
def boundTogetherWrong : ChangeSpec := { name := "boundTogether", fn := fun _ => fun
  | [d1, d2, d3] => { results := [.lit (.bool false)], args := [d1, d2, d3] }
  | _ => none }
def BoundTogetherWrongFalsely : Prop := boundTogetherRow.holds Try.pinned (OpenSpec.ofChange boundTogetherWrong)

/-- 'weighhouselaw09.BoundTurns': WHATEVER THE INPUT: true; the input reads as it did. -/
def boundTurnsSpec : ChangeSpec := { name := "boundTurns", fn := fun _ => fun
  | [d1, d2, d3] => { results := [.lit (.bool true)], args := [d1, d2, d3] }
  | _ => none }
def boundTurnsRow : OpenClaim := { program := "ytodagpmcmjleaaa", sum := "a44067ec731cbceef48ef39914b117e66cfe2e79a2c67b68632e62071177dacf", func := "weighhouse/weighhouselaw09.BoundTurns", spec := "boundTurns", unfollowed := true, recurses := true, apart := false }
def BoundTurnsSaid : Prop := boundTurnsRow.holds Try.pinned (OpenSpec.ofChange boundTurnsSpec)

/-- ITS FALSE NEIGHBOUR: 'it returns false'. Refute it at one input. -/
def boundTurnsWrong : ChangeSpec := { name := "boundTurns", fn := fun _ => fun
  | [d1, d2, d3] => { results := [.lit (.bool false)], args := [d1, d2, d3] }
  | _ => none }
def BoundTurnsWrongFalsely : Prop := boundTurnsRow.holds Try.pinned (OpenSpec.ofChange boundTurnsWrong)

/-- 'weighhouselaw09.BoundCallees': WHATEVER THE INPUT: true; the input reads as it did. -/
def boundCalleesSpec : ChangeSpec := { name := "boundCallees", fn := fun _ => fun
  | [d1, d2, d3, d4] => { results := [.lit (.bool true)], args := [d1, d2, d3, d4] }
  | _ => none }
def boundCalleesRow : OpenClaim := { program := "ytodagpmcmjleaaa", sum := "a44067ec731cbceef48ef39914b117e66cfe2e79a2c67b68632e62071177dacf", func := "weighhouse/weighhouselaw09.BoundCallees", spec := "boundCallees", unfollowed := true, recurses := true, apart := false }
def BoundCalleesSaid : Prop := boundCalleesRow.holds Try.pinned (OpenSpec.ofChange boundCalleesSpec)

/-- ITS FALSE NEIGHBOUR: 'it returns false'. Refute it at one input. -/
def boundCalleesWrong : ChangeSpec := { name := "boundCallees", fn := fun _ => fun
  | [d1, d2, d3, d4] => { results := [.lit (.bool false)], args := [d1, d2, d3, d4] }
  | _ => none }
def BoundCalleesWrongFalsely : Prop := boundCalleesRow.holds Try.pinned (OpenSpec.ofChange boundCalleesWrong)

/- THE SECOND FORM. 'bulk': how many values and letters a reading holds, each counted each time it is reached (what is shared counts as often as it is met; a slice's spare places count too). A statement '..UptoSaid' is the law's where the arguments, and the package variables that the reading takes, are together of bulk at most 1048576: NARROWER than '..Said'. Prove '..Said' where nothing that the law and all that it calls make is longer than what came in: it says more and counts as full. Else prove '..UptoSaid'. A law counts once. -/
mutual
def uptoBulk {H : Type} : DataW H → Nat
  | .lit (.string bytes) => bytes.length + 1
  | .lit _ => 1
  | .nil => 1
  | .ptr d => uptoBulk d + 1
  | .slice elems spare => uptoBulkAll elems + uptoBulkAll spare + 1
  | .agg parts => uptoBulkAll parts + 1
  | .iface _ d => uptoBulk d + 1
  | .map entries => uptoBulkEntries entries + 1
  | .held _ => 1
def uptoBulkAll {H : Type} : List (DataW H) → Nat
  | [] => 0
  | d :: r => uptoBulk d + uptoBulkAll r
def uptoBulkEntries {H : Type} : List (Lit × DataW H) → Nat
  | [] => 0
  | x :: r => uptoBulkEntry x + uptoBulkEntries r
def uptoBulkEntry {H : Type} : Lit × DataW H → Nat
  | (.string bytes, d) => bytes.length + uptoBulk d + 1
  | (_, d) => uptoBulk d + 1
 end
def uptoSmall : (H : Type) → List (DataW H) → Bool := fun _ ds => decide (uptoBulkAll ds ≤ 1048576)
def OpenSpec.upto (s : _root_.Go.ChangeSpec) : _root_.Go.OpenSpec := { _root_.Go.OpenSpec.ofChange s with cond := some uptoSmall }

/-- 'weighhouselaw09.BoundParts', WHERE WHAT IT READS IS OF BULK AT MOST 1048576: true; the input reads as it did. -/
def boundPartsUptoRow : OpenClaim := { program := "ytodagpmcmjleaaa", sum := "a44067ec731cbceef48ef39914b117e66cfe2e79a2c67b68632e62071177dacf", func := "weighhouse/weighhouselaw09.BoundParts", spec := "boundParts", unfollowed := true, recurses := true, apart := false, narrowed := true }
def BoundPartsUptoSaid : Prop := boundPartsUptoRow.holds Try.pinned (OpenSpec.upto boundPartsSpec)

/-- 'weighhouselaw09.BoundMore', WHERE WHAT IT READS IS OF BULK AT MOST 1048576: true; the input reads as it did. -/
def boundMoreUptoRow : OpenClaim := { program := "ytodagpmcmjleaaa", sum := "a44067ec731cbceef48ef39914b117e66cfe2e79a2c67b68632e62071177dacf", func := "weighhouse/weighhouselaw09.BoundMore", spec := "boundMore", unfollowed := true, recurses := true, apart := false, narrowed := true }
def BoundMoreUptoSaid : Prop := boundMoreUptoRow.holds Try.pinned (OpenSpec.upto boundMoreSpec)

/-- 'weighhouselaw09.BoundTogether', WHERE WHAT IT READS IS OF BULK AT MOST 1048576: true; the input reads as it did. -/
def boundTogetherUptoRow : OpenClaim := { program := "ytodagpmcmjleaaa", sum := "a44067ec731cbceef48ef39914b117e66cfe2e79a2c67b68632e62071177dacf", func := "weighhouse/weighhouselaw09.BoundTogether", spec := "boundTogether", unfollowed := true, recurses := true, apart := false, narrowed := true }
def BoundTogetherUptoSaid : Prop := boundTogetherUptoRow.holds Try.pinned (OpenSpec.upto boundTogetherSpec)

/-- 'weighhouselaw09.BoundTurns', WHERE WHAT IT READS IS OF BULK AT MOST 1048576: true; the input reads as it did. -/
def boundTurnsUptoRow : OpenClaim := { program := "ytodagpmcmjleaaa", sum := "a44067ec731cbceef48ef39914b117e66cfe2e79a2c67b68632e62071177dacf", func := "weighhouse/weighhouselaw09.BoundTurns", spec := "boundTurns", unfollowed := true, recurses := true, apart := false, narrowed := true }
def BoundTurnsUptoSaid : Prop := boundTurnsUptoRow.holds Try.pinned (OpenSpec.upto boundTurnsSpec)

/-- 'weighhouselaw09.BoundCallees', WHERE WHAT IT READS IS OF BULK AT MOST 1048576: true; the input reads as it did. -/
def boundCalleesUptoRow : OpenClaim := { program := "ytodagpmcmjleaaa", sum := "a44067ec731cbceef48ef39914b117e66cfe2e79a2c67b68632e62071177dacf", func := "weighhouse/weighhouselaw09.BoundCallees", spec := "boundCallees", unfollowed := true, recurses := true, apart := false, narrowed := true }
def BoundCalleesUptoSaid : Prop := boundCalleesUptoRow.holds Try.pinned (OpenSpec.upto boundCalleesSpec)

end Rows
end Go.Proofs.Ytodagpmcmjleaaa
