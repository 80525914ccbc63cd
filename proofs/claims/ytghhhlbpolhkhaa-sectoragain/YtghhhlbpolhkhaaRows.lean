/-
  No cell of these rows narrows 'for every input' (looked for: loops, veiled, ifaces, maps, wideKeys, modest, calm, conditions, laid).
  DERIVED. THE GIVEN ROWS OF THIS SEAT. 4 by the template 'for every input the law returns true; each argument reads behind the call as it read before'; 0 by the template 'total and deterministic' (their statements: YtghhhlbpolhkhaaTotals.lean).
  GIVEN WITH THE SEED: the statements are not yours to turn. If you find one false, say at which input.
  Laid BY PROGRAM, IN A SANDBOX (cutbox-rows.mjs): the forced cells as the released guide's own fill.sh prints them over the translation e945aabf312d8ef4… (all of the seat's roots in one cut). By AI agents, Wed Nov 11 2026. No macro, syntax, notation, axiom, sorry.
-/
import Derived.Test.YtghhhlbpolhkhaaChecked
import GoSem.Claim
import GoSem.ClaimJoined
import GoSem.ClaimMapViews
import Derived.JoinedTies
import Derived.KernelRfl
namespace Go.Proofs.Ytghhhlbpolhkhaa
/- THE CELL 'sum', in the pinned program and in every row, IS THE sha256 OF THE DUMP (.gsa) THAT YtghhhlbpolhkhaaProg.lean LOADS. Nothing in Lean hashes anything: it is a label: what it is worth is what the hold of that sum in a sandbox is worth. -/
noncomputable def Try.pinned : Pinned := { name := "ytghhhlbpolhkhaa", sum := "e945aabf312d8ef426a381382e87174b1fc0797c03f17d8aede36715aaba86d3", checked := Try.checked }
namespace Rows
def none {H : Type} : Left H := { results := [], args := [] }

/-- 'weighhouselaw15.SectorNil': WHATEVER THE INPUT: true; the input reads as it did. -/
def sectorNilSpec : ChangeSpec := { name := "sectorNil", fn := fun _ => fun
  | [d] => { results := [.lit (.bool true)], args := [d] }
  | _ => none }
def sectorNilRow : OpenClaim := { program := "ytghhhlbpolhkhaa", sum := "e945aabf312d8ef426a381382e87174b1fc0797c03f17d8aede36715aaba86d3", func := "weighhouse/weighhouselaw15.SectorNil", spec := "sectorNil", inPlace := ["internal/bytealg.abigen_runtime_cmpstring", "slices.overlaps[*weighhouse/sector.file]"], unfollowed := true, recurses := true, apart := false }
def SectorNilSaid : Prop := sectorNilRow.holds Try.pinned (OpenSpec.ofChange sectorNilSpec)

/-- ITS FALSE NEIGHBOUR: 'it returns false'. Refute it at one input. -/
def sectorNilWrong : ChangeSpec := { name := "sectorNil", fn := fun _ => fun
  | [d] => { results := [.lit (.bool false)], args := [d] }
  | _ => none }
def SectorNilWrongFalsely : Prop := sectorNilRow.holds Try.pinned (OpenSpec.ofChange sectorNilWrong)

/-- 'weighhouselaw15.SectorSure': WHATEVER THE INPUT: true; the input reads as it did. -/
def sectorSureSpec : ChangeSpec := { name := "sectorSure", fn := fun _ => fun
  | [d1, d2, d3] => { results := [.lit (.bool true)], args := [d1, d2, d3] }
  | _ => none }
def sectorSureRow : OpenClaim := { program := "ytghhhlbpolhkhaa", sum := "e945aabf312d8ef426a381382e87174b1fc0797c03f17d8aede36715aaba86d3", func := "weighhouse/weighhouselaw15.SectorSure", spec := "sectorSure", inPlace := ["internal/bytealg.abigen_runtime_cmpstring", "slices.overlaps[*weighhouse/sector.file]"], unfollowed := true, recurses := true, apart := false }
def SectorSureSaid : Prop := sectorSureRow.holds Try.pinned (OpenSpec.ofChange sectorSureSpec)

/-- ITS FALSE NEIGHBOUR: 'it returns false'. Refute it at one input. -/
def sectorSureWrong : ChangeSpec := { name := "sectorSure", fn := fun _ => fun
  | [d1, d2, d3] => { results := [.lit (.bool false)], args := [d1, d2, d3] }
  | _ => none }
def SectorSureWrongFalsely : Prop := sectorSureRow.holds Try.pinned (OpenSpec.ofChange sectorSureWrong)

/-- 'weighhouselaw15.SectorEach': WHATEVER THE INPUT: true; the input reads as it did. -/
def sectorEachSpec : ChangeSpec := { name := "sectorEach", fn := fun _ => fun
  | [d1, d2, d3] => { results := [.lit (.bool true)], args := [d1, d2, d3] }
  | _ => none }
def sectorEachRow : OpenClaim := { program := "ytghhhlbpolhkhaa", sum := "e945aabf312d8ef426a381382e87174b1fc0797c03f17d8aede36715aaba86d3", func := "weighhouse/weighhouselaw15.SectorEach", spec := "sectorEach", inPlace := ["internal/bytealg.abigen_runtime_cmpstring", "slices.overlaps[*weighhouse/sector.file]"], unfollowed := true, recurses := true, apart := false }
def SectorEachSaid : Prop := sectorEachRow.holds Try.pinned (OpenSpec.ofChange sectorEachSpec)

/-- ITS FALSE NEIGHBOUR: 'it returns false'. Refute it at one input. -/
def sectorEachWrong : ChangeSpec := { name := "sectorEach", fn := fun _ => fun
  | [d1, d2, d3] => { results := [.lit (.bool false)], args := [d1, d2, d3] }
  | _ => none }
def SectorEachWrongFalsely : Prop := sectorEachRow.holds Try.pinned (OpenSpec.ofChange sectorEachWrong)

/-- 'weighhouselaw15.SectorAgain': WHATEVER THE INPUT: true; the input reads as it did. -/
def sectorAgainSpec : ChangeSpec := { name := "sectorAgain", fn := fun _ => fun
  | [d1, d2, d3] => { results := [.lit (.bool true)], args := [d1, d2, d3] }
  | _ => none }
def sectorAgainRow : OpenClaim := { program := "ytghhhlbpolhkhaa", sum := "e945aabf312d8ef426a381382e87174b1fc0797c03f17d8aede36715aaba86d3", func := "weighhouse/weighhouselaw15.SectorAgain", spec := "sectorAgain", inPlace := ["internal/bytealg.abigen_runtime_cmpstring", "slices.overlaps[*weighhouse/sector.file]"], unfollowed := true, recurses := true, apart := false }
def SectorAgainSaid : Prop := sectorAgainRow.holds Try.pinned (OpenSpec.ofChange sectorAgainSpec)

/-- ITS FALSE NEIGHBOUR: 'it returns false'. Refute it at one input. -/
def sectorAgainWrong : ChangeSpec := { name := "sectorAgain", fn := fun _ => fun
  | [d1, d2, d3] => { results := [.lit (.bool false)], args := [d1, d2, d3] }
  | _ => none }
def SectorAgainWrongFalsely : Prop := sectorAgainRow.holds Try.pinned (OpenSpec.ofChange sectorAgainWrong)

/- THE SECOND FORM. 'bulk': how many values and letters a reading holds, each counted each time it is reached (what is shared counts as often as it is met; a slice's spare places count too). A statement '..UptoSaid' is the law's where the arguments, and the package variables that the reading takes, are together of bulk at most 1048576: NARROWER than '..Said'. Prove '..Said' where nothing that the law and all that it calls make is longer than what came in: it says more and counts as full. Else prove '..UptoSaid'. A law counts once. -/
mutual
def uptoBulk {H : Type} : DataW H → Nat
  | .lit (.string bytes) => bytes.length + 1
  | .lit _ => 1
  | .nil => 1
  | .ptr d => uptoBulk d + 1
  | .slice elems spare => uptoBulkAll elems + uptoBulkAll spare + 1
  | .agg parts => uptoBulkAll parts + 1
  | .iface _ d => uptoBulk d + 1
  | .map entries => uptoBulkEntries entries + 1
  | .held _ => 1
def uptoBulkAll {H : Type} : List (DataW H) → Nat
  | [] => 0
  | d :: r => uptoBulk d + uptoBulkAll r
def uptoBulkEntries {H : Type} : List (Lit × DataW H) → Nat
  | [] => 0
  | x :: r => uptoBulkEntry x + uptoBulkEntries r
def uptoBulkEntry {H : Type} : Lit × DataW H → Nat
  | (.string bytes, d) => bytes.length + uptoBulk d + 1
  | (_, d) => uptoBulk d + 1
 end
def uptoSmall : (H : Type) → List (DataW H) → Bool := fun _ ds => decide (uptoBulkAll ds ≤ 1048576)
def OpenSpec.upto (s : _root_.Go.ChangeSpec) : _root_.Go.OpenSpec := { _root_.Go.OpenSpec.ofChange s with cond := some uptoSmall }

/-- 'weighhouselaw15.SectorNil', WHERE WHAT IT READS IS OF BULK AT MOST 1048576: true; the input reads as it did. -/
def sectorNilUptoRow : OpenClaim := { program := "ytghhhlbpolhkhaa", sum := "e945aabf312d8ef426a381382e87174b1fc0797c03f17d8aede36715aaba86d3", func := "weighhouse/weighhouselaw15.SectorNil", spec := "sectorNil", inPlace := ["internal/bytealg.abigen_runtime_cmpstring", "slices.overlaps[*weighhouse/sector.file]"], unfollowed := true, recurses := true, apart := false, narrowed := true }
def SectorNilUptoSaid : Prop := sectorNilUptoRow.holds Try.pinned (OpenSpec.upto sectorNilSpec)

/-- 'weighhouselaw15.SectorSure', WHERE WHAT IT READS IS OF BULK AT MOST 1048576: true; the input reads as it did. -/
def sectorSureUptoRow : OpenClaim := { program := "ytghhhlbpolhkhaa", sum := "e945aabf312d8ef426a381382e87174b1fc0797c03f17d8aede36715aaba86d3", func := "weighhouse/weighhouselaw15.SectorSure", spec := "sectorSure", inPlace := ["internal/bytealg.abigen_runtime_cmpstring", "slices.overlaps[*weighhouse/sector.file]"], unfollowed := true, recurses := true, apart := false, narrowed := true }
def SectorSureUptoSaid : Prop := sectorSureUptoRow.holds Try.pinned (OpenSpec.upto sectorSureSpec)

/-- 'weighhouselaw15.SectorEach', WHERE WHAT IT READS IS OF BULK AT MOST 1048576: true; the input reads as it did. -/
def sectorEachUptoRow : OpenClaim := { program := "ytghhhlbpolhkhaa", sum := "e945aabf312d8ef426a381382e87174b1fc0797c03f17d8aede36715aaba86d3", func := "weighhouse/weighhouselaw15.SectorEach", spec := "sectorEach", inPlace := ["internal/bytealg.abigen_runtime_cmpstring", "slices.overlaps[*weighhouse/sector.file]"], unfollowed := true, recurses := true, apart := false, narrowed := true }
def SectorEachUptoSaid : Prop := sectorEachUptoRow.holds Try.pinned (OpenSpec.upto sectorEachSpec)

/-- 'weighhouselaw15.SectorAgain', WHERE WHAT IT READS IS OF BULK AT MOST 1048576: true; the input reads as it did. -/
def sectorAgainUptoRow : OpenClaim := { program := "ytghhhlbpolhkhaa", sum := "e945aabf312d8ef426a381382e87174b1fc0797c03f17d8aede36715aaba86d3", func := "weighhouse/weighhouselaw15.SectorAgain", spec := "sectorAgain", inPlace := ["internal/bytealg.abigen_runtime_cmpstring", "slices.overlaps[*weighhouse/sector.file]"], unfollowed := true, recurses := true, apart := false, narrowed := true }
def SectorAgainUptoSaid : Prop := sectorAgainUptoRow.holds Try.pinned (OpenSpec.upto sectorAgainSpec)

end Rows
end Go.Proofs.Ytghhhlbpolhkhaa
