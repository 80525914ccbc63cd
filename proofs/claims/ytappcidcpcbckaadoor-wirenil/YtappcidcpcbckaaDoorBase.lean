/- What the rows of layer 1 share: the table of sums as the rows list it, a world that holds it, and how a byte slice that came in is read. -/
import Derived.Test.YtappcidcpcbckaaDoorCards
import Derived.Test.YtappcidcpcbckaaDoorTie
import Derived.Test.YtappcidcpcbckaaDoorWH
import Derived.ProofKit
import Derived.OpenShut
import Derived.Deep.DeepHandedRow
import Derived.Lib.LaidTab
import Derived.Lib.SmallJoins
import Derived.SizedLaws
namespace Go.Proofs.YtappcidcpcbckaaDoor
open Go.ChangeShapes Go.WideShapes Go.ChangeAt Go.RowKit

theorem own : ownKnob Tryd.prog.godebug = none := by kernel_rfl
theorem laidOut : laidOutB Tryd.prog = true := by kernel_rfl
theorem gTab : Tryd.prog.globalNamed "weighhouse/wire.sums" = some 0 := by kernel_rfl
theorem gTabType : (Tryd.prog.globals[0]?).map (·.type) = some 89 := by kernel_rfl
theorem cellsTab : Tryd.prog.cellsOf 89 = 16 := by kernel_rfl
theorem cells32 : Tryd.prog.cellsOf 57 = 1 := by kernel_rfl

/-- What the row's list gives: the table's cells hold its sixteen numbers. -/
theorem tab_of_laid {W : World} (h : laidMetH Tryd.prog [("weighhouse/wire.sums", Rows.laid_weighhouse_wire_sums)] W) : Tab W := by
  have T : Lib.TabIs Tryd.prog W "weighhouse/wire.sums" .u32 (tabL.map fun (n : Nat) => (n : Int)) :=
    Lib.tabIs_of_head (rest := []) gTab gTabType Tryd.underlying89 Tryd.underlying57 cells32 cellsTab h
  intro j hj
  have := T.cell gTab j (by simpa [tabL] using hj)
  rw [this]
  unfold tab
  have : j < tabL.length := by simpa [tabL] using hj
  simp [List.getD, List.getElem?_eq_getElem this]

/-- A world for the witness: the settled one, the table holding what its initialiser lays. -/
noncomputable def laidWorld (os : Os) : World :=
  { World.holding Tryd.prog os ⟨#[], #[], []⟩ with heap := (World.holding Tryd.prog os ⟨#[], #[], []⟩).heap.modify 0 fun
      | .cells _ t frozen => .cells #[.int .u32 0, .int .u32 498536548, .int .u32 997073096, .int .u32 651767980, .int .u32 1994146192, .int .u32 1802195444, .int .u32 1303535960, .int .u32 1342533948, .int .u32 3988292384, .int .u32 4027552580, .int .u32 3604390888, .int .u32 3412177804, .int .u32 2607071920, .int .u32 2262029012, .int .u32 2685067896, .int .u32 3183342108] t frozen
      | o => o }
theorem laid_met (os : Os) (args : Array Value) : laidMet Tryd.prog [("weighhouse/wire.sums", Rows.laid_weighhouse_wire_sums)] ((laidWorld os).forCall (fun _ _ => 0) ⟨#[], args, []⟩).memory :=
  laidMet_of_run' 20 (by kernel_rfl) (by kernel_rfl)

end Go.Proofs.YtappcidcpcbckaaDoor
