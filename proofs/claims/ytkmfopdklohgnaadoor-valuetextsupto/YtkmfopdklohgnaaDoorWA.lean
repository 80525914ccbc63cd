/- What wire's smallest functions do: number reads bytes as a number, appendNumber writes one behind a slice, fresh copies a slice. -/
import Derived.Test.YtkmfopdklohgnaaDoorProg
import Derived.Test.YtkmfopdklohgnaaDoorPlain
import Derived.WalkLawsBesides
import Derived.Laws.CopyOwn
namespace Go.Proofs.YtkmfopdklohgnaaDoor
open Go.RowKit

theorem ret_int {k : IntKind} {a b : Int} (h : a = b) : Ending.returned (.int k a) = .returned (.int k b) := by rw [h]

theorem elem_u8 : Elem Tryd.prog 59 5 1 := by
  refine ⟨Tryd.underlying59, ?_⟩
  obtain ⟨i0, hi, hz0, hz1, hz2⟩ := info_parts (show (Tryd.prog.info? 5).map (fun i => (i.zero, i.size, i.bytes)) = some (some (.int .u8 0), 1, 1) by kernel_rfl)
  exact ⟨i0, _, hi, hz0, hz1, hz2, rfl⟩

/-- Owned bytes. -/
def OwnB (w : World) (base : Nat) (v : Value) (bs : List UInt8) : Prop := Own w base 5 v (bs.map bv)

end Go.Proofs.YtkmfopdklohgnaaDoor
