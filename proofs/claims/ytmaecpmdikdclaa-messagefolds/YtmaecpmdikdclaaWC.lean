/- What wire's frames come to: Sum, Frame, firstFrame and Frames of any bytes. -/
import Derived.Test.YtmaecpmdikdclaaWB
namespace Go.Proofs.Ytmaecpmdikdclaa
open Go.RowKit

theorem Bs.keep {w w' : World} {ao : Option Addr} {bs : List UInt8} (h : Bs w ao bs) (hk : ∀ a v, w.cell? a = some v → w'.cell? a = some v) : Bs w' ao bs := by
  rcases h with h | ⟨b, off, h, hc⟩
  · exact .inl h
  · exact .inr ⟨b, off, h, fun j hj => hk _ _ (hc j hj)⟩
theorem below_keep {w w' : World} (hb : Below w.heap.size w w') : ∀ a v, w.cell? a = some v → w'.cell? a = some v := fun a v h => by
  rw [hb.cell (p := a) (World.block_lt_of_cell? _ _ h)]; exact h
theorem alloc_keep (w : World) (o : Obj) : ∀ a v, w.cell? a = some v → (w.alloc o).cell? a = some v :=
  below_keep ((Below.refl _ w).alloc (Nat.le_refl _) o)

/-- The sum of bytes. -/
def crc (bs : List UInt8) : Nat := 4294967295 - crcFold 4294967295 bs
theorem crc_lt (bs : List UInt8) : crc bs < 4294967296 := by unfold crc; omega
theorem crcParts_one (bs : List UInt8) : 4294967295 - crcParts 4294967295 [bs] = crc bs := rfl
theorem crcParts_two (a b : List UInt8) : 4294967295 - crcParts 4294967295 [a, b] = crc (a ++ b) := by
  simp only [crcParts, crc, crcFold, List.foldl_cons, List.foldl_nil, List.foldl_append]
/-- A frame's bytes. -/
def frameOf (bs : List UInt8) : List UInt8 := be bs.length 4 ++ be (rev4 (crc (be bs.length 4 ++ bs))) 4 ++ bs

theorem new_cell (w : World) (cs : Array Value) (t : TypeId) (k : Nat) (v : Value) (h : cs[k]? = some v) : (w.alloc (.cells cs t)).cell? ⟨w.heap.size, k, none⟩ = some v := by
  rw [cell_of_row _ _ k cs t (0, 0) (heap_alloc_new w _)]
  exact h
end Go.Proofs.Ytmaecpmdikdclaa
