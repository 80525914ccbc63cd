/- What wire's frames come to: Sum, Frame, firstFrame and Frames of any bytes. What wire's Frames comes to. -/
import Derived.Test.YthmjejmignangaaGreatDoorWB
import Derived.BigQuiet
import Derived.Deep.QuietTactic
import Derived.WalkSmall
namespace Go.Proofs.YthmjejmignangaaGreatDoor
open Go.RowKit

theorem Bs.keep {w w' : World} {ao : Option Addr} {bs : List UInt8} (h : Bs w ao bs) (hk : ∀ a v, w.cell? a = some v → w'.cell? a = some v) : Bs w' ao bs := by
  rcases h with h | ⟨b, off, h, hc⟩
  · exact .inl h
  · exact .inr ⟨b, off, h, fun j hj => hk _ _ (hc j hj)⟩
theorem below_keep {w w' : World} (hb : Below w.heap.size w w') : ∀ a v, w.cell? a = some v → w'.cell? a = some v := fun a v h => by
  rw [hb.cell (p := a) (World.block_lt_of_cell? _ _ h)]; exact h
theorem alloc_keep (w : World) (o : Obj) : ∀ a v, w.cell? a = some v → (w.alloc o).cell? a = some v :=
  below_keep ((Below.refl _ w).alloc (Nat.le_refl _) o)

/-- The sum of bytes. -/
def crc (bs : List UInt8) : Nat := 4294967295 - crcFold 4294967295 bs
theorem crc_lt (bs : List UInt8) : crc bs < 4294967296 := by unfold crc; omega
theorem crcParts_one (bs : List UInt8) : 4294967295 - crcParts 4294967295 [bs] = crc bs := rfl
theorem crcParts_two (a b : List UInt8) : 4294967295 - crcParts 4294967295 [a, b] = crc (a ++ b) := by
  simp only [crcParts, crc, crcFold, List.foldl_cons, List.foldl_nil, List.foldl_append]
/-- A frame's bytes. -/
def frameOf (bs : List UInt8) : List UInt8 := be bs.length 4 ++ be (rev4 (crc (be bs.length 4 ++ bs))) 4 ++ bs

theorem new_cell (w : World) (cs : Array Value) (t : TypeId) (k : Nat) (v : Value) (h : cs[k]? = some v) : (w.alloc (.cells cs t)).cell? ⟨w.heap.size, k, none⟩ = some v := by
  rw [cell_of_row _ _ k cs t (0, 0) (heap_alloc_new w _)]
  exact h
end Go.Proofs.YthmjejmignangaaGreatDoor
namespace Go.Proofs.YthmjejmignangaaGreatDoor
open Go.RowKit

/-- What is in the frame that bytes begin with. -/
def firstOf (bs : List UInt8) : Option (List UInt8) :=
  if bs.length < 8 then none
  else if 1048576 < num (bs.take 4) then none
  else if bs.length - 8 < num (bs.take 4) then none
  else if num ((bs.drop 4).take 4) ≠ rev4 (crc (bs.take 4 ++ (bs.drop 8).take (num (bs.take 4)))) then none
  else some ((bs.drop 8).take (num (bs.take 4)))

theorem Bs.cut {w : World} {b off : Nat} {bs : List UInt8} (hc : ∀ j (h : j < bs.length), w.cell? ⟨b, off + j, none⟩ = some (.int .u8 (bs[j].toNat : Int))) (k n : Nat) : Bs w (some ⟨b, off + k, none⟩) ((bs.drop k).take n) := by
  refine .inr ⟨b, off + k, rfl, fun j hj => ?_⟩
  simp only [List.length_take, List.length_drop] at hj
  have := hc (k + j) (by omega)
  rw [← Nat.add_assoc] at this
  rw [this]
  simp

/-- What a call of firstFrame leaves. -/
def FirstEnd (w : World) (bs : List UInt8) (e : Ending) (w' : World) : Prop :=
  ∃ ao' c', e = .returned (.tuple #[.slice ao' ((firstOf bs).getD []).length c', .bool (firstOf bs).isSome]) ∧ ((firstOf bs).getD []).length ≤ c' ∧ Bs w ao' ((firstOf bs).getD []) ∧ Below w.heap.size w w'
theorem FirstEnd.no {w w' : World} {bs : List UInt8} (h : firstOf bs = none) (hb : Below w.heap.size w w') : FirstEnd w bs (.returned (.tuple #[.slice none 0 0, .bool false])) w' :=
  ⟨none, 0, by rw [h]; rfl, by rw [h]; exact Nat.le_refl _, by rw [h]; exact .inl rfl, hb⟩

theorem FirstEnd.yes {w w' : World} {bs inn : List UInt8} {ao : Option Addr} {n c : Nat} (h : firstOf bs = some inn) (hn : inn.length = n) (hc : n ≤ c) (hB : Bs w ao inn) (hb : Below w.heap.size w w') : FirstEnd w bs (.returned (.tuple #[.slice ao n c, .bool true])) w' := by
  subst hn
  exact ⟨ao, c, by rw [h]; rfl, by rw [h]; exact hc, by rw [h]; exact hB, hb⟩

theorem FirstEnd.elim_no {w w' : World} {bs : List UInt8} {e : Ending} (H : FirstEnd w bs e w') (h : firstOf bs = none) : ∃ ao c, e = .returned (.tuple #[.slice ao 0 c, .bool false]) ∧ Below w.heap.size w w' := by
  obtain ⟨ao, c, he, _, _, hb⟩ := H
  rw [h] at he
  exact ⟨ao, c, he, hb⟩
theorem FirstEnd.elim_yes {w w' : World} {bs inn : List UInt8} {e : Ending} (H : FirstEnd w bs e w') (h : firstOf bs = some inn) : ∃ ao c, e = .returned (.tuple #[.slice ao inn.length c, .bool true]) ∧ inn.length ≤ c ∧ Bs w ao inn ∧ Below w.heap.size w w' := by
  obtain ⟨ao, c, he, hc, hB, hb⟩ := H
  rw [h] at he hc hB
  exact ⟨ao, c, he, hc, hB, hb⟩

end Go.Proofs.YthmjejmignangaaGreatDoor
