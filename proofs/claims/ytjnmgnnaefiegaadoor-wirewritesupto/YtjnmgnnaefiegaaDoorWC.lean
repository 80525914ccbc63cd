/- What wire's frames come to: Sum, Frame, firstFrame and Frames of any bytes. -/
import Derived.Test.YtjnmgnnaefiegaaDoorWB
namespace Go.Proofs.YtjnmgnnaefiegaaDoor
open Go.RowKit

theorem Bs.keep {w w' : World} {ao : Option Addr} {bs : List UInt8} (h : Bs w ao bs) (hk : ∀ a v, w.cell? a = some v → w'.cell? a = some v) : Bs w' ao bs := by
  rcases h with h | ⟨b, off, h, hc⟩
  · exact .inl h
  · exact .inr ⟨b, off, h, fun j hj => hk _ _ (hc j hj)⟩
theorem below_keep {w w' : World} (hb : Below w.heap.size w w') : ∀ a v, w.cell? a = some v → w'.cell? a = some v := fun a v h => by
  rw [hb.cell (p := a) (World.block_lt_of_cell? _ _ h)]; exact h
theorem Tab.keep {w w' : World} (h : Tab w) (hk : ∀ a v, w.cell? a = some v → w'.cell? a = some v) : Tab w' := fun j hj => hk _ _ (h j hj)
theorem alloc_keep (w : World) (o : Obj) : ∀ a v, w.cell? a = some v → (w.alloc o).cell? a = some v :=
  below_keep ((Below.refl _ w).alloc (Nat.le_refl _) o)

/-- The sum of bytes. -/
def crc (bs : List UInt8) : Nat := 4294967295 - crcFold 4294967295 bs
theorem crc_lt (bs : List UInt8) : crc bs < 4294967296 := by unfold crc; omega
theorem crcParts_one (bs : List UInt8) : 4294967295 - crcParts 4294967295 [bs] = crc bs := rfl
theorem crcParts_two (a b : List UInt8) : 4294967295 - crcParts 4294967295 [a, b] = crc (a ++ b) := by
  simp only [crcParts, crc, crcFold, List.foldl_cons, List.foldl_nil, List.foldl_append]
/-- A frame's bytes. -/
def frameOf (bs : List UInt8) : List UInt8 := be bs.length 4 ++ be (rev4 (crc (be bs.length 4 ++ bs))) 4 ++ bs

theorem new_cell (w : World) (cs : Array Value) (t : TypeId) (k : Nat) (v : Value) (h : cs[k]? = some v) : (w.alloc (.cells cs t)).cell? ⟨w.heap.size, k, none⟩ = some v := by
  rw [cell_of_row _ _ k cs t (0, 0) (heap_alloc_new w _)]
  exact h
theorem sum_two (ao1 ao2 : Option Addr) (n1 n2 c1 c2 : Nat) (b1 b2 : List UInt8) (w : World) (t : TypeId) (h1 : b1.length = n1) (h2 : b2.length = n2) (m1 : n1 ≤ 140737488355328) (m2 : n2 ≤ 140737488355328)
    (hb1 : Bs w ao1 b1) (hb2 : Bs w ao2 b2) (ht : Tab w) :
    Calls Tryd.prog 55 #[.slice (some ⟨w.heap.size, 0, none⟩) 2 2] (w.alloc (.cells #[.slice ao1 n1 c1, .slice ao2 n2 c2] t)) fun e w' => e = .returned (.int .u32 (crc (b1 ++ b2) : Nat)) ∧ w' = w.alloc (.cells #[.slice ao1 n1 c1, .slice ao2 n2 c2] t) := by
  rw [← crcParts_two]
  refine sumOf_any w.heap.size 2 2 [b1, b2] _ rfl (by decide) (ht.keep (alloc_keep _ _)) (fun k hk => ?_)
  match k, hk with
  | 0, _ => exact ⟨ao1, c1, by subst h1; exact new_cell w _ t 0 _ rfl, by show b1.length ≤ _; omega, hb1.keep (alloc_keep _ _)⟩
  | 1, _ => exact ⟨ao2, c2, by subst h2; exact new_cell w _ t 1 _ rfl, by show b2.length ≤ _; omega, hb2.keep (alloc_keep _ _)⟩
theorem sum_one (ao1 : Option Addr) (n1 c1 : Nat) (b1 : List UInt8) (w : World) (t : TypeId) (h1 : b1.length = n1) (m1 : n1 ≤ 140737488355328)
    (hb1 : Bs w ao1 b1) (ht : Tab w) :
    Calls Tryd.prog 55 #[.slice (some ⟨w.heap.size, 0, none⟩) 1 1] (w.alloc (.cells #[.slice ao1 n1 c1] t)) fun e w' => e = .returned (.int .u32 (crc b1 : Nat)) ∧ w' = w.alloc (.cells #[.slice ao1 n1 c1] t) := by
  rw [← crcParts_one]
  refine sumOf_any w.heap.size 1 1 [b1] _ rfl (by decide) (ht.keep (alloc_keep _ _)) (fun k hk => ?_)
  match k, hk with
  | 0, _ => exact ⟨ao1, c1, by subst h1; exact new_cell w _ t 0 _ rfl, by show b1.length ≤ _; omega, hb1.keep (alloc_keep _ _)⟩

set_option maxHeartbeats 400000 in
theorem frame_big (ao : Option Addr) (len cap : Nat) (w : World) (hl : 1048576 < len) (hm : len ≤ 140737488355328) :
    Calls Tryd.prog 33 #[.slice ao len cap] w fun e w' => e = .returned (.tuple #[.slice none 0 0, .int .i64 6]) ∧ w' = w := by
  go_enter Tryd.func33, Tryd.ntmps33
  go_wp2
  go_ret2
  exact ⟨rfl, rfl⟩

set_option maxHeartbeats 1000000 in
theorem frame_any (ao : Option Addr) (len cap : Nat) (bs : List UInt8) (w : World) (hl : bs.length = len) (hm : len ≤ 1048576) (hb : Bs w ao bs) (ht : Tab w) :
    Calls Tryd.prog 33 #[.slice ao len cap] w fun e w' => ∃ v, e = .returned (.tuple #[v, .int .i64 0]) ∧ OwnB w' w.heap.size v (frameOf bs) ∧ Below w.heap.size w w' := by
  obtain ⟨i0, hi, hz0, hz1, hz2⟩ := info_parts (show (Tryd.prog.info? 5).map (fun i => (i.zero, i.size, i.bytes)) = some (some (.int .u8 0), 1, 1) by kernel_rfl)
  go_enter Tryd.func33, Tryd.ntmps33
  go_wp2_with (first | (at_make; refine wpList_make_own _ rfl _ _ 26 rfl w.heap.size 5 i0 (.int .u8 0) 1 Tryd.underlying26 hi hz0 hz1 _ _ _ (8 + len) rfl rfl (by omega) ?b1 ?b2 ?b3 ?_))
  case b1 => rw [hz2]; omega
  case b2 => unfold maxLen; omega
  case b3 => exact Nat.le_refl _
  intro w1 ho1 hg1
  have hO1 : OwnB w1 w.heap.size (.slice (some ⟨w.heap.size, 0, none⟩) 0 (8 + len)) [] := ho1
  have hb1 : Below w.heap.size w w1 := (Below.refl _ w).grown hg1 (Nat.le_refl _) (fun k h => by cases h)
  clear ho1 hg1
  go_wp2_with fail
  refine (appendNumber_at w.heap.size len 4 _ _ _ [] w1 (by omega) rfl hO1 (by decide) (by decide) hb1.size).mono ?_
  rintro e w2 ⟨v2, rfl, hO2, hs2⟩
  have hb2 : Below w.heap.size w w2 := hb1.trans (hs2.below hb1.size (fun k h => by have := (hO1.lt k h).1; exact this))
  rw [List.nil_append] at hO2
  obtain ⟨ao2, cap2, hv2, hle2, hmx2, hB2, hat2, _⟩ := Own.bs hO2
  rw [be_length] at hv2
  subst hv2
  clear hO1 hb1 hs2
  go_wp2_with fail
  refine (sum_two ao2 ao 4 len cap2 cap (be len 4) bs w2 _ (be_length _ _) hl (by decide) (by omega) hB2 (hb.keep (below_keep hb2)) (ht.keep (below_keep hb2))).mono ?_
  rintro e w3 ⟨rfl, rfl⟩
  go_wp2_with fail
  refine (lowestFirst_any _ _ (crc_lt _)).mono ?_
  rintro e w3 ⟨rfl, rfl⟩
  go_wp2_with fail
  refine (appendNumber_at w.heap.size (rev4 (crc (be len 4 ++ bs))) 4 _ _ _ (be len 4) _ rfl rfl (Own.alloc hO2 _) (by decide) (by rw [be_length]; decide) (by have := hb2.size; simp; omega)).mono ?_
  rintro e w4 ⟨v4, rfl, hO4, hs4⟩
  have hb4 : Below w.heap.size w w4 := (hb2.alloc (hb2.size) _).trans (hs4.below (by have := hb2.size; simp; omega) (fun k h => (hO2.lt k h).1))
  have hl4 : (be len 4 ++ be (rev4 (crc (be len 4 ++ bs))) 4).length = 8 := by simp [be_length]
  have HF : Hid (be len 4 ++ be (rev4 (crc (be len 4 ++ bs))) 4 ++ bs = frameOf bs) := by unfold frameOf; rw [hl]; rfl
  generalize be len 4 ++ be (rev4 (crc (be len 4 ++ bs))) 4 = x4 at hO4 hl4 HF
  have hS := src_bs w4 Tryd.underlying26 (hb.keep (below_keep hb4)) cap
  rw [hl] at hS
  clear hs4 hO2 hB2 hat2
  go_wp2_with (at_builtin; refine wpList_app _ rfl _ _ _ _ rfl elem_u8 w.heap.size _ _ rfl hO4 _ rfl (bs.map bv) hS ?c1 ?c2 ?c3 ?_)
  case c1 => simp only [List.length_map, hl4, hl]; unfold maxLen; omega
  case c2 => simp only [List.length_map, hl4, hl]; omega
  case c3 => exact hb4.size
  intro v5 w5 hO5 hs5
  have hb5 : Below w.heap.size w w5 := hb4.trans (hs5.below hb4.size (fun k h => (hO4.lt k h).1))
  rw [← List.map_append, HF.out] at hO5
  clear hs5 hO4 hb4 hS
  go_wp2
  go_ret2
  exact ⟨_, rfl, hO5, hb5⟩

end Go.Proofs.YtjnmgnnaefiegaaDoor
