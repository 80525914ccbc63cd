/- What the document's own Frame comes to, and the law's helper Stays. -/
import Derived.Test.YtjnmgnnaefiegaaDoorWR
namespace Go.Proofs.YtjnmgnnaefiegaaDoor
open Go.RowKit

theorem be_drop4 (n : Nat) : (be n 8).drop 4 = be n 4 := by
  have e1 : be n 8 = [UInt8.ofNat (n / 256 ^ 7), UInt8.ofNat (n / 256 ^ 6), UInt8.ofNat (n / 256 ^ 5), UInt8.ofNat (n / 256 ^ 4), UInt8.ofNat (n / 256 ^ 3), UInt8.ofNat (n / 256 ^ 2), UInt8.ofNat (n / 256 ^ 1), UInt8.ofNat (n / 256 ^ 0)] := rfl
  have e2 : be n 4 = [UInt8.ofNat (n / 256 ^ 3), UInt8.ofNat (n / 256 ^ 2), UInt8.ofNat (n / 256 ^ 1), UInt8.ofNat (n / 256 ^ 0)] := rfl
  rw [e1, e2]; rfl
theorem ofNat_mod (a b : Nat) (h : a % 256 = b % 256) : UInt8.ofNat a = UInt8.ofNat b := by
  apply UInt8.toNat_inj.1
  rw [UInt8.toNat_ofNat', UInt8.toNat_ofNat']
  omega
theorem quad (a b c d : Nat) (hb : b < 256) (hc : c < 256) (hd : d < 256) : (a * 16777216 + b * 65536 + c * 256 + d) / 16777216 = a ∧ (a * 16777216 + b * 65536 + c * 256 + d) / 65536 = a * 256 + b ∧ (a * 16777216 + b * 65536 + c * 256 + d) / 256 = a * 65536 + b * 256 + c := by
  refine ⟨?_, ?_, ?_⟩
  · rw [show a * 16777216 + b * 65536 + c * 256 + d = 16777216 * a + (b * 65536 + c * 256 + d) by omega, Nat.mul_add_div (by decide), Nat.div_eq_of_lt (by omega), Nat.add_zero]
  · rw [show a * 16777216 + b * 65536 + c * 256 + d = 65536 * (a * 256 + b) + (c * 256 + d) by omega, Nat.mul_add_div (by decide), Nat.div_eq_of_lt (by omega), Nat.add_zero]
  · rw [show a * 16777216 + b * 65536 + c * 256 + d = 256 * (a * 65536 + b * 256 + c) + d by omega, Nat.mul_add_div (by decide), Nat.div_eq_of_lt (by omega), Nat.add_zero]
theorem be_rev4 (c : Nat) (h : c < 4294967296) : be (rev4 c) 4 = [UInt8.ofNat c, UInt8.ofNat (c / 256), UInt8.ofNat (c / 65536), UInt8.ofNat (c / 16777216)] := by
  have e2 : be (rev4 c) 4 = [UInt8.ofNat (rev4 c / 256 ^ 3), UInt8.ofNat (rev4 c / 256 ^ 2), UInt8.ofNat (rev4 c / 256 ^ 1), UInt8.ofNat (rev4 c / 256 ^ 0)] := rfl
  obtain ⟨q1, q2, q3⟩ := quad (c % 256) (c / 256 % 256) (c / 65536 % 256) (c / 16777216) (by omega) (by omega) (by omega)
  have r : rev4 c = c % 256 * 16777216 + c / 256 % 256 * 65536 + c / 65536 % 256 * 256 + c / 16777216 := rfl
  rw [← r] at q1 q2 q3
  rw [e2, show (256 : Nat) ^ 3 = 16777216 from rfl, show (256 : Nat) ^ 2 = 65536 from rfl, show (256 : Nat) ^ 1 = 256 from rfl, show (256 : Nat) ^ 0 = 1 from rfl, q1, q2, q3, Nat.div_one,
    ofNat_mod (c % 256) c (by omega), ofNat_mod (c % 256 * 256 + c / 256 % 256) (c / 256) (by omega), ofNat_mod (c % 256 * 65536 + c / 256 % 256 * 256 + c / 65536 % 256) (c / 65536) (by omega), ofNat_mod (rev4 c) (c / 16777216) (by rw [r]; omega)]
theorem low_byte (c : Nat) : (c : Int) % 256 = (((UInt8.ofNat c).toNat : Nat) : Int) := by rw [UInt8.toNat_ofNat']; omega

set_option maxHeartbeats 400000 in
theorem refFrame_big (ao : Option Addr) (len cap : Nat) (w : World) (hl : 1048576 < len) (hm : len ≤ 140737488355328) :
    Calls Tryd.prog 34 #[.slice ao len cap] w fun e w' => e = .returned (.tuple #[.slice none 0 0, .int .i64 6]) ∧ w' = w := by
  go_enter Tryd.func34, Tryd.ntmps34
  go_wp2
  go_ret2
  exact ⟨rfl, rfl⟩

set_option maxHeartbeats 1000000 in
theorem refFrame_any (ao : Option Addr) (len cap : Nat) (bs : List UInt8) (w : World) (hl : bs.length = len) (hm : len ≤ 1048576) (hb : Bs w ao bs) :
    Calls Tryd.prog 34 #[.slice ao len cap] w fun e w' => ∃ v, e = .returned (.tuple #[v, .int .i64 0]) ∧ OwnO w' w.heap.size 5 v ((frameOf bs).map bv) ∧ Below w.heap.size w w' := by
  go_enter Tryd.func34, Tryd.ntmps34
  go_wp2_with fail
  refine (refNumber_any len w).mono ?_
  rintro e w1 ⟨v1, rfl, hO1, hb1⟩
  have e64 : be64 (len : Int) = be len 8 := by unfold be64; congr 1; omega
  rw [e64] at hO1
  obtain ⟨ao1, cap1, hv1, hle1, hmx1, _, _, _⟩ := Own.bs hO1
  rw [be_length] at hv1 hle1
  subst hv1
  obtain ⟨hq, g1, rfl, _, hO2⟩ := OwnO.cut (k := 4) hO1 (by rw [List.length_map, be_length]; decide)
  rw [← List.map_drop, be_drop4] at hO2
  have h4 : ¬ cap1 = 4 := by omega
  clear e64 hO1 hq
  unfold maxLen at hmx1
  have hbz : Below w.heap.size w (w1.alloc (.cells #[] 5)) := hb1.alloc hb1.size _
  have hOz : OwnB (w1.alloc (.cells #[] 5)) w.heap.size (.slice (some ⟨w1.heap.size, 0, none⟩) 0 0) [] := World.ownsRow_lit w1 #[] 0 hb1.size (Nat.zero_le _) rfl
  have hO2z := hO2.alloc (.cells #[] 5)
  obtain ⟨ao2, cap2, hv2, _, _, hB2⟩ := OwnO.bs hO2z
  have hS2 := src_bs (P := Tryd.prog) _ Tryd.underlying26 hB2 cap2
  rw [← hv2] at hS2
  clear hv2 hB2
  go_wp2_with (at_builtin; go_loud (refine wpList_app _ rfl (.tmp 13) (.tmp 14) _ _ rfl elem_u8 w.heap.size _ _ rfl hOz _ rfl ((be len 4).map bv) hS2 (by simp only [List.length_map, be_length]; unfold maxLen; simp) (by simp only [List.length_map, be_length]; simp) (by have := hb1.size; simp; omega) ?_))
  intro v2 w2 ho2 hs2
  have hlt1 : ∀ k, (Value.slice (some ⟨g1, 4, none⟩) (8 - 4) (cap1 - 4)).ownBlock = some k → k < w1.heap.size := fun k h => (hO2.lt k h).2
  have hge2 : ∀ k, v2.ownBlock = some k → w1.heap.size ≤ k := by
    intro k hk
    rcases hs2.2 with e | ⟨g, e, hg⟩
    · rw [e] at hk; simp [Value.ownBlock] at hk; omega
    · rw [e] at hk; simp at hk hg; omega
  have hO3 : OwnO w2 w.heap.size 5 (.slice (some ⟨g1, 4, none⟩) (8 - 4) (cap1 - 4)) ((be len 4).map bv) := hO2z.kept hs2.1 (fun e => by have := hlt1 g1 rfl; simp [Value.ownBlock] at e; omega)
  have hb2 : Below w.heap.size w w2 := hbz.trans (hs2.below (by have := hb1.size; simp; omega) (fun k h => (hOz.lt k h).1))
  have hS3 := src_bs (P := Tryd.prog) w2 Tryd.underlying26 (hb.keep (below_keep hb2)) cap
  rw [hl] at hS3
  clear hs2 hO2z hOz hS2 hbz hO2
  go_wp2_with (at_builtin; go_loud (refine wpList_app _ rfl (.tmp 15) (.tmp 16) _ _ rfl elem_u8 w.heap.size _ _ rfl ho2 _ rfl (bs.map bv) hS3 (by simp only [List.length_map, be_length, hl]; unfold maxLen; omega) (by simp only [List.length_map, be_length, hl]; omega) hb2.size ?_))
  intro v3 w3 ho3 hs3
  rw [← List.map_append] at ho3
  have hO4 : OwnO w3 w.heap.size 5 (.slice (some ⟨g1, 4, none⟩) (8 - 4) (cap1 - 4)) ((be len 4).map bv) := hO3.kept hs3.1 (fun e => by have := hlt1 g1 rfl; have := hge2 g1 e.symm; omega)
  have hb3 : Below w.heap.size w w3 := hb2.trans (hs3.below hb2.size (fun k h => (ho2.lt k h).1))
  obtain ⟨ao3, cap3, hv3, hle3, hmx3, hB3, _, _⟩ := Own.bs ho3
  have hl3 : (be len 4 ++ bs).length = 4 + len := by rw [List.length_append, be_length, hl]
  rw [hl3] at hv3
  subst hv3
  clear hs3 hS3 ho2 hO3 hb2 hge2 hlt1 ho3
  go_wp2_with fail
  refine (refSum_any ao3 (4 + len) cap3 (be len 4 ++ bs) w3 hl3 (by omega) hB3).mono ?_
  rintro e w4 ⟨rfl, hw⟩
  subst hw
  have hC := crc_lt (be len 4 ++ bs)
  have HF : Hid (be len 4 ++ be (rev4 (crc (be len 4 ++ bs))) 4 ++ bs = frameOf bs) := by unfold frameOf; rw [hl]; rfl
  generalize crc (be len 4 ++ bs) = C at hC HF
  have k0 := low_byte C
  have k1 := low_byte (C / 256)
  have k2 := low_byte (C / 65536)
  have k3 := low_byte (C / 16777216)
  rw [show ((C / 256 : Nat) : Int) = (C : Int) / 256 by omega] at k1
  rw [show ((C / 65536 : Nat) : Int) = (C : Int) / 65536 by omega] at k2
  rw [show ((C / 16777216 : Nat) : Int) % 256 = (C : Int) / 16777216 by omega] at k3
  rw [be_rev4 C hC] at HF
  generalize UInt8.ofNat C = x0 at *
  generalize UInt8.ofNat (C / 256) = x1 at *
  generalize UInt8.ofNat (C / 65536) = x2 at *
  generalize UInt8.ofNat (C / 16777216) = x3 at *
  clear hB3
  go_wp2_with (at_builtin; go_loud (refine wpList_appO _ rfl (.tmp 19) (.tmp 31) _ _ rfl elem_u8 w.heap.size _ _ rfl (hO4.alloc _) _ rfl [bv x0, bv x1, bv x2, bv x3] (Src.ofSlice _ Tryd.underlying26 ⟨w4.heap.size, 0, none⟩ 4 4 _ rfl (World.news_of_block (heap_alloc_new w4 _)) (by intro u hu; simp at hu; rcases hu with rfl | rfl | rfl | rfl <;> rfl)) (by simp only [List.length_map, be_length]; unfold maxLen; simp) (by simp only [List.length_map, be_length]; simp) (by have := hb3.size; simp; omega) ?_))
  intro v5 w5 ho5 hs5
  have hO5 : OwnO w5 w.heap.size 5 v5 ((be len 4 ++ [x0, x1, x2, x3]).map bv) := by rw [List.map_append]; exact ho5
  have hb5 : Below w.heap.size w w5 := (hb3.alloc hb3.size _).trans (hs5.below (by have := hb3.size; simp; omega) (fun k h => (hO4.lt k h).1))
  have hS5 := src_bs (P := Tryd.prog) w5 Tryd.underlying26 (hb.keep (below_keep hb5)) cap
  rw [hl] at hS5
  have hl5 : (be len 4 ++ [x0, x1, x2, x3]).length = 8 := by rw [List.length_append, be_length]; rfl
  generalize be len 4 ++ [x0, x1, x2, x3] = ys at hO5 hl5 HF
  clear ho5 hs5 hO4 hb3 k0 k1 k2 k3
  go_wp2_with (at_builtin; go_loud (refine wpList_appO _ rfl (.tmp 33) (.tmp 34) _ _ rfl elem_u8 w.heap.size _ _ rfl hO5 _ rfl (bs.map bv) hS5 (by simp only [List.length_map, hl5, hl]; unfold maxLen; omega) (by simp only [List.length_map, hl5, hl]; omega) hb5.size ?_))
  intro v6 w6 ho6 hs6
  rw [← List.map_append, HF.out] at ho6
  have hb6 : Below w.heap.size w w6 := hb5.trans (hs6.below hb5.size (fun k h => (hO5.lt k h).1))
  clear hs6 hO5 hb5 hS5
  go_wp2
  go_ret2
  exact ⟨_, rfl, ho6, hb6⟩

set_option maxHeartbeats 1000000 in
theorem stays_any (g len cap : Nat) (base : Nat) (bs : List UInt8) (ao : Option Addr) (c : Nat) (w : World) (hl : bs.length = len) (hm : len ≤ 140737488351232) (hO : OwnB w base (.slice (some ⟨g, 0, none⟩) (len + 2) cap) (bs ++ [77, 78])) (hb : Bs w ao bs) :
    Calls Tryd.prog 37 #[.slice (some ⟨g, 0, none⟩) len cap, .slice ao len c] w fun e w' => e = .returned (.bool true) ∧ Below w.heap.size w w' := by
  obtain ⟨hcap, hmx, hcell⟩ : len + 2 ≤ cap ∧ cap ≤ maxLen ∧ ∀ j u, ((bs ++ [77, 78]).map bv)[j]? = some u → w.cell? ⟨g, j, none⟩ = some u := by
    obtain ⟨ao', cap', hv, h1, h2, _, _, h5⟩ := Own.form hO
    simp only [Value.slice.injEq] at hv
    obtain ⟨rfl, _, rfl⟩ := hv
    obtain ⟨g', hg', hc⟩ := h5 _ rfl
    cases hg'
    simp only [List.length_map, List.length_append, hl] at h1
    exact ⟨h1, h2, hc⟩
  have hB1 : Bs w (some ⟨g, 0, none⟩) bs := by
    refine .inr ⟨g, 0, rfl, fun j hj => ?_⟩
    rw [Nat.zero_add]
    refine hcell j _ ?_
    rw [List.getElem?_map, List.getElem?_append_left hj, List.getElem?_eq_getElem hj]; rfl
  have c77 : w.cell? ⟨g, len, none⟩ = some (.int .u8 77) := hcell len _ (by subst hl; rw [List.getElem?_map, List.getElem?_append_right (Nat.le_refl _)]; simp [bv])
  have c78 : w.cell? ⟨g, len + 1, none⟩ = some (.int .u8 78) := hcell (len + 1) _ (by subst hl; rw [List.getElem?_map, List.getElem?_append_right (by omega)]; simp [bv])
  have s1 : ∀ nq, (convert 26 9 (.slice (some ⟨g, 0, none⟩) len cap)).run Tryd.prog (w.drewN nq) = .ok (.string ⟨bs.toArray⟩) (w.drewN nq) := fun nq => by
    subst hl; exact run_str (hB1.keep (fun a v h => by simpa using h)) cap
  have s2 : ∀ nq, (convert 26 9 (.slice ao len c)).run Tryd.prog (w.drewN nq) = .ok (.string ⟨bs.toArray⟩) (w.drewN nq) := fun nq => by
    subst hl; exact run_str (hb.keep (fun a v h => by simpa using h)) c
  have hi1 : (0 : Int) ≤ (len : Int) + 2 := by omega
  have hi2 : (len : Int) + 2 ≤ (cap : Int) := by omega
  unfold maxLen at hmx
  clear hcell hB1 hO hb
  go_enter Tryd.func37, Tryd.ntmps37
  go_wp2
  go_quiet (fail)
  go_wp2
  go_ret
  exact ⟨rfl, below_drewN (Below.refl _ _) _⟩

end Go.Proofs.YtjnmgnnaefiegaaDoor
