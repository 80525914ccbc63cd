/- Layer 9: op.Cost. Layer 9: bound's sum and times. -/
import Derived.Test.YtodagpmcmjleaaaYA
namespace Go.Proofs.Ytodagpmcmjleaaa
open Go.RowKit
set_option maxRecDepth 100000 in
set_option maxHeartbeats 1000000 in
theorem cost_no (n : Int) (w : World) (h : n < 1 ∨ 53 < n) : Calls Try.prog 15 #[.int .i64 n] w fun e w' => e = .returned (.int .i64 (costT n)) ∧ w' = w := by
  rw [show costT n = 0 from rowOf_none _ _ n h]
  have e13 : (n == 13) = false := by simp; omega
  have e14 : (n == 14) = false := by simp; omega
  have e15 : (n == 15) = false := by simp; omega
  have e33 : (n == 33) = false := by simp; omega
  have e34 : (n == 34) = false := by simp; omega
  have e35 : (n == 35) = false := by simp; omega
  have e36 : (n == 36) = false := by simp; omega
  have e37 : (n == 37) = false := by simp; omega
  have e38 : (n == 38) = false := by simp; omega
  have e39 : (n == 39) = false := by simp; omega
  have e40 : (n == 40) = false := by simp; omega
  have e41 : (n == 41) = false := by simp; omega
  have e42 : (n == 42) = false := by simp; omega
  have e43 : (n == 43) = false := by simp; omega
  have e44 : (n == 44) = false := by simp; omega
  have e45 : (n == 45) = false := by simp; omega
  have e46 : (n == 46) = false := by simp; omega
  have e51 : (n == 51) = false := by simp; omega
  have e53 : (n == 53) = false := by simp; omega
  go_enter Try.func15, Try.ntmps15
  go_wp2
  all_goals (go_ret; exact ⟨rfl, rfl⟩)
set_option maxRecDepth 100000 in
set_option maxHeartbeats 8000000 in
theorem cost_in (n : Int) (h : n = 1 ∨ n = 2 ∨ n = 3 ∨ n = 4 ∨ n = 5 ∨ n = 6 ∨ n = 7 ∨ n = 8 ∨ n = 9 ∨ n = 10 ∨ n = 11 ∨ n = 12 ∨ n = 13 ∨ n = 14 ∨ n = 15 ∨ n = 16 ∨ n = 17 ∨ n = 18 ∨ n = 19 ∨ n = 20 ∨ n = 21 ∨ n = 22 ∨ n = 23 ∨ n = 24 ∨ n = 25 ∨ n = 26 ∨ n = 27 ∨ n = 28 ∨ n = 29 ∨ n = 30 ∨ n = 31 ∨ n = 32 ∨ n = 33 ∨ n = 34 ∨ n = 35 ∨ n = 36 ∨ n = 37 ∨ n = 38 ∨ n = 39 ∨ n = 40 ∨ n = 41 ∨ n = 42 ∨ n = 43 ∨ n = 44 ∨ n = 45 ∨ n = 46 ∨ n = 47 ∨ n = 48 ∨ n = 49 ∨ n = 50 ∨ n = 51 ∨ n = 52 ∨ n = 53) (w : World) : Calls Try.prog 15 #[.int .i64 n] w fun e w' => e = .returned (.int .i64 (costT n)) ∧ w' = w := by
  rcases h with rfl | rfl | rfl | rfl | rfl | rfl | rfl | rfl | rfl | rfl | rfl | rfl | rfl | rfl | rfl | rfl | rfl | rfl | rfl | rfl | rfl | rfl | rfl | rfl | rfl | rfl | rfl | rfl | rfl | rfl | rfl | rfl | rfl | rfl | rfl | rfl | rfl | rfl | rfl | rfl | rfl | rfl | rfl | rfl | rfl | rfl | rfl | rfl | rfl | rfl | rfl | rfl | rfl
  all_goals as_aux_lemma =>
    go_enter Try.func15, Try.ntmps15
    go_wp2
    go_ret
    exact ⟨rfl, rfl⟩
theorem cost_any (n : Int) (w : World) : Calls Try.prog 15 #[.int .i64 n] w fun e w' => e = .returned (.int .i64 (costT n)) ∧ w' = w := by
  by_cases h : n < 1 ∨ 53 < n
  · exact cost_no n w h
  · exact cost_in n (op_cases n h) w
theorem cost9_any (n : Int) (w : World) : Calls Try.prog 15 #[.int .i64 n] w fun e w' => e = .returned (.int .i64 (costN n : Nat)) ∧ w' = w := by
  have h := (costT_pos n).1
  rw [← h]
  exact cost_any n w
end Go.Proofs.Ytodagpmcmjleaaa
namespace Go.Proofs.Ytodagpmcmjleaaa
open Go.RowKit
theorem hid9 {p : Prop} (h : p) : Hid p := h
set_option maxRecDepth 100000 in
set_option maxHeartbeats 1000000 in
theorem sum9_any (zs : List Nat) (a : Option Addr) (n c : Nat) (hn : zs.length = n) (bn : n ≤ 100000) (W : World) (hz : NsAt W.cell? a (zs.map Int.ofNat)) :
    Calls Try.prog 36 #[.slice a n c] W fun e w' => e = .returned (.int .i64 (cut zs.sum : Nat)) ∧ w' = W := by
  have HN := hid9 hn
  have HZ := hid9 hz
  clear hn hz
  go_enter Try.func36, Try.ntmps36
  go_wp2_with fail
  go_loopw [3, 8] (fun gv iv wr => ∃ k g : Nat, gv = .int .i64 g ∧ iv = .int .i64 k ∧ k ≤ n ∧ g ≤ 1048577 ∧ W = wr ∧ Hid (g = cut (zs.take k).sum)) (fun _ iv _ => n - (intOf iv).toNat)
  case atStart => exact ⟨0, 0, rfl, rfl, Nat.zero_le _, by omega, rfl, hid9 rfl⟩
  case round =>
    obtain ⟨k, g, rfl, rfl, hk, hg, rfl, HG⟩ := hrel
    by_cases hlt : k < n
    · have hkl : k < zs.length := by rw [HN.out]; exact hlt
      obtain ⟨zb, zo, e1, z1⟩ : ∃ zb zo, a = some ⟨zb, zo, none⟩ ∧ W.cell? ⟨zb, zo + k, none⟩ = some (.int .i64 (zs[k] : Nat)) := by
        rcases HZ.out with h | ⟨b, o, e, h⟩
        · rw [List.map_eq_nil_iff] at h; rw [h] at hkl; cases hkl
        · refine ⟨b, o, e, ?_⟩
          have := h k (by rw [List.length_map]; exact hkl)
          rw [List.getElem_map] at this
          exact this
      subst e1
      have HS : Hid (cut (zs.take (k + 1)).sum = g + min zs[k] (1048577 - g)) := hid9 (by
        rw [List.take_succ_eq_append_getElem hkl, List.sum_append_nat, List.sum_singleton, ← cut_add', ← HG.out]
        unfold cut TM
        omega)
      generalize zs[k] = z at *
      clear HG HZ
      go_wp2_with fail
      exact ⟨⟨k + 1, g + min z (1048577 - g), by congr 1; first | (split <;> omega) | omega, by go_num, by omega, by omega, trivial, hid9 HS.out.symm⟩, by simp [intOf]; omega⟩
    · obtain rfl : k = n := by omega
      have HE : Hid (g = cut zs.sum) := hid9 (by rw [HG.out, ← HN.out, List.take_length])
      clear HG HZ
      go_wp2_with fail
      go_ret
      exact ⟨by rw [← HE.out]; rfl, rfl⟩
/-- A slice of new numbers, handed to sum. -/
theorem sum9_one (x : Nat) (w : World) :
    Calls Try.prog 36 #[.slice (some ⟨w.heap.size, 0, none⟩) 1 1] (w.alloc (.cells #[.int .i64 (x : Int)] 3)) fun e w' => e = .returned (.int .i64 (cut x : Nat)) ∧ w' = w.alloc (.cells #[.int .i64 (x : Int)] 3) := by
  have := sum9_any [x] (some ⟨w.heap.size, 0, none⟩) 1 1 rfl (by omega) (w.alloc (.cells #[.int .i64 (x : Int)] 3)) (.inr ⟨_, _, rfl, fun j hj => by
    obtain rfl : j = 0 := by simp at hj; omega
    exact Lib.cell_of_heap (heap_alloc_new w _) 0⟩)
  simpa using this
theorem sum9_two (x y : Nat) (w : World) :
    Calls Try.prog 36 #[.slice (some ⟨w.heap.size, 0, none⟩) 2 2] (w.alloc (.cells #[.int .i64 (x : Int), .int .i64 (y : Int)] 3)) fun e w' => e = .returned (.int .i64 (cut (x + y) : Nat)) ∧ w' = w.alloc (.cells #[.int .i64 (x : Int), .int .i64 (y : Int)] 3) := by
  have := sum9_any [x, y] (some ⟨w.heap.size, 0, none⟩) 2 2 rfl (by omega) (w.alloc (.cells #[.int .i64 (x : Int), .int .i64 (y : Int)] 3)) (.inr ⟨_, _, rfl, fun j hj => by
    have hj2 : j = 0 ∨ j = 1 := by simp at hj; omega
    rcases hj2 with rfl | rfl
    · exact Lib.cell_of_heap (heap_alloc_new w _) 0
    · exact Lib.cell_of_heap (heap_alloc_new w _) 1⟩)
  simpa using this
theorem sum9_at (x y : Nat) (w : World) (B : Nat) (hB : w.heap.size = B) :
    Calls Try.prog 36 #[.slice (some ⟨B, 0, none⟩) 2 2] (w.alloc (.cells #[.int .i64 (x : Int), .int .i64 (y : Int)] 3)) fun e w' => e = .returned (.int .i64 (cut (x + y) : Nat)) ∧ w' = w.alloc (.cells #[.int .i64 (x : Int), .int .i64 (y : Int)] 3) := by
  subst hB
  exact sum9_two x y w
set_option maxRecDepth 100000 in
set_option maxHeartbeats 1000000 in
theorem times9_any (r g : Nat) (hg : g ≤ 1048577) (w : World) :
    Calls Try.prog 37 #[.int .i64 (r : Int), .int .i64 (g : Int)] w fun e w' => e = .returned (.int .i64 (cut (min r TM * g) : Nat)) ∧ Below w.heap.size w w' := by
  obtain ⟨v, hv⟩ : ∃ v, v = cut (min r TM * g) := ⟨_, rfl⟩
  rw [← hv]
  rcases Nat.lt_or_ge 1048577 r with h | h
  · have hp : 1048577 * g ≤ 1048577 * 1048577 := Nat.mul_le_mul_left _ hg
    have HS : Hid (∀ w : World, Calls Try.prog 36 #[.slice (some ⟨w.heap.size, 0, none⟩) 1 1] (w.alloc (.cells #[.int .i64 (1048577 * (g : Int))] 3)) fun e w' => e = .returned (.int .i64 (v : Nat)) ∧ w' = w.alloc (.cells #[.int .i64 (1048577 * (g : Int))] 3)) := hid9 fun w => by
      have := sum9_one (1048577 * g) w
      rw [hv, Nat.min_eq_right (show TM ≤ r from Nat.le_of_lt h)]
      simpa [TM] using this
    have hmin : min (r : Int) 1048577 = 1048577 := by omega
    clear hv
    go_enter Try.func37, Try.ntmps37
    go_wp2_with (first | (go_at_call 36; refine (HS.out _).mono ?_; clear HS; rintro e w' ⟨rfl, rfl⟩) | fail)
    go_ret
    exact ⟨rfl, (Below.refl _ w).alloc (Nat.le_refl _) _⟩
  · have hp : r * g ≤ 1048577 * 1048577 := Nat.mul_le_mul h hg
    have e1 : ((r * g : Nat) : Int) = (r : Int) * (g : Int) := Int.natCast_mul _ _
    have HS : Hid (∀ w : World, Calls Try.prog 36 #[.slice (some ⟨w.heap.size, 0, none⟩) 1 1] (w.alloc (.cells #[.int .i64 ((r : Int) * (g : Int))] 3)) fun e w' => e = .returned (.int .i64 (v : Nat)) ∧ w' = w.alloc (.cells #[.int .i64 ((r : Int) * (g : Int))] 3)) := hid9 fun w => by
      have := sum9_one (r * g) w
      rw [hv, Nat.min_eq_left (show r ≤ TM from h), ← e1]
      exact this
    have b1 : (r : Int) * (g : Int) ≤ 1048577 * 1048577 := by rw [← e1]; omega
    have b2 : 0 ≤ (r : Int) * (g : Int) := by rw [← e1]; omega
    have hmin : min (r : Int) 1048577 = (r : Int) := by omega
    clear hv e1
    go_enter Try.func37, Try.ntmps37
    go_wp2_with (first | (go_at_call 36; refine (HS.out _).mono ?_; clear HS; rintro e w' ⟨rfl, rfl⟩) | fail)
    go_ret
    exact ⟨rfl, (Below.refl _ w).alloc (Nat.le_refl _) _⟩
end Go.Proofs.Ytodagpmcmjleaaa
