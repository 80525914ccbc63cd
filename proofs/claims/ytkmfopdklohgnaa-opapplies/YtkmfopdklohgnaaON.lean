/- What op.Name comes to, of any number; op.Find. -/
import Derived.Test.YtkmfopdklohgnaaOT
namespace Go.Proofs.Ytkmfopdklohgnaa
open Go.RowKit
set_option maxHeartbeats 1000000 in
theorem name_no (n : Int) (w : World) (h : n < 1 ∨ 53 < n) : Calls Try.prog 21 #[.int .i64 n] w fun e w' => e = .returned (.string ⟨(nameT n).toArray⟩) ∧ w' = w := by
  rw [show nameT n = [] from rowOf_none _ _ n h]
  rcases h with h | h
  · have g : n ≤ 10 := by omega
    have e1 : (n == 1) = false := by simp; omega
    have e2 : (n == 2) = false := by simp; omega
    have e3 : (n == 3) = false := by simp; omega
    have e4 : (n == 4) = false := by simp; omega
    have e5 : (n == 5) = false := by simp; omega
    have e6 : (n == 6) = false := by simp; omega
    have e7 : (n == 7) = false := by simp; omega
    have e8 : (n == 8) = false := by simp; omega
    have e9 : (n == 9) = false := by simp; omega
    have e10 : (n == 10) = false := by simp; omega
    go_enter Try.func21, Try.ntmps21
    go_wp2
    go_ret
    exact ⟨rfl, rfl⟩
  · have g1 : ¬ n ≤ 10 := by omega
    have g2 : ¬ n ≤ 28 := by omega
    have g3 : ¬ n ≤ 40 := by omega
    have e41 : (n == 41) = false := by simp; omega
    have e42 : (n == 42) = false := by simp; omega
    have e43 : (n == 43) = false := by simp; omega
    have e44 : (n == 44) = false := by simp; omega
    have e45 : (n == 45) = false := by simp; omega
    have e46 : (n == 46) = false := by simp; omega
    have e47 : (n == 47) = false := by simp; omega
    have e48 : (n == 48) = false := by simp; omega
    have e49 : (n == 49) = false := by simp; omega
    have e50 : (n == 50) = false := by simp; omega
    have e51 : (n == 51) = false := by simp; omega
    have e52 : (n == 52) = false := by simp; omega
    have e53 : (n == 53) = false := by simp; omega
    go_enter Try.func21, Try.ntmps21
    go_wp2
    go_ret
    exact ⟨rfl, rfl⟩
set_option maxHeartbeats 8000000 in
theorem name_in (n : Int) (h : n = 1 ∨ n = 2 ∨ n = 3 ∨ n = 4 ∨ n = 5 ∨ n = 6 ∨ n = 7 ∨ n = 8 ∨ n = 9 ∨ n = 10 ∨ n = 11 ∨ n = 12 ∨ n = 13 ∨ n = 14 ∨ n = 15 ∨ n = 16 ∨ n = 17 ∨ n = 18 ∨ n = 19 ∨ n = 20 ∨ n = 21 ∨ n = 22 ∨ n = 23 ∨ n = 24 ∨ n = 25 ∨ n = 26 ∨ n = 27 ∨ n = 28 ∨ n = 29 ∨ n = 30 ∨ n = 31 ∨ n = 32 ∨ n = 33 ∨ n = 34 ∨ n = 35 ∨ n = 36 ∨ n = 37 ∨ n = 38 ∨ n = 39 ∨ n = 40 ∨ n = 41 ∨ n = 42 ∨ n = 43 ∨ n = 44 ∨ n = 45 ∨ n = 46 ∨ n = 47 ∨ n = 48 ∨ n = 49 ∨ n = 50 ∨ n = 51 ∨ n = 52 ∨ n = 53) (w : World) : Calls Try.prog 21 #[.int .i64 n] w fun e w' => e = .returned (.string ⟨(nameT n).toArray⟩) ∧ w' = w := by
  rcases h with rfl | rfl | rfl | rfl | rfl | rfl | rfl | rfl | rfl | rfl | rfl | rfl | rfl | rfl | rfl | rfl | rfl | rfl | rfl | rfl | rfl | rfl | rfl | rfl | rfl | rfl | rfl | rfl | rfl | rfl | rfl | rfl | rfl | rfl | rfl | rfl | rfl | rfl | rfl | rfl | rfl | rfl | rfl | rfl | rfl | rfl | rfl | rfl | rfl | rfl | rfl | rfl | rfl
  all_goals as_aux_lemma =>
    go_enter Try.func21, Try.ntmps21
    go_wp2
    go_ret
    exact ⟨rfl, rfl⟩
theorem name_any (n : Int) (w : World) : Calls Try.prog 21 #[.int .i64 n] w fun e w' => e = .returned (.string ⟨(nameT n).toArray⟩) ∧ w' = w := by
  by_cases h : n < 1 ∨ 53 < n
  · exact name_no n w h
  · exact name_in n (op_cases n h) w
end Go.Proofs.Ytkmfopdklohgnaa
