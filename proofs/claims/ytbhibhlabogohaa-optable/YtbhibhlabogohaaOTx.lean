/- What op's tables come to, of any number. -/
import Derived.Test.YtbhibhlabogohaaOT
namespace Go.Proofs.Ytbhibhlabogohaa
open Go.RowKit

set_option maxHeartbeats 8000000 in
theorem in_np (n : Int) (h : n = 1 ∨ n = 2 ∨ n = 5 ∨ n = 6 ∨ n = 7 ∨ n = 8 ∨ n = 9 ∨ n = 10 ∨ n = 41 ∨ n = 42 ∨ n = 43 ∨ n = 44 ∨ n = 45 ∨ n = 46 ∨ n = 47 ∨ n = 48 ∨ n = 49 ∨ n = 50 ∨ n = 51 ∨ n = 52 ∨ n = 53) (w : World) : Calls Try.prog 18 #[.int .i64 n] w fun e w' => e = .returned (sliceOf (inT n) w) ∧ w' = worldOf (inT n) w := by
  rcases h with rfl | rfl | rfl | rfl | rfl | rfl | rfl | rfl | rfl | rfl | rfl | rfl | rfl | rfl | rfl | rfl | rfl | rfl | rfl | rfl | rfl
  all_goals as_aux_lemma =>
    go_enter Try.func18, Try.ntmps18
    go_wp2
    go_ret
    exact ⟨rfl, rfl⟩
set_option maxHeartbeats 8000000 in
theorem out_np (n : Int) (h : n = 1 ∨ n = 2 ∨ n = 5 ∨ n = 6 ∨ n = 7 ∨ n = 8 ∨ n = 9 ∨ n = 10 ∨ n = 41 ∨ n = 42 ∨ n = 43 ∨ n = 44 ∨ n = 45 ∨ n = 46 ∨ n = 47 ∨ n = 48 ∨ n = 49 ∨ n = 50 ∨ n = 51 ∨ n = 52 ∨ n = 53) (w : World) : Calls Try.prog 20 #[.int .i64 n] w fun e w' => e = .returned (sliceOf (outT n) w) ∧ w' = worldOf (outT n) w := by
  rcases h with rfl | rfl | rfl | rfl | rfl | rfl | rfl | rfl | rfl | rfl | rfl | rfl | rfl | rfl | rfl | rfl | rfl | rfl | rfl | rfl | rfl
  all_goals as_aux_lemma =>
    go_enter Try.func20, Try.ntmps20
    go_wp2
    go_ret
    exact ⟨rfl, rfl⟩
set_option maxHeartbeats 1000000 in
theorem in_no (n : Int) (w : World) (h : n < 1 ∨ 53 < n) : Calls Try.prog 18 #[.int .i64 n] w fun e w' => e = .returned (sliceOf (inT n) w) ∧ w' = worldOf (inT n) w := by
  rw [show inT n = [] from rowOf_none _ _ n h]
  have e5 : (n == 5) = false := by simp; omega
  have e6 : (n == 6) = false := by simp; omega
  have e7 : (n == 7) = false := by simp; omega
  have e8 : (n == 8) = false := by simp; omega
  have e10 : (n == 10) = false := by simp; omega
  have e11 : (n == 11) = false := by simp; omega
  have e12 : (n == 12) = false := by simp; omega
  have e13 : (n == 13) = false := by simp; omega
  have e14 : (n == 14) = false := by simp; omega
  have e15 : (n == 15) = false := by simp; omega
  have e16 : (n == 16) = false := by simp; omega
  have e17 : (n == 17) = false := by simp; omega
  have e18 : (n == 18) = false := by simp; omega
  have e19 : (n == 19) = false := by simp; omega
  have e20 : (n == 20) = false := by simp; omega
  have e21 : (n == 21) = false := by simp; omega
  have e22 : (n == 22) = false := by simp; omega
  have e23 : (n == 23) = false := by simp; omega
  have e24 : (n == 24) = false := by simp; omega
  have e25 : (n == 25) = false := by simp; omega
  have e26 : (n == 26) = false := by simp; omega
  have e27 : (n == 27) = false := by simp; omega
  have e28 : (n == 28) = false := by simp; omega
  have e29 : (n == 29) = false := by simp; omega
  have e30 : (n == 30) = false := by simp; omega
  have e31 : (n == 31) = false := by simp; omega
  have e32 : (n == 32) = false := by simp; omega
  have e33 : (n == 33) = false := by simp; omega
  have e34 : (n == 34) = false := by simp; omega
  have e35 : (n == 35) = false := by simp; omega
  have e36 : (n == 36) = false := by simp; omega
  have e37 : (n == 37) = false := by simp; omega
  have e38 : (n == 38) = false := by simp; omega
  have e39 : (n == 39) = false := by simp; omega
  have e40 : (n == 40) = false := by simp; omega
  have e41 : (n == 41) = false := by simp; omega
  have e42 : (n == 42) = false := by simp; omega
  have e43 : (n == 43) = false := by simp; omega
  have e44 : (n == 44) = false := by simp; omega
  have e45 : (n == 45) = false := by simp; omega
  have e46 : (n == 46) = false := by simp; omega
  have e48 : (n == 48) = false := by simp; omega
  have e52 : (n == 52) = false := by simp; omega
  go_enter Try.func18, Try.ntmps18
  go_wp2
  all_goals (go_ret; exact ⟨rfl, rfl⟩)
set_option maxHeartbeats 1000000 in
theorem out_no (n : Int) (w : World) (h : n < 1 ∨ 53 < n) : Calls Try.prog 20 #[.int .i64 n] w fun e w' => e = .returned (sliceOf (outT n) w) ∧ w' = worldOf (outT n) w := by
  rw [show outT n = [] from rowOf_none _ _ n h]
  have e1 : (n == 1) = false := by simp; omega
  have e2 : (n == 2) = false := by simp; omega
  have e3 : (n == 3) = false := by simp; omega
  have e4 : (n == 4) = false := by simp; omega
  have e6 : (n == 6) = false := by simp; omega
  have e7 : (n == 7) = false := by simp; omega
  have e8 : (n == 8) = false := by simp; omega
  have e9 : (n == 9) = false := by simp; omega
  have e11 : (n == 11) = false := by simp; omega
  have e12 : (n == 12) = false := by simp; omega
  have e13 : (n == 13) = false := by simp; omega
  have e14 : (n == 14) = false := by simp; omega
  have e15 : (n == 15) = false := by simp; omega
  have e16 : (n == 16) = false := by simp; omega
  have e17 : (n == 17) = false := by simp; omega
  have e18 : (n == 18) = false := by simp; omega
  have e19 : (n == 19) = false := by simp; omega
  have e20 : (n == 20) = false := by simp; omega
  have e21 : (n == 21) = false := by simp; omega
  have e22 : (n == 22) = false := by simp; omega
  have e23 : (n == 23) = false := by simp; omega
  have e24 : (n == 24) = false := by simp; omega
  have e25 : (n == 25) = false := by simp; omega
  have e26 : (n == 26) = false := by simp; omega
  have e27 : (n == 27) = false := by simp; omega
  have e28 : (n == 28) = false := by simp; omega
  have e29 : (n == 29) = false := by simp; omega
  have e30 : (n == 30) = false := by simp; omega
  have e31 : (n == 31) = false := by simp; omega
  have e32 : (n == 32) = false := by simp; omega
  have e33 : (n == 33) = false := by simp; omega
  have e34 : (n == 34) = false := by simp; omega
  have e35 : (n == 35) = false := by simp; omega
  have e36 : (n == 36) = false := by simp; omega
  have e37 : (n == 37) = false := by simp; omega
  have e38 : (n == 38) = false := by simp; omega
  have e39 : (n == 39) = false := by simp; omega
  have e40 : (n == 40) = false := by simp; omega
  have e41 : (n == 41) = false := by simp; omega
  have e42 : (n == 42) = false := by simp; omega
  have e45 : (n == 45) = false := by simp; omega
  go_enter Try.func20, Try.ntmps20
  go_wp2
  all_goals (go_ret; exact ⟨rfl, rfl⟩)
set_option maxHeartbeats 1000000 in
theorem takes_no (n : Int) (w : World) (h : n < 1 ∨ 53 < n) : Calls Try.prog 13 #[.int .i64 n] w fun e w' => e = .returned (.int .i64 (takesT n)) ∧ w' = w := by
  rw [show takesT n = 0 from rowOf_none _ _ n h]
  have e1 : (n == 1) = false := by simp; omega
  have e2 : (n == 2) = false := by simp; omega
  have e9 : (n == 9) = false := by simp; omega
  have e10 : (n == 10) = false := by simp; omega
  have e51 : (n == 51) = false := by simp; omega
  have e53 : (n == 53) = false := by simp; omega
  go_enter Try.func13, Try.ntmps13
  go_wp2
  all_goals (go_ret; exact ⟨rfl, rfl⟩)
set_option maxHeartbeats 1000000 in
theorem cost_no (n : Int) (w : World) (h : n < 1 ∨ 53 < n) : Calls Try.prog 15 #[.int .i64 n] w fun e w' => e = .returned (.int .i64 (costT n)) ∧ w' = w := by
  rw [show costT n = 0 from rowOf_none _ _ n h]
  have e13 : (n == 13) = false := by simp; omega
  have e14 : (n == 14) = false := by simp; omega
  have e15 : (n == 15) = false := by simp; omega
  have e33 : (n == 33) = false := by simp; omega
  have e34 : (n == 34) = false := by simp; omega
  have e35 : (n == 35) = false := by simp; omega
  have e36 : (n == 36) = false := by simp; omega
  have e37 : (n == 37) = false := by simp; omega
  have e38 : (n == 38) = false := by simp; omega
  have e39 : (n == 39) = false := by simp; omega
  have e40 : (n == 40) = false := by simp; omega
  have e41 : (n == 41) = false := by simp; omega
  have e42 : (n == 42) = false := by simp; omega
  have e43 : (n == 43) = false := by simp; omega
  have e44 : (n == 44) = false := by simp; omega
  have e45 : (n == 45) = false := by simp; omega
  have e46 : (n == 46) = false := by simp; omega
  have e51 : (n == 51) = false := by simp; omega
  have e53 : (n == 53) = false := by simp; omega
  go_enter Try.func15, Try.ntmps15
  go_wp2
  all_goals (go_ret; exact ⟨rfl, rfl⟩)
set_option maxHeartbeats 8000000 in
theorem takes_in (n : Int) (h : n = 1 ∨ n = 2 ∨ n = 3 ∨ n = 4 ∨ n = 5 ∨ n = 6 ∨ n = 7 ∨ n = 8 ∨ n = 9 ∨ n = 10 ∨ n = 11 ∨ n = 12 ∨ n = 13 ∨ n = 14 ∨ n = 15 ∨ n = 16 ∨ n = 17 ∨ n = 18 ∨ n = 19 ∨ n = 20 ∨ n = 21 ∨ n = 22 ∨ n = 23 ∨ n = 24 ∨ n = 25 ∨ n = 26 ∨ n = 27 ∨ n = 28 ∨ n = 29 ∨ n = 30 ∨ n = 31 ∨ n = 32 ∨ n = 33 ∨ n = 34 ∨ n = 35 ∨ n = 36 ∨ n = 37 ∨ n = 38 ∨ n = 39 ∨ n = 40 ∨ n = 41 ∨ n = 42 ∨ n = 43 ∨ n = 44 ∨ n = 45 ∨ n = 46 ∨ n = 47 ∨ n = 48 ∨ n = 49 ∨ n = 50 ∨ n = 51 ∨ n = 52 ∨ n = 53) (w : World) : Calls Try.prog 13 #[.int .i64 n] w fun e w' => e = .returned (.int .i64 (takesT n)) ∧ w' = w := by
  rcases h with rfl | rfl | rfl | rfl | rfl | rfl | rfl | rfl | rfl | rfl | rfl | rfl | rfl | rfl | rfl | rfl | rfl | rfl | rfl | rfl | rfl | rfl | rfl | rfl | rfl | rfl | rfl | rfl | rfl | rfl | rfl | rfl | rfl | rfl | rfl | rfl | rfl | rfl | rfl | rfl | rfl | rfl | rfl | rfl | rfl | rfl | rfl | rfl | rfl | rfl | rfl | rfl | rfl
  all_goals as_aux_lemma =>
    go_enter Try.func13, Try.ntmps13
    go_wp2
    go_ret
    exact ⟨rfl, rfl⟩
set_option maxHeartbeats 8000000 in
theorem cost_in (n : Int) (h : n = 1 ∨ n = 2 ∨ n = 3 ∨ n = 4 ∨ n = 5 ∨ n = 6 ∨ n = 7 ∨ n = 8 ∨ n = 9 ∨ n = 10 ∨ n = 11 ∨ n = 12 ∨ n = 13 ∨ n = 14 ∨ n = 15 ∨ n = 16 ∨ n = 17 ∨ n = 18 ∨ n = 19 ∨ n = 20 ∨ n = 21 ∨ n = 22 ∨ n = 23 ∨ n = 24 ∨ n = 25 ∨ n = 26 ∨ n = 27 ∨ n = 28 ∨ n = 29 ∨ n = 30 ∨ n = 31 ∨ n = 32 ∨ n = 33 ∨ n = 34 ∨ n = 35 ∨ n = 36 ∨ n = 37 ∨ n = 38 ∨ n = 39 ∨ n = 40 ∨ n = 41 ∨ n = 42 ∨ n = 43 ∨ n = 44 ∨ n = 45 ∨ n = 46 ∨ n = 47 ∨ n = 48 ∨ n = 49 ∨ n = 50 ∨ n = 51 ∨ n = 52 ∨ n = 53) (w : World) : Calls Try.prog 15 #[.int .i64 n] w fun e w' => e = .returned (.int .i64 (costT n)) ∧ w' = w := by
  rcases h with rfl | rfl | rfl | rfl | rfl | rfl | rfl | rfl | rfl | rfl | rfl | rfl | rfl | rfl | rfl | rfl | rfl | rfl | rfl | rfl | rfl | rfl | rfl | rfl | rfl | rfl | rfl | rfl | rfl | rfl | rfl | rfl | rfl | rfl | rfl | rfl | rfl | rfl | rfl | rfl | rfl | rfl | rfl | rfl | rfl | rfl | rfl | rfl | rfl | rfl | rfl | rfl | rfl
  all_goals as_aux_lemma =>
    go_enter Try.func15, Try.ntmps15
    go_wp2
    go_ret
    exact ⟨rfl, rfl⟩
theorem in_any (n : Int) (w : World) : Calls Try.prog 18 #[.int .i64 n] w fun e w' => e = .returned (sliceOf (inT n) w) ∧ w' = worldOf (inT n) w := by
  by_cases h : n < 1 ∨ 53 < n
  · exact in_no n w h
  by_cases hp : plainB n = true
  · exact in_pl n (plain_cases n hp) w
  · have hq : ¬ (3 ≤ n ∧ n ≤ 4 ∨ 11 ≤ n ∧ n ≤ 40) := by simpa [plainB] using hp
    exact in_np n (by omega) w
theorem out_any (n : Int) (w : World) : Calls Try.prog 20 #[.int .i64 n] w fun e w' => e = .returned (sliceOf (outT n) w) ∧ w' = worldOf (outT n) w := by
  by_cases h : n < 1 ∨ 53 < n
  · exact out_no n w h
  by_cases hp : plainB n = true
  · exact out_pl n (plain_cases n hp) w
  · have hq : ¬ (3 ≤ n ∧ n ≤ 4 ∨ 11 ≤ n ∧ n ≤ 40) := by simpa [plainB] using hp
    exact out_np n (by omega) w
theorem takes_any (n : Int) (w : World) : Calls Try.prog 13 #[.int .i64 n] w fun e w' => e = .returned (.int .i64 (takesT n)) ∧ w' = w := by
  by_cases h : n < 1 ∨ 53 < n
  · exact takes_no n w h
  · exact takes_in n (op_cases n h) w
theorem cost_any (n : Int) (w : World) : Calls Try.prog 15 #[.int .i64 n] w fun e w' => e = .returned (.int .i64 (costT n)) ∧ w' = w := by
  by_cases h : n < 1 ∨ 53 < n
  · exact cost_no n w h
  · exact cost_in n (op_cases n h) w
end Go.Proofs.Ytbhibhlabogohaa
