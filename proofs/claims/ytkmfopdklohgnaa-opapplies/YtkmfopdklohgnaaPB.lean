/- The document's numbers, compares. -/
import Derived.Test.YtkmfopdklohgnaaOF
import Derived.Test.YtkmfopdklohgnaaOM
import Derived.Test.YtkmfopdklohgnaaOT
namespace Go.Proofs.Ytkmfopdklohgnaa
open Go.RowKit
attribute [local go_sem high] eq_val eq_val0
theorem ret_two {a b : Int} {c : Int} (h : a = b) : Ending.returned (.tuple #[.int .i64 a, .int .i64 c]) = .returned (.tuple #[.int .i64 b, .int .i64 c]) := by rw [h]
theorem sub_same (a b : Int) : wrap64 (a - b) = wrap64 (a + wrap64 (-b)) := by
  obtain ⟨k, hk⟩ := wrap_off (-b)
  exact (wrap_same ⟨k, by rw [hk]; omega⟩).symm
theorem shl_u64 (a : Int) (p : Int) : wrap64 (IntKind.u64.wrap (IntKind.u64.wrap a * p)) = wrap64 (a * p) := by
  rw [IntKind.wrap_u64, IntKind.wrap_u64]
  obtain ⟨k, hk⟩ : ∃ k : Int, a % 18446744073709551616 = a + 18446744073709551616 * k := ⟨-(a / 18446744073709551616), by omega⟩
  refine wrap_same ⟨k * p - (a % 18446744073709551616 * p) / 18446744073709551616, ?_⟩
  have e : a % 18446744073709551616 * p = a * p + 18446744073709551616 * (k * p) := by rw [hk, Int.add_mul, Int.mul_assoc]
  rw [e]
  generalize a * p = u at *
  generalize k * p = v at *
  omega
theorem tmod_span {a b : Int} (h0 : -9223372036854775808 ≤ a) (h1 : a ≤ 9223372036854775807) : -9223372036854775808 ≤ a.tmod b ∧ a.tmod b ≤ 9223372036854775807 := by
  have hn : (a.tmod b).natAbs ≤ a.natAbs := by
    rw [Int.natAbs_tmod]
    exact Nat.mod_le _ _
  by_cases ha : 0 ≤ a
  · have := Int.tmod_nonneg b ha
    omega
  · have h2 := Int.tmod_nonneg b (a := -a) (by omega)
    rw [Int.neg_tmod] at h2
    omega
theorem rem_same {a b : Int} (h0 : -9223372036854775808 ≤ a) (h1 : a ≤ 9223372036854775807) : wrap64 (a - wrap64 (wrap64 (a.tdiv b) * b)) = a.tmod b := by
  obtain ⟨k, hk⟩ := wrap_off (a.tdiv b)
  obtain ⟨m, hm⟩ := wrap_off (wrap64 (a.tdiv b) * b)
  have e := Int.tmod_add_mul_tdiv a b
  have e2 : wrap64 (a.tdiv b) * b = b * a.tdiv b + 18446744073709551616 * (k * b) := by rw [hk, Int.add_mul, Int.mul_comm (a.tdiv b) b, Int.mul_assoc]
  have hs := tmod_span (b := b) h0 h1
  rw [wrap_same (y := a.tmod b) ⟨-(k * b) - m, by rw [hm, e2]; generalize b * a.tdiv b = u at *; generalize k * b = v at *; omega⟩, wrap_in hs.1 hs.2]
theorem tdiv_neg1 (a : Int) : a.tdiv (-1) = -a := by rw [Int.tdiv_neg, Int.tdiv_one]
set_option maxHeartbeats 2000000 in
theorem rnumbers_any (n a b : Int) (hc : CalcOp n b) (g0 : -9223372036854775808 ≤ a) (g1 : a ≤ 9223372036854775807) (w : World) (r : ByteArray) (hr : r = ⟨(nameT n).toArray⟩) : Calls Try.prog 32 #[.string r, .int .i64 a, .int .i64 b] w fun e w' => e = .returned (.tuple #[.int .i64 (calcV n a b), .int .i64 0]) ∧ w' = w := by
  rcases hc with rfl | rfl | rfl | ⟨rfl, h⟩ | ⟨rfl, h⟩ | rfl | rfl | rfl | rfl | rfl
  · replace hr : r = ⟨#[97, 100, 100]⟩ := hr
    subst hr
    go_enter Try.func32, Try.ntmps32
    go_wp2
    go_ret2
    exact ⟨rfl, rfl⟩
  · replace hr : r = ⟨#[115, 117, 98]⟩ := hr
    subst hr
    go_enter Try.func32, Try.ntmps32
    go_wp2
    go_ret2
    exact ⟨ret_two (sub_same a b), rfl⟩
  · replace hr : r = ⟨#[109, 117, 108]⟩ := hr
    subst hr
    go_enter Try.func32, Try.ntmps32
    go_wp2
    go_ret2
    exact ⟨rfl, rfl⟩
  · replace hr : r = ⟨#[100, 105, 118]⟩ := hr
    subst hr
    have e1 : (b == 0) = false := by simp [h]
    by_cases h' : b = -1
    · subst h'
      go_enter Try.func32, Try.ntmps32
      go_wp2
      go_ret2
      exact ⟨ret_two (show wrap64 (-a) = wrap64 (a.tdiv (-1)) by rw [tdiv_neg1]), rfl⟩
    · have e2 : (b == -1) = false := by simp [h']
      go_enter Try.func32, Try.ntmps32
      go_wp2
      go_ret2
      exact ⟨rfl, rfl⟩
  · replace hr : r = ⟨#[114, 101, 109]⟩ := hr
    subst hr
    have e1 : (b == 0) = false := by simp [h]
    by_cases h' : b = -1
    · subst h'
      go_enter Try.func32, Try.ntmps32
      go_wp2
      go_ret2
      exact ⟨ret_two (show wrap64 (a - wrap64 (-wrap64 (-a))) = a.tmod (-1) by have h := rem_same (b := -1) g0 g1; rw [tdiv_neg1, Int.mul_neg_one] at h; exact h), rfl⟩
    · have e2 : (b == -1) = false := by simp [h']
      go_enter Try.func32, Try.ntmps32
      go_wp2
      go_ret2
      exact ⟨ret_two (rem_same g0 g1), rfl⟩
  · replace hr : r = ⟨#[97, 110, 100]⟩ := hr
    subst hr
    go_enter Try.func32, Try.ntmps32
    go_wp2
    go_ret2
    exact ⟨rfl, rfl⟩
  · replace hr : r = ⟨#[111, 114]⟩ := hr
    subst hr
    go_enter Try.func32, Try.ntmps32
    go_wp2
    go_ret2
    exact ⟨rfl, rfl⟩
  · replace hr : r = ⟨#[120, 111, 114]⟩ := hr
    subst hr
    go_enter Try.func32, Try.ntmps32
    go_wp2
    go_ret2
    exact ⟨rfl, rfl⟩
  · replace hr : r = ⟨#[115, 104, 108]⟩ := hr
    subst hr
    have hm := and63 b
    have h0 : 0 ≤ b % 64 := by omega
    have h1 : b % 64 ≤ 63 := by omega
    unfold calcV
    generalize b % 64 = m at *
    go_enter Try.func32, Try.ntmps32
    go_wp2
    go_ret2
    exact ⟨ret_two (shl_u64 a _), rfl⟩
  · replace hr : r = ⟨#[115, 104, 114]⟩ := hr
    subst hr
    have hm := and63 b
    have h0 : 0 ≤ b % 64 := by omega
    have h1 : b % 64 ≤ 63 := by omega
    unfold calcV
    generalize b % 64 = m at *
    go_enter Try.func32, Try.ntmps32
    go_wp2
    go_ret2
    exact ⟨rfl, rfl⟩
set_option maxHeartbeats 1000000 in
theorem rnumbers_zero (n a : Int) (hn : n = 14 ∨ n = 15) (w : World) (r : ByteArray) (hr : r = ⟨(nameT n).toArray⟩) : Calls Try.prog 32 #[.string r, .int .i64 a, .int .i64 0] w fun e w' => e = .returned (.tuple #[.int .i64 0, .int .i64 40]) ∧ w' = w := by
  rcases hn with rfl | rfl
  · replace hr : r = ⟨#[100, 105, 118]⟩ := hr
    subst hr
    go_enter Try.func32, Try.ntmps32
    go_wp2
    go_ret2
    exact ⟨rfl, rfl⟩
  · replace hr : r = ⟨#[114, 101, 109]⟩ := hr
    subst hr
    go_enter Try.func32, Try.ntmps32
    go_wp2
    go_ret2
    exact ⟨rfl, rfl⟩
theorem cmp_nums (a b : Int) : cmpV ⟨1, a, []⟩ ⟨1, b, []⟩ = if a = b then 0 else if a < b then -1 else 1 := by
  unfold cmpV lessV
  by_cases h : a = b <;> by_cases h2 : a < b <;> simp [h, h2]
theorem ret_bool {a b : Bool} (h : a = b) : Ending.returned (.bool a) = .returned (.bool b) := by rw [h]
set_option maxHeartbeats 2000000 in
theorem rcompares_any (n a b : Int) (hn : n = 23 ∨ n = 24 ∨ n = 25 ∨ n = 26 ∨ n = 27 ∨ n = 28) (w : World) (r : ByteArray) (hr : r = ⟨(nameT n).toArray⟩) : Calls Try.prog 33 #[.string r, .int .i64 a, .int .i64 b] w fun e w' => e = .returned (.bool (holdsV n (cmpV ⟨1, a, []⟩ ⟨1, b, []⟩))) ∧ w' = w := by
  rw [cmp_nums]
  rcases hn with rfl | rfl | rfl | rfl | rfl | rfl
  · replace hr : r = ⟨#[101, 113]⟩ := hr
    subst hr
    have HE : (a == b) = holdsV 23 (if a = b then 0 else if a < b then -1 else 1) := by
      by_cases h : a = b
      · subst h; simp [holdsV]
      · by_cases h2 : a < b
        · simp [h, h2, holdsV]; try omega
        · simp [h, h2, holdsV]; try omega
    rw [← HE]
    clear HE
    go_enter Try.func33, Try.ntmps33
    go_wp2
    go_ret
    exact ⟨rfl, rfl⟩
  · replace hr : r = ⟨#[110, 101]⟩ := hr
    subst hr
    have HE : (a != b) = holdsV 24 (if a = b then 0 else if a < b then -1 else 1) := by
      by_cases h : a = b
      · subst h; simp [holdsV]
      · by_cases h2 : a < b
        · simp [h, h2, holdsV]; try omega
        · simp [h, h2, holdsV]; try omega
    rw [← HE]
    clear HE
    go_enter Try.func33, Try.ntmps33
    go_wp2
    go_ret
    exact ⟨rfl, rfl⟩
  · replace hr : r = ⟨#[108, 116]⟩ := hr
    subst hr
    have HE : (decide (a < b)) = holdsV 25 (if a = b then 0 else if a < b then -1 else 1) := by
      by_cases h : a = b
      · subst h; simp [holdsV]
      · by_cases h2 : a < b
        · simp [h, h2, holdsV]; try omega
        · simp [h, h2, holdsV]; try omega
    rw [← HE]
    clear HE
    go_enter Try.func33, Try.ntmps33
    go_wp2
    go_ret
    exact ⟨rfl, rfl⟩
  · replace hr : r = ⟨#[108, 101]⟩ := hr
    subst hr
    have HE : (decide (a ≤ b)) = holdsV 26 (if a = b then 0 else if a < b then -1 else 1) := by
      by_cases h : a = b
      · subst h; simp [holdsV]
      · by_cases h2 : a < b
        · simp [h, h2, holdsV]; try omega
        · simp [h, h2, holdsV]; try omega
    rw [← HE]
    clear HE
    go_enter Try.func33, Try.ntmps33
    go_wp2
    go_ret
    exact ⟨rfl, rfl⟩
  · replace hr : r = ⟨#[103, 116]⟩ := hr
    subst hr
    have HE : (decide (b < a)) = holdsV 27 (if a = b then 0 else if a < b then -1 else 1) := by
      by_cases h : a = b
      · subst h; simp [holdsV]
      · by_cases h2 : a < b
        · simp [h, h2, holdsV]; try omega
        · simp [h, h2, holdsV]; try omega
    rw [← HE]
    clear HE
    go_enter Try.func33, Try.ntmps33
    go_wp2
    go_ret
    exact ⟨rfl, rfl⟩
  · replace hr : r = ⟨#[103, 101]⟩ := hr
    subst hr
    have HE : (decide (b ≤ a)) = holdsV 28 (if a = b then 0 else if a < b then -1 else 1) := by
      by_cases h : a = b
      · subst h; simp [holdsV]
      · by_cases h2 : a < b
        · simp [h, h2, holdsV]; try omega
        · simp [h, h2, holdsV]; try omega
    rw [← HE]
    clear HE
    go_enter Try.func33, Try.ntmps33
    go_wp2
    go_ret
    exact ⟨rfl, rfl⟩
end Go.Proofs.Ytkmfopdklohgnaa
