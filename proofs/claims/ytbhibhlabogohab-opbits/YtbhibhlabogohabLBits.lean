/- The walk of OpBits. -/
import Derived.Test.YtbhibhlabogohabOKn
import Derived.Test.YtbhibhlabogohabOKt
import Derived.Test.YtbhibhlabogohabOM
namespace Go.Proofs.Ytbhibhlabogohab
open Go.RowKit
attribute [local go_sem high] eq_val eq_val0
theorem shl_same (a k : Int) : calcV 21 a (k - 64) = calcV 21 a k := by
  show wrap64 (a * 2 ^ ((k - 64) % 64).toNat) = wrap64 (a * 2 ^ (k % 64).toNat)
  rw [show (k - 64) % 64 = k % 64 by omega]
theorem shr_same (a k : Int) : calcV 22 a (k + 64) = calcV 22 a k := by
  show a / 2 ^ ((k + 64) % 64).toNat = a / 2 ^ (k % 64).toNat
  rw [show (k + 64) % 64 = k % 64 by omega]
set_option maxHeartbeats 4000000 in
set_option maxRecDepth 100000 in
theorem bits_walk (a b k : Int) (w : World) : Calls Try.prog 3 #[.int .i64 a, .int .i64 b, .int .i64 k] w fun e w' => e = .returned (.bool true) ∧ Below w.heap.size w w' := by
  obtain ⟨h0, h1, h2, h3⟩ := mod_span k
  have t1 := two_ok 17 a b (by simp [CalcOp])
  have t2 := two_ok 18 a b (by simp [CalcOp])
  have t3 := two_ok 19 a b (by simp [CalcOp])
  have t4 := two_ok 11 (calcV 17 a b) (calcV 18 a b) (by simp [CalcOp])
  have t5 := two_ok 11 a b (by simp [CalcOp])
  have t6 := two_ok 12 (calcV 18 a b) (calcV 17 a b) (by simp [CalcOp])
  rw [show calcV 11 (calcV 17 a b) (calcV 18 a b) = calcV 11 a b from and_or_sum a b] at t4
  rw [show calcV 12 (calcV 18 a b) (calcV 17 a b) = calcV 19 a b from or_less_and a b] at t6
  have s1 := fun K : Int => two_ok 21 a K (by simp [CalcOp])
  have s2 := fun K : Int => two_ok 21 a (K - 64) (by simp [CalcOp])
  have s3 := fun K : Int => two_ok 22 a K (by simp [CalcOp])
  have s4 := fun K : Int => two_ok 22 a (K + 64) (by simp [CalcOp])
  simp only [shl_same] at s2
  simp only [shr_same] at s4
  generalize calcV 11 a b = u at *
  generalize calcV 19 a b = z at *
  generalize calcV 18 a b = y at *
  generalize calcV 17 a b = x at *
  go_enter Try.func3, Try.ntmps3
  go_wp2_with fail
  refine (t1 _).mono ?_
  rintro e w1 ⟨rfl, hb1⟩
  go_wp2_with fail
  refine (t2 _).mono ?_
  rintro e w2 ⟨rfl, hb2⟩
  replace hb2 := hb1.trans (hb2.mono hb1.size)
  go_wp2_with fail
  refine (t3 _).mono ?_
  rintro e w3 ⟨rfl, hb3⟩
  replace hb3 := hb2.trans (hb3.mono hb2.size)
  go_wp2_with fail
  refine (t4 _).mono ?_
  rintro e w4 ⟨rfl, hb4⟩
  replace hb4 := hb3.trans (hb4.mono hb3.size)
  go_wp2_with fail
  refine (t5 _).mono ?_
  rintro e w5 ⟨rfl, hb5⟩
  replace hb5 := hb4.trans (hb5.mono hb4.size)
  go_wp2_with (go_at_call 5; refine (knows3_any _).mono ?_; rintro e w6 ⟨rfl, hb6⟩; replace hb6 := hb5.trans (hb6.mono hb5.size))
  refine (t6 _).mono ?_
  rintro e w7 ⟨rfl, hb7⟩
  replace hb7 := hb6.trans (hb7.mono hb6.size)
  clear t1 t2 t3 t4 t5 t6
  go_wp2_with fail
  have k0 : 0 ≤ k.tmod 64 % 64 := by omega
  have k1 : k.tmod 64 % 64 ≤ 63 := by omega
  clear h0 h1 h2 h3
  refine (s1 (k.tmod 64 % 64) _).mono ?_
  rintro e w8 ⟨rfl, hb8⟩
  replace hb8 := hb7.trans (hb8.mono hb7.size)
  go_wp2_with fail
  refine (s2 (k.tmod 64 % 64) _).mono ?_
  rintro e w9 ⟨rfl, hb9⟩
  replace hb9 := hb8.trans (hb9.mono hb8.size)
  go_wp2_with fail
  refine (s3 (k.tmod 64 % 64) _).mono ?_
  rintro e w10 ⟨rfl, hb10⟩
  replace hb10 := hb9.trans (hb10.mono hb9.size)
  go_wp2_with fail
  refine (s4 (k.tmod 64 % 64) _).mono ?_
  rintro e w11 ⟨rfl, hb11⟩
  replace hb11 := hb10.trans (hb11.mono hb10.size)
  go_wp2
  go_ret
  exact ⟨rfl, hb11⟩
end Go.Proofs.Ytbhibhlabogohab
