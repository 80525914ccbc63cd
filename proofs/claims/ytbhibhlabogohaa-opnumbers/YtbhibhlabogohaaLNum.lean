/- The walk of OpNumbers. -/
import Derived.Test.YtbhibhlabogohaaOKn
import Derived.Test.YtbhibhlabogohaaOKt
import Derived.Test.YtbhibhlabogohaaOM
namespace Go.Proofs.Ytbhibhlabogohaa
open Go.RowKit
attribute [local go_sem high] eq_val eq_val0

theorem fit_1 (a : Int) : fitsB [⟨1, a, []⟩] [1] = true := by simp [fitsB, Val.right]
theorem apply_inv (a : Int) : applyV 20 [⟨1, a, []⟩] = ([⟨1, bits .xor .i64 (-1) a, []⟩], 0) := apply_ok rfl (fit_1 a) rfl
theorem apply_neg (a : Int) : applyV 16 [⟨1, a, []⟩] = ([⟨1, wrap64 (-a), []⟩], 0) := apply_ok rfl (fit_1 a) rfl
theorem vs_one' (w : World) (x : Val) (B : Nat) (hB : w.heap.size = B) : Vs (w.alloc (.cells #[.int .i64 x.t, .int .i64 x.n, .string ⟨x.b.toArray⟩] 45)) (some ⟨B, 0, none⟩) [x] := by
  subst hB
  exact vs_one w x
set_option maxHeartbeats 1000000 in
theorem one_any (b off c : Nat) (x : Val) (w : World) (h0 : w.cell? ⟨b, off, none⟩ = some (.int .i64 x.t)) (h1 : w.cell? ⟨b, off + 1, none⟩ = some (.int .i64 x.n)) (h2 : w.cell? ⟨b, off + 2, none⟩ = some (.string ⟨x.b.toArray⟩)) :
    Calls Try.prog 33 #[.slice (some ⟨b, off, none⟩) 1 c] w fun e w' => e = .returned x.v ∧ Below w.heap.size w w' := by
  obtain ⟨xt, xn, xb⟩ := x
  simp only at h0 h1 h2
  have hb := World.block_lt_of_cell? _ _ h0
  go_enter Try.func33, Try.ntmps33
  go_wp2
  exact ret_val w ⟨xt, xn, xb⟩ rfl rfl rfl ⟨rfl, (Below.refl _ w).alloc (Nat.le_refl _) _⟩
set_option maxHeartbeats 4000000 in
set_option maxRecDepth 100000 in
theorem numbers_zero (a : Int) (h0 : -9223372036854775808 ≤ a) (h1 : a ≤ 9223372036854775807) (w : World) : Calls Try.prog 6 #[.int .i64 a, .int .i64 0] w fun e w' => e = .returned (.bool true) ∧ Below w.heap.size w w' := by
  have t1 := two_ok 11 a 0 (by simp [CalcOp])
  have t2 := two_ok 12 (calcV 11 a 0) 0 (by simp [CalcOp])
  have t3 := two_ok 13 a 0 (by simp [CalcOp])
  have t4 := two_ok 13 0 a (by simp [CalcOp])
  have t5 := two_zero 14 a (.inl rfl)
  have t6 := two_zero 15 a (.inr rfl)
  rw [show calcV 12 (calcV 11 a 0) 0 = a from add_sub_back h0 h1] at t2
  rw [show calcV 13 0 a = calcV 13 a 0 from by show wrap64 (0 * a) = wrap64 (a * 0); rw [Int.mul_comm]] at t4
  generalize calcV 11 a 0 = s at *
  generalize calcV 13 a 0 = m at *
  clear h0 h1
  go_enter Try.func6, Try.ntmps6
  go_wp2_with fail
  refine (t1 _).mono ?_
  rintro e w1 ⟨rfl, hb1⟩
  go_wp2_with fail
  refine (t2 _).mono ?_
  rintro e w2 ⟨rfl, hb2⟩
  replace hb2 := hb1.trans (hb2.mono hb1.size)
  go_wp2_with fail
  refine (t3 _).mono ?_
  rintro e w3 ⟨rfl, hb3⟩
  replace hb3 := hb2.trans (hb3.mono hb2.size)
  go_wp2_with fail
  refine (t4 _).mono ?_
  rintro e w4 ⟨rfl, hb4⟩
  replace hb4 := hb3.trans (hb4.mono hb3.size)
  clear t1 t2 t3 t4
  go_wp2_with (go_at_call 24; refine (knows3_any _).mono ?_; rintro e w5 ⟨rfl, hb5⟩; replace hb5 := hb4.trans (hb5.mono hb4.size))
  refine (t5 _).mono ?_
  rintro e w6 ⟨rfl, hb6⟩
  replace hb6 := hb5.trans (hb6.mono hb5.size)
  go_wp2_with fail
  refine (t6 _).mono ?_
  rintro e w7 ⟨rfl, hb7⟩
  replace hb7 := hb6.trans (hb7.mono hb6.size)
  clear t5 t6
  go_wp2
  go_ret
  exact ⟨rfl, hb7⟩
theorem field_n (x y z : Value) (w : World) : (Instr.field 45 (.agg #[x, y, z]) 1).run Try.prog w = .ok y w := by
  simp [Instr.field, asAgg, go_sem]
theorem field_b (x y z : Value) (w : World) : (Instr.field 45 (.agg #[x, y, z]) 2).run Try.prog w = .ok z w := by
  simp [Instr.field, asAgg, go_sem]
attribute [local go_sem high] field_n field_b
set_option maxHeartbeats 4000000 in
set_option maxRecDepth 100000 in
theorem numbers_some (a b : Int) (hb : b ≠ 0) (h0 : -9223372036854775808 ≤ a) (h1 : a ≤ 9223372036854775807) (w : World) : Calls Try.prog 6 #[.int .i64 a, .int .i64 b] w fun e w' => e = .returned (.bool true) ∧ Below w.heap.size w w' := by
  have t1 := two_ok 11 a b (by simp [CalcOp])
  have t2 := two_ok 12 (calcV 11 a b) b (by simp [CalcOp])
  have t3 := two_ok 13 a b (by simp [CalcOp])
  have t4 := two_ok 13 b a (by simp [CalcOp])
  have t5 := two_ok 14 a b (by simp [CalcOp, hb])
  have t6 := two_ok 15 a b (by simp [CalcOp, hb])
  have t7 := two_ok 13 (calcV 14 a b) b (by simp [CalcOp])
  have t8 := two_ok 11 (calcV 13 (calcV 14 a b) b) (calcV 15 a b) (by simp [CalcOp])
  have t9 := two_ok 12 (wrap64 (-a)) 1 (by simp [CalcOp])
  rw [show calcV 12 (calcV 11 a b) b = a from add_sub_back h0 h1] at t2
  rw [show calcV 13 b a = calcV 13 a b from by show wrap64 (b * a) = wrap64 (a * b); rw [Int.mul_comm]] at t4
  rw [show calcV 11 (calcV 13 (calcV 14 a b) b) (calcV 15 a b) = a from div_rem_back h0 h1] at t8
  rw [show calcV 12 (wrap64 (-a)) 1 = bits .xor .i64 (-1) a from inv_neg h0 h1] at t9
  have hI := fun W p hV => apply_any 20 p 1 1 [⟨1, a, []⟩] rfl W hV (fair_of (by simp)) (by decide)
  have hN := fun W p hV => apply_any 16 p 1 1 [⟨1, a, []⟩] rfl W hV (fair_of (by simp)) (by decide)
  rw [apply_inv] at hI
  rw [apply_neg] at hN
  generalize calcV 13 (calcV 14 a b) b = p at *
  generalize calcV 11 a b = s at *
  generalize calcV 13 a b = m at *
  generalize calcV 14 a b = q at *
  generalize calcV 15 a b = r at *
  generalize bits .xor .i64 (-1) a = inv at *
  generalize wrap64 (-a) = neg at *
  have hb' : (b == 0) = false := by simp [hb]
  clear h0 h1 hb
  go_enter Try.func6, Try.ntmps6
  go_wp2_with fail
  refine (t1 _).mono ?_
  rintro e w1 ⟨rfl, hb1⟩
  go_wp2_with fail
  refine (t2 _).mono ?_
  rintro e w2 ⟨rfl, hb2⟩
  replace hb2 := hb1.trans (hb2.mono hb1.size)
  go_wp2_with fail
  refine (t3 _).mono ?_
  rintro e w3 ⟨rfl, hb3⟩
  replace hb3 := hb2.trans (hb3.mono hb2.size)
  go_wp2_with fail
  refine (t4 _).mono ?_
  rintro e w4 ⟨rfl, hb4⟩
  replace hb4 := hb3.trans (hb4.mono hb3.size)
  clear t1 t2 t3 t4
  go_wp2_with (go_at_call 24; refine (knows3_any _).mono ?_; rintro e w5 ⟨rfl, hb5⟩; replace hb5 := hb4.trans (hb5.mono hb4.size))
  refine (t5 _).mono ?_
  rintro e w6 ⟨rfl, hb6⟩
  replace hb6 := hb5.trans (hb6.mono hb5.size)
  go_wp2_with fail
  refine (t6 _).mono ?_
  rintro e w7 ⟨rfl, hb7⟩
  replace hb7 := hb6.trans (hb7.mono hb6.size)
  go_wp2_with fail
  refine (t7 _).mono ?_
  rintro e w8 ⟨rfl, hb8⟩
  replace hb8 := hb7.trans (hb8.mono hb7.size)
  go_wp2_with fail
  refine (t8 _).mono ?_
  rintro e w9 ⟨rfl, hb9⟩
  replace hb9 := hb8.trans (hb9.mono hb8.size)
  clear t5 t6 t7 t8
  go_wp2_with (go_at_call 32; refine (number_any' _ _).mono ?_; rintro e w' ⟨rfl, rfl⟩; simp only [Val.box, Val.v])
  refine (hI _ _ (vs_one' (w9.alloc (Val.box ⟨1, a, []⟩)) ⟨1, a, []⟩ (w9.heap.size + 1) (by simp))).mono ?_
  rintro e w10 ⟨v10, rfl, hs10, hb10⟩
  replace hb10 := ((hb9.alloc hb9.size _).alloc (by have := hb9.size; simp; omega) _).trans (hb10.mono (by have := hb9.size; simp; omega))
  obtain ⟨b10, off10, rfl, p0, p1, p2⟩ := slv_one hs10
  go_wp2_with (go_at_call 32; refine (number_any' _ _).mono ?_; rintro e w' ⟨rfl, rfl⟩; simp only [Val.box, Val.v])
  have hbk : Below w10.heap.size w10 ((w10.alloc (Val.box ⟨1, a, []⟩)).alloc (Val.box ⟨1, a, []⟩)) := ((Below.refl _ _).alloc (Nat.le_refl _) _).alloc (by simp) _
  refine (hN _ _ (vs_one' (w10.alloc (Val.box ⟨1, a, []⟩)) ⟨1, a, []⟩ (w10.heap.size + 1) (by simp))).mono ?_
  rintro e w11 ⟨v11, rfl, hs11, hb11⟩
  have hk : Below w10.heap.size w10 w11 := hbk.trans (hb11.mono (by simp; omega))
  replace hb11 := hb10.trans (hk.mono hb10.size)
  obtain ⟨b11, off11, rfl, q0, q1, q2⟩ := slv_one hs11
  replace p0 := cell_below p0 hk
  replace p1 := cell_below p1 hk
  replace p2 := cell_below p2 hk
  clear hk hbk hs10 hs11 hI hN
  have hO1 := fun W (hb : Below w11.heap.size w11 W) => one_any b11 off11 1 ⟨1, neg, []⟩ W (cell_below q0 hb) (cell_below q1 hb) (cell_below q2 hb)
  have hO2 := fun W (hb : Below w11.heap.size w11 W) => one_any b10 off10 1 ⟨1, inv, []⟩ W (cell_below p0 hb) (cell_below p1 hb) (cell_below p2 hb)
  simp only [Val.v] at hO1 hO2
  clear p0 p1 p2 q0 q1 q2
  go_wp2_with (go_at_call 29; refine (num3_any _ _).mono ?_; rintro e w' ⟨rfl, hw'⟩; replace hw' := hw'.symm; subst hw')
  refine (hO1 _ (Below.refl _ _)).mono ?_
  rintro e w12 ⟨rfl, hk12⟩
  have hb12 := hb11.trans (hk12.mono hb11.size)
  go_wp2_with fail
  refine (t9 _).mono ?_
  rintro e w13 ⟨rfl, hk13⟩
  have hb13 := hb12.trans (hk13.mono hb12.size)
  replace hk13 := hk12.trans (hk13.mono hk12.size)
  go_wp2_with fail
  refine (hO2 _ hk13).mono ?_
  rintro e w14 ⟨rfl, hk14⟩
  have hb14 := hb13.trans (hk14.mono hb13.size)
  go_wp2
  go_ret
  exact ⟨rfl, hb14⟩
theorem numbers_walk (a b : Int) (h0 : -9223372036854775808 ≤ a) (h1 : a ≤ 9223372036854775807) (w : World) : Calls Try.prog 6 #[.int .i64 a, .int .i64 b] w fun e w' => e = .returned (.bool true) ∧ Below w.heap.size w w' := by
  by_cases hb : b = 0
  · subst hb
    exact numbers_zero a h0 h1 w
  · exact numbers_some a b hb h0 h1 w
end Go.Proofs.Ytbhibhlabogohaa
