/- two. -/
import Derived.Test.YtbhibhlabogohabOK
namespace Go.Proofs.Ytbhibhlabogohab
open Go.RowKit
attribute [local go_sem high] eq_val eq_val0
set_option maxHeartbeats 400000 in
theorem two_ok (n a b : Int) (hc : CalcOp n b) (w : World) : Calls Try.prog 4 #[.int .i64 n, .int .i64 a, .int .i64 b] w fun e w' => e = .returned (.tuple #[.int .i64 (calcV n a b), .bool true]) ∧ Below w.heap.size w w' := by
  have hA := fun W p hV => apply_any n p 2 2 [⟨1, a, []⟩, ⟨1, b, []⟩] rfl W hV (fair_two a b) (by decide)
  rw [apply_calc n a b hc] at hA
  generalize calcV n a b = r at *
  go_enter Try.func4, Try.ntmps4
  go_wp2_with (first | (go_at_call 7; refine (number_any' _ _).mono ?_; rintro e w' ⟨rfl, rfl⟩; simp only [Val.box, Val.v]) | (go_at_call 6; refine (hA _ _ (vs_two ((w.alloc (Val.box ⟨1, a, []⟩)).alloc (Val.box ⟨1, b, []⟩)) ⟨1, a, []⟩ ⟨1, b, []⟩ (w.heap.size + 1 + 1) (by simp))).mono ?_; rintro e w5 ⟨v5, rfl, hs5, hb5⟩; obtain ⟨b5, off5, rfl, q0, q1, q2⟩ := slv_one hs5; simp only at q0 q1 q2) | (go_at_call 8; refine (num3_any _ _).mono ?_; rintro e w' ⟨rfl, rfl⟩))
  all_goals first | go_ret2 | (go_quiet (fail); go_wp2; go_ret2)
  all_goals exact ⟨rfl, by first | exact (((((Below.refl _ w).alloc (Nat.le_refl _) _).alloc (by simp) _).alloc (by simp; omega) _).trans (hb5.mono (by simp; omega))) | exact below_draws (((((Below.refl _ w).alloc (Nat.le_refl _) _).alloc (by simp) _).alloc (by simp; omega) _).trans (hb5.mono (by simp; omega))) _⟩
set_option maxHeartbeats 400000 in
theorem two_zero (n a : Int) (hn : n = 14 ∨ n = 15) (w : World) : Calls Try.prog 4 #[.int .i64 n, .int .i64 a, .int .i64 0] w fun e w' => e = .returned (.tuple #[.int .i64 0, .bool false]) ∧ Below w.heap.size w w' := by
  have hA := fun W p hV => apply_any n p 2 2 [⟨1, a, []⟩, ⟨1, 0, []⟩] rfl W hV (fair_two a 0) (by decide)
  rw [apply_zero n a hn] at hA
  go_enter Try.func4, Try.ntmps4
  go_wp2_with (first | (go_at_call 7; refine (number_any' _ _).mono ?_; rintro e w' ⟨rfl, rfl⟩; simp only [Val.box, Val.v]) | (go_at_call 6; refine (hA _ _ (vs_two ((w.alloc (Val.box ⟨1, a, []⟩)).alloc (Val.box ⟨1, 0, []⟩)) ⟨1, a, []⟩ ⟨1, 0, []⟩ (w.heap.size + 1 + 1) (by simp))).mono ?_; rintro e w5 ⟨v5, rfl, hs5, hb5⟩; obtain ⟨a5, rfl⟩ := slv_none hs5) | (go_at_call 8; refine (num3_any _ _).mono ?_; rintro e w' ⟨rfl, rfl⟩))
  go_ret2
  exact ⟨rfl, (((((Below.refl _ w).alloc (Nat.le_refl _) _).alloc (by simp) _).alloc (by simp; omega) _).trans (hb5.mono (by simp; omega)))⟩
end Go.Proofs.Ytbhibhlabogohab
