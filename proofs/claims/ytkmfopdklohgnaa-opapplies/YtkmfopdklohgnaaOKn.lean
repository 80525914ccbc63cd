/- knows. -/
import Derived.Test.YtkmfopdklohgnaaOK
namespace Go.Proofs.Ytkmfopdklohgnaa
open Go.RowKit
attribute [local go_sem high] eq_val eq_val0
theorem name_add (w : World) : Calls Try.prog 21 #[.int .i64 11] w fun e w' => e = .returned (.string ⟨#[97, 100, 100]⟩) ∧ w' = w := by
  go_enter Try.func21, Try.ntmps21
  go_wp2
  go_ret
  exact ⟨rfl, rfl⟩
set_option maxHeartbeats 1000000 in
theorem knows3_any (w : World) : Calls Try.prog 9 #[] w fun e w' => e = .returned (.bool true) ∧ Below w.heap.size w w' := by
  have hA := fun W a hV => apply_any 34 a 3 3 [⟨2, 0, [97, 98, 99]⟩, ⟨1, 1, []⟩, ⟨1, 3, []⟩] rfl W hV (fair_of (by simp)) (by decide)
  rw [cut_abc] at hA
  go_enter Try.func9, Try.ntmps9
  go_wp2_with (first | (go_at_call 19; refine (text_any' [97, 98, 99] _).mono ?_; rintro e w' ⟨rfl, rfl⟩; simp only [Val.box, Val.v]) | (go_at_call 20; refine (number_any' _ _).mono ?_; rintro e w' ⟨rfl, rfl⟩; simp only [Val.box, Val.v]) | (go_at_call 5; refine (hA _ _ (vs_three (((w.alloc (Val.box ⟨2, 0, [97, 98, 99]⟩)).alloc (Val.box ⟨1, 1, []⟩)).alloc (Val.box ⟨1, 3, []⟩)) ⟨2, 0, [97, 98, 99]⟩ ⟨1, 1, []⟩ ⟨1, 3, []⟩ (w.heap.size + 1 + 1 + 1) (by simp))).mono ?_; rintro e w5 ⟨v5, rfl, hs5, hb5⟩; obtain ⟨b5, off5, rfl, q0, q1, q2⟩ := slv_one hs5; simp only at q0 q1 q2) | (go_at_call 21; refine (name_add _).mono ?_; rintro e w' ⟨rfl, rfl⟩) | (go_at_call 8; refine (num3_any _ _).mono ?_; rintro e w' ⟨rfl, rfl⟩))
  go_ret
  exact ⟨rfl, (((((Below.refl _ w).alloc (Nat.le_refl _) _).alloc (by simp) _).alloc (by simp; omega) _).alloc (by simp; omega) _).trans (hb5.mono (by simp; omega))⟩
end Go.Proofs.Ytkmfopdklohgnaa
