/- Zero and the document's Zero and Truth. -/
import Derived.Test.YtkmfopdklohgnaaDoorVG
namespace Go.Proofs.YtkmfopdklohgnaaDoor
open Go.RowKit Go.Shelf
attribute [local go_sem high] eq_val eq_val0
def zeroV (k : Int) : Val := if k = 1 ∨ k = 2 ∨ k = 3 then ⟨k, 0, []⟩ else ⟨0, 0, []⟩
set_option maxHeartbeats 1000000 in
theorem rtruth_any (c : Bool) (w : World) : Calls Tryd.prog 26 #[.bool c] w fun e w' => e = .returned (Val.v (Val.truth c)) ∧ Below w.heap.size w w' := by
  cases c
  all_goals
    go_enter Tryd.func26, Tryd.ntmps26
    go_wp2
    first
      | exact ret_at _ w.heap.size (Val.truth false) rfl rfl rfl (val_new w (Val.truth false)) ⟨rfl, (Below.refl _ w).alloc (Nat.le_refl _) _⟩
      | exact ret_at _ w.heap.size (Val.truth true) rfl rfl rfl (val_new w (Val.truth true)) ⟨rfl, (Below.refl _ w).alloc (Nat.le_refl _) _⟩
end Go.Proofs.YtkmfopdklohgnaaDoor
