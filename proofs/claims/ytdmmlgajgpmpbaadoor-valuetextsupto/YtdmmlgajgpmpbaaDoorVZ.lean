/- Zero and the document's Zero and Truth. -/
import Derived.Test.YtdmmlgajgpmpbaaDoorVG
namespace Go.Proofs.YtdmmlgajgpmpbaaDoor
open Go.RowKit Go.Shelf
attribute [local go_sem high] eq_val eq_val0
def zeroV (k : Int) : Val := if k = 1 ∨ k = 2 ∨ k = 3 then ⟨k, 0, []⟩ else ⟨0, 0, []⟩
set_option maxHeartbeats 1000000 in
theorem rtruth_any (c : Bool) (w : World) : Calls Tryd.prog 14 #[.bool c] w fun e w' => e = .returned (Val.v (Val.truth c)) ∧ Below w.heap.size w w' := by
  cases c
  all_goals
    go_enter Tryd.func14, Tryd.ntmps14
    go_wp2
    first
      | exact ret_at _ w.heap.size (Val.truth false) rfl rfl rfl (val_new w (Val.truth false)) ⟨rfl, (Below.refl _ w).alloc (Nat.le_refl _) _⟩
      | exact ret_at _ w.heap.size (Val.truth true) rfl rfl rfl (val_new w (Val.truth true)) ⟨rfl, (Below.refl _ w).alloc (Nat.le_refl _) _⟩
set_option maxHeartbeats 1000000 in
theorem rzero_any (k : Int) (w : World) : Calls Tryd.prog 15 #[.int .i64 k] w fun e w' => e = .returned (Val.v (zeroV k)) ∧ Below w.heap.size w w' := by
  unfold zeroV
  by_cases h : k = 1 ∨ k = 2 ∨ k = 3
  · rw [if_pos h]
    have h1 : 1 ≤ k := by omega
    have h2 : k ≤ 3 := by omega
    have h1' : ¬ k < 1 := by omega
    have h2' : ¬ k > 3 := by omega
    clear h
    go_enter Tryd.func15, Tryd.ntmps15
    go_wp2
    exact ret_at _ w.heap.size ⟨k, 0, []⟩ rfl rfl rfl (val_new w ⟨k, 0, []⟩) ⟨rfl, (Below.refl _ w).alloc (Nat.le_refl _) _⟩
  · rw [if_neg h]
    have h' : k < 1 ∨ 3 < k := by omega
    clear h
    rcases h' with h | h
    · go_enter Tryd.func15, Tryd.ntmps15
      go_wp2
      exact ret_at _ w.heap.size ⟨0, 0, []⟩ rfl rfl rfl (val_new w ⟨0, 0, []⟩) ⟨rfl, (Below.refl _ w).alloc (Nat.le_refl _) _⟩
    · have h0 : ¬ k < 1 := by omega
      go_enter Tryd.func15, Tryd.ntmps15
      go_wp2
      exact ret_at _ w.heap.size ⟨0, 0, []⟩ rfl rfl rfl (val_new w ⟨0, 0, []⟩) ⟨rfl, (Below.refl _ w).alloc (Nat.le_refl _) _⟩
set_option maxHeartbeats 1000000 in
theorem zero_any (k : Int) (w : World) : Calls Tryd.prog 13 #[.int .i64 k] w fun e w' => e = .returned (Val.v (zeroV k)) ∧ Below w.heap.size w w' := by
  have hR : ∀ W, Calls Tryd.prog 8 #[.agg #[.int .i64 k, .int .i64 0, .string ⟨#[]⟩]] W fun e w' => e = .returned (.bool (Val.right ⟨k, 0, []⟩)) ∧ Below W.heap.size W w' := fun W => right_any ⟨k, 0, []⟩ (by simp) W
  have hE : Val.right ⟨k, 0, []⟩ = decide (k = 1 ∨ k = 2 ∨ k = 3) := by
    unfold Val.right
    by_cases h1 : k = 1 <;> by_cases h2 : k = 2 <;> by_cases h3 : k = 3 <;> simp [h1, h2, h3]
  rw [hE] at hR
  unfold zeroV
  by_cases h : k = 1 ∨ k = 2 ∨ k = 3
  · rw [if_pos h]
    rw [decide_eq_true h] at hR
    clear hE
    go_enter Tryd.func13, Tryd.ntmps13
    go_wp2_with (go_at_call 8; refine (hR _).mono ?_; rintro e w1 ⟨rfl, hb1⟩; have hB : Boxed3 w1 w.heap.size := (hb1.block _ (by simp; omega)).trans ((Below.heap_alloc _ _ _ (by simp)).trans (World.alloc_heap_new w (Val.box ⟨0, 0, []⟩))); obtain ⟨⟨c0, c1, c2⟩, hf⟩ := hB.facts; have f0 := hf 0; have f1 := hf 1; have f2 := hf 2; have hv : ValAt w1 (w.heap.size + 1) ⟨k, 0, []⟩ := (show ValAt ((w.alloc (Val.box ⟨0, 0, []⟩)).alloc (Val.box ⟨k, 0, []⟩)) (w.heap.size + 1) ⟨k, 0, []⟩ from by simpa using val_new (w.alloc (Val.box ⟨0, 0, []⟩)) ⟨k, 0, []⟩).keep (fun _ _ h => cell_below h hb1); obtain ⟨d0, d1, d2⟩ := hv)
    exact ret_at _ w.heap.size ⟨k, 0, []⟩ rfl rfl rfl (set_box hB ⟨k, 0, []⟩) ⟨rfl, (below_set3 ((((Below.refl _ w).alloc (Nat.le_refl _) _).alloc (by simp) _).trans (hb1.mono (by simp; omega))) (Nat.le_refl _))⟩
  · rw [if_neg h]
    rw [decide_eq_false h] at hR
    clear hE
    go_enter Tryd.func13, Tryd.ntmps13
    go_wp2_with (go_at_call 8; refine (hR _).mono ?_; rintro e w1 ⟨rfl, hb1⟩; have hB : Boxed3 w1 w.heap.size := (hb1.block _ (by simp; omega)).trans ((Below.heap_alloc _ _ _ (by simp)).trans (World.alloc_heap_new w (Val.box ⟨0, 0, []⟩))); obtain ⟨⟨c0, c1, c2⟩, hf⟩ := hB.facts; have f0 := hf 0; have f1 := hf 1; have f2 := hf 2; have hv : ValAt w1 (w.heap.size + 1) ⟨k, 0, []⟩ := (show ValAt ((w.alloc (Val.box ⟨0, 0, []⟩)).alloc (Val.box ⟨k, 0, []⟩)) (w.heap.size + 1) ⟨k, 0, []⟩ from by simpa using val_new (w.alloc (Val.box ⟨0, 0, []⟩)) ⟨k, 0, []⟩).keep (fun _ _ h => cell_below h hb1); obtain ⟨d0, d1, d2⟩ := hv)
    exact ret_at _ w.heap.size ⟨0, 0, []⟩ rfl rfl rfl (set_box hB ⟨0, 0, []⟩) ⟨rfl, (below_set3 ((((Below.refl _ w).alloc (Nat.le_refl _) _).alloc (by simp) _).trans (hb1.mono (by simp; omega))) (Nat.le_refl _))⟩
end Go.Proofs.YtdmmlgajgpmpbaaDoor
