/- The law's knows: Put, Right and Same of the script of one empty function. -/
import Derived.Test.YtkbmmaacmofijaaCPp
import Derived.Test.YtkbmmaacmofijaaCE
namespace Go.Proofs.Ytkbmmaacmofijaa
open Go.RowKit
theorem num4_any (n : Int) (w : World) : Calls Try.prog 22 #[.int .i64 n] w fun e w' => e = .returned (.int .i64 n) ∧ w' = w := by
  go_enter Try.func22, Try.ntmps22
  go_wp2
  go_ret
  exact ⟨rfl, rfl⟩
def scr1 : Scr := ⟨[], [⟨[], [], [], []⟩]⟩
theorem scr1_bytes : scrB scr1 = [0, 1, 0, 0, 0, 0, 0] := by decide +kernel
theorem scr1_right : scr1.right = true := by decide +kernel
theorem scr1_fits : scr1.fits := by
  refine ⟨by decide, by decide, fun f hf => ?_, fun x hx => by simp [scr1] at hx⟩
  simp only [scr1, List.mem_cons, List.not_mem_nil, or_false] at hf
  subst hf
  exact ⟨by decide, by decide, by decide, by decide⟩
theorem scr1_is {w : World} {g : Nat} (h : w.heap[g]? = some (.cells #[.slice none 0 0, .slice none 0 0, .slice none 0 0, .slice none 0 0] 32 (0, 0))) : ScIs w.cell? scr1 (.slice none 0 0) (.slice (some ⟨g, 0, none⟩) 1 1) := by
  refine ⟨⟨none, 0, rfl, .inl rfl⟩, ⟨some ⟨g, 0, none⟩, 1, rfl, .inr ⟨g, 0, rfl, fun j hj => ?_⟩⟩⟩
  match j, hj with
  | 0, _ =>
    refine ⟨_, _, _, _, ?_, ?_, ?_, ?_, ⟨none, 0, rfl, .inl rfl⟩, ⟨none, 0, rfl, .inl rfl⟩, ⟨none, 0, rfl, .inl rfl⟩, ⟨none, 0, rfl, .inl rfl⟩⟩
    all_goals (rw [Lib.cell_of_heap h]; rfl)
set_option maxRecDepth 100000 in
set_option maxHeartbeats 1000000 in
theorem knows4_any (w : World) : Calls Try.prog 16 #[] w fun e w' => e = .returned (.bool true) ∧ Below w.heap.size w w' := by
  obtain ⟨W2, hW2⟩ : ∃ W2, W2 = (w.alloc (.cells #[.slice none 0 0, .slice none 0 0, .slice none 0 0, .slice none 0 0] 32)).alloc (.cells #[.slice none 0 0, .slice (some ⟨w.heap.size, 0, none⟩) 1 1] 25) := ⟨_, rfl⟩
  have hb2 : Below w.heap.size w W2 := by rw [hW2]; exact ((Below.refl _ w).alloc (Nat.le_refl _) _).alloc (by simp) _
  have bA : W2.heap[w.heap.size]? = some (.cells #[.slice none 0 0, .slice none 0 0, .slice none 0 0, .slice none 0 0] 32 (0, 0)) := by rw [hW2, Below.heap_alloc _ _ _ (by simp)]; exact heap_alloc_new w _
  have bB : W2.heap[w.heap.size + 1]? = some (.cells #[.slice none 0 0, .slice (some ⟨w.heap.size, 0, none⟩) 1 1] 25 (0, 0)) := by
    have := heap_alloc_new (w.alloc (.cells #[.slice none 0 0, .slice none 0 0, .slice none 0 0, .slice none 0 0] 32)) (.cells #[.slice none 0 0, .slice (some ⟨w.heap.size, 0, none⟩) 1 1] 25)
    rw [hW2]; simpa using this
  have lB := (Array.getElem?_eq_some_iff.1 bB).1
  have hS := scr1_is bA
  have hP := put4_any scr1 _ _ W2 hS scr1_fits
  have hR : ∀ W, Below W2.heap.size W2 W → Calls Try.prog 13 #[.agg #[.slice none 0 0, .slice (some ⟨w.heap.size, 0, none⟩) 1 1]] W fun e w' => e = .returned (.bool true) ∧ Below W.heap.size W w' := fun W hW => by
    have := right4_any scr1 _ _ W (hS.keep (below_keep hW)) scr1_fits
    rw [scr1_right] at this
    exact this
  have hE : ∀ W, Below W2.heap.size W2 W → Calls Try.prog 25 #[.agg #[.slice none 0 0, .slice (some ⟨w.heap.size, 0, none⟩) 1 1], .agg #[.slice none 0 0, .slice (some ⟨w.heap.size, 0, none⟩) 1 1]] W fun e w' => e = .returned (.bool true) ∧ Below W.heap.size W w' := fun W hW => by
    have := same4_any scr1 scr1 _ _ _ _ W (hS.keep (below_keep hW)) (hS.keep (below_keep hW)) scr1_fits scr1_fits
    rw [decide_eq_true rfl] at this
    exact this
  have hA : ∀ W, Below W2.heap.size W2 W → W.cell? ⟨w.heap.size + 1, 0, none⟩ = some (.slice none 0 0) ∧ W.cell? ⟨w.heap.size + 1, 1, none⟩ = some (.slice (some ⟨w.heap.size, 0, none⟩) 1 1) := fun W hW => by
    have e := (hW.block _ lB).trans bB
    exact ⟨by rw [Lib.cell_of_heap e]; rfl, by rw [Lib.cell_of_heap e]; rfl⟩
  go_enter Try.func16, Try.ntmps16
  go_wp2_with fail
  rw [← hW2]
  clear hW2
  refine hP.mono ?_
  rintro e w3 ⟨hb3, ⟨hx, _⟩ | ⟨_, a, rfl, hBs⟩⟩
  · rw [scr1_right] at hx; cases hx
  rw [scr1_bytes] at hBs ⊢
  clear hP
  have hst : (convert 36 9 (.slice (some a) 7 7)).run Try.prog w3 = .ok (.string ⟨#[0, 1, 0, 0, 0, 0, 0]⟩) w3 := run_str hBs 7
  obtain ⟨p0, p1⟩ := hA w3 hb3
  go_wp2_with (first | (go_at_call 22; refine (num4_any _ _).mono ?_; rintro e w' ⟨rfl, hw'⟩; replace hw' := hw'.symm; subst hw') | (go_at_call 13; refine (hR _ hb3).mono ?_; rintro e w4 ⟨rfl, hb4⟩; have hb34 := hb3.trans (hb4.mono hb3.size); obtain ⟨p40, p41⟩ := hA w4 hb34; clear hR) | (go_at_call 25; refine (hE _ hb34).mono ?_; rintro e w5 ⟨rfl, hb5⟩; clear hE))
  go_ret
  exact ⟨rfl, hb2.trans ((hb34.trans (hb5.mono hb34.size)).mono hb2.size)⟩
end Go.Proofs.Ytkbmmaacmofijaa
