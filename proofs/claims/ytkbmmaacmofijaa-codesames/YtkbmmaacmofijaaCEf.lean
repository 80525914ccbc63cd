/- code.sameFunc, slices.EqualFunc, code.Same of any two scripts. -/
import Derived.Test.YtkbmmaacmofijaaCE
namespace Go.Proofs.Ytkbmmaacmofijaa
open Go.RowKit
set_option maxRecDepth 100000 in
set_option maxHeartbeats 2000000 in
theorem sameFunc_any (f g : Fn) (v0 v1 v2 v3 u0 u1 u2 u3 : Value) (w : World) (hf : FnIs w.cell? f v0 v1 v2 v3) (hg : FnIs w.cell? g u0 u1 u2 u3) (hff : f.fits) (hgf : g.fits) : Calls Try.prog 51 #[.agg #[v0, v1, v2, v3], .agg #[u0, u1, u2, u3]] w fun e w' => e = .returned (.bool (decide (f = g))) ∧ Below w.heap.size w w' := by
  obtain ⟨⟨a0, c0, rfl, h0⟩, ⟨a1, c1, rfl, h1⟩, ⟨a2, c2, rfl, h2⟩, ⟨a3, c3, rfl, h3⟩⟩ := hf
  obtain ⟨⟨b0, d0, rfl, g0⟩, ⟨b1, d1, rfl, g1⟩, ⟨b2, d2, rfl, g2⟩, ⟨b3, d3, rfl, g3⟩⟩ := hg
  obtain ⟨z0, z1, z2, z3⟩ := hff
  obtain ⟨y0, y1, y2, y3⟩ := hgf
  have HD : Hid (decide (f = g) = (decide (f.p = g.p) && decide (f.r = g.r) && decide (f.l = g.l) && decide (f.code = g.code))) := hid (by
    cases f; cases g; simp [Fn.mk.injEq, Bool.decide_and, Bool.and_assoc])
  obtain ⟨W2, hW2⟩ : ∃ W2, W2 = (w.alloc (.cells #[.slice a0 f.p.length c0, .slice a1 f.r.length c1, .slice a2 f.l.length c2, .slice a3 f.code.length c3] 32)).alloc (.cells #[.slice b0 g.p.length d0, .slice b1 g.r.length d1, .slice b2 g.l.length d2, .slice b3 g.code.length d3] 32) := ⟨_, rfl⟩
  have hb2 : Below w.heap.size w W2 := by rw [hW2]; exact ((Below.refl _ w).alloc (Nat.le_refl _) _).alloc (by simp) _
  have bA : W2.heap[w.heap.size]? = some (.cells #[.slice a0 f.p.length c0, .slice a1 f.r.length c1, .slice a2 f.l.length c2, .slice a3 f.code.length c3] 32 (0, 0)) := by rw [hW2, Below.heap_alloc _ _ _ (by simp)]; exact heap_alloc_new w _
  have bB : W2.heap[w.heap.size + 1]? = some (.cells #[.slice b0 g.p.length d0, .slice b1 g.r.length d1, .slice b2 g.l.length d2, .slice b3 g.code.length d3] 32 (0, 0)) := by
    have := heap_alloc_new (w.alloc (.cells #[.slice a0 f.p.length c0, .slice a1 f.r.length c1, .slice a2 f.l.length c2, .slice a3 f.code.length c3] 32)) (.cells #[.slice b0 g.p.length d0, .slice b1 g.r.length d1, .slice b2 g.l.length d2, .slice b3 g.code.length d3] 32)
    rw [hW2]; simpa using this
  have hk : ∀ m a v, w.cell? a = some v → (W2.drewN m).cell? a = some v := fun m => below_keep (below_draws2 hb2 m)
  have pA0 : W2.cell? ⟨w.heap.size, 0, none⟩ = some (.slice a0 f.p.length c0) := by rw [Lib.cell_of_heap bA]; rfl
  have pB0 : W2.cell? ⟨w.heap.size + 1, 0, none⟩ = some (.slice b0 g.p.length d0) := by rw [Lib.cell_of_heap bB]; rfl
  have hC0 : ∀ m, Calls Try.prog 84 #[.slice a0 f.p.length c0, .slice b0 g.p.length d0] (W2.drewN m) fun e w' => e = .returned (.bool (decide (f.p = g.p))) ∧ ∃ k, w' = W2.drewN k := fun m => (eqN_any a0 b0 c0 d0 _ _ f.p g.p rfl rfl (W2.drewN m) (h0.keep (hk m)) (g0.keep (hk m)) (by omega) (by omega)).mono (by rintro e w' ⟨rfl, k, rfl⟩; exact ⟨rfl, m + k, World.drewN_drewN _ _ _⟩)
  have pA1 : W2.cell? ⟨w.heap.size, 1, none⟩ = some (.slice a1 f.r.length c1) := by rw [Lib.cell_of_heap bA]; rfl
  have pB1 : W2.cell? ⟨w.heap.size + 1, 1, none⟩ = some (.slice b1 g.r.length d1) := by rw [Lib.cell_of_heap bB]; rfl
  have hC1 : ∀ m, Calls Try.prog 84 #[.slice a1 f.r.length c1, .slice b1 g.r.length d1] (W2.drewN m) fun e w' => e = .returned (.bool (decide (f.r = g.r))) ∧ ∃ k, w' = W2.drewN k := fun m => (eqN_any a1 b1 c1 d1 _ _ f.r g.r rfl rfl (W2.drewN m) (h1.keep (hk m)) (g1.keep (hk m)) (by omega) (by omega)).mono (by rintro e w' ⟨rfl, k, rfl⟩; exact ⟨rfl, m + k, World.drewN_drewN _ _ _⟩)
  have pA2 : W2.cell? ⟨w.heap.size, 2, none⟩ = some (.slice a2 f.l.length c2) := by rw [Lib.cell_of_heap bA]; rfl
  have pB2 : W2.cell? ⟨w.heap.size + 1, 2, none⟩ = some (.slice b2 g.l.length d2) := by rw [Lib.cell_of_heap bB]; rfl
  have hC2 : ∀ m, Calls Try.prog 84 #[.slice a2 f.l.length c2, .slice b2 g.l.length d2] (W2.drewN m) fun e w' => e = .returned (.bool (decide (f.l = g.l))) ∧ ∃ k, w' = W2.drewN k := fun m => (eqN_any a2 b2 c2 d2 _ _ f.l g.l rfl rfl (W2.drewN m) (h2.keep (hk m)) (g2.keep (hk m)) (by omega) (by omega)).mono (by rintro e w' ⟨rfl, k, rfl⟩; exact ⟨rfl, m + k, World.drewN_drewN _ _ _⟩)
  have pA3 : W2.cell? ⟨w.heap.size, 3, none⟩ = some (.slice a3 f.code.length c3) := by rw [Lib.cell_of_heap bA]; rfl
  have pB3 : W2.cell? ⟨w.heap.size + 1, 3, none⟩ = some (.slice b3 g.code.length d3) := by rw [Lib.cell_of_heap bB]; rfl
  have hC3 : ∀ m, Calls Try.prog 85 #[.slice a3 f.code.length c3, .slice b3 g.code.length d3] (W2.drewN m) fun e w' => e = .returned (.bool (decide (f.code = g.code))) ∧ ∃ k, w' = W2.drewN k := fun m => (eqX_any a3 b3 c3 d3 _ _ f.code g.code rfl rfl (W2.drewN m) (h3.keep (hk m)) (g3.keep (hk m)) (by omega) (by omega)).mono (by rintro e w' ⟨rfl, k, rfl⟩; exact ⟨rfl, m + k, World.drewN_drewN _ _ _⟩)
  generalize decide (f.p = g.p) = r0 at HD hC0
  generalize f.p.length = n0 at *
  generalize g.p.length = m0 at *
  generalize decide (f.r = g.r) = r1 at HD hC1
  generalize f.r.length = n1 at *
  generalize g.r.length = m1 at *
  generalize decide (f.l = g.l) = r2 at HD hC2
  generalize f.l.length = n2 at *
  generalize g.l.length = m2 at *
  generalize decide (f.code = g.code) = r3 at HD hC3
  generalize f.code.length = n3 at *
  generalize g.code.length = m3 at *
  generalize decide (f = g) = rr at HD ⊢
  have hC := hC0 0
  rw [show W2.drewN 0 = W2 from rfl] at hC
  clear hk bA bB h0 h1 h2 h3 g0 g1 g2 g3
  cases r0 with
  | false =>
    have HE : Hid (rr = false) := hid (by rw [HD.out]; simp)
    clear HD
    go_enter Try.func51, Try.ntmps51
    go_wp2_with fail
    rw [← hW2]
    clear hW2
    refine hC.mono ?_
    clear hC hC0
    rintro e w' ⟨rfl, k, rfl⟩
    go_wp2_with (first | (go_at_call 84; first | (refine (hC1 _).mono ?_; clear hC1; rintro e w' ⟨rfl, k, rfl⟩) | (refine (hC2 _).mono ?_; clear hC2; rintro e w' ⟨rfl, k, rfl⟩)) | (go_at_call 85; refine (hC3 _).mono ?_; rintro e w' ⟨rfl, k, rfl⟩))
    go_ret
    exact ⟨by rw [HE.out]; rfl, below_draws2 hb2 _⟩
  | true =>
  cases r1 with
  | false =>
    have HE : Hid (rr = false) := hid (by rw [HD.out]; simp)
    clear HD
    go_enter Try.func51, Try.ntmps51
    go_wp2_with fail
    rw [← hW2]
    clear hW2
    refine hC.mono ?_
    clear hC hC0
    rintro e w' ⟨rfl, k, rfl⟩
    go_wp2_with (first | (go_at_call 84; first | (refine (hC1 _).mono ?_; clear hC1; rintro e w' ⟨rfl, k, rfl⟩) | (refine (hC2 _).mono ?_; clear hC2; rintro e w' ⟨rfl, k, rfl⟩)) | (go_at_call 85; refine (hC3 _).mono ?_; rintro e w' ⟨rfl, k, rfl⟩))
    go_ret
    exact ⟨by rw [HE.out]; rfl, below_draws2 hb2 _⟩
  | true =>
  cases r2 with
  | false =>
    have HE : Hid (rr = false) := hid (by rw [HD.out]; simp)
    clear HD
    go_enter Try.func51, Try.ntmps51
    go_wp2_with fail
    rw [← hW2]
    clear hW2
    refine hC.mono ?_
    clear hC hC0
    rintro e w' ⟨rfl, k, rfl⟩
    go_wp2_with (first | (go_at_call 84; first | (refine (hC1 _).mono ?_; clear hC1; rintro e w' ⟨rfl, k, rfl⟩) | (refine (hC2 _).mono ?_; clear hC2; rintro e w' ⟨rfl, k, rfl⟩)) | (go_at_call 85; refine (hC3 _).mono ?_; rintro e w' ⟨rfl, k, rfl⟩))
    go_ret
    exact ⟨by rw [HE.out]; rfl, below_draws2 hb2 _⟩
  | true =>
  cases r3 with
  | false =>
    have HE : Hid (rr = false) := hid (by rw [HD.out]; simp)
    clear HD
    go_enter Try.func51, Try.ntmps51
    go_wp2_with fail
    rw [← hW2]
    clear hW2
    refine hC.mono ?_
    clear hC hC0
    rintro e w' ⟨rfl, k, rfl⟩
    go_wp2_with (first | (go_at_call 84; first | (refine (hC1 _).mono ?_; clear hC1; rintro e w' ⟨rfl, k, rfl⟩) | (refine (hC2 _).mono ?_; clear hC2; rintro e w' ⟨rfl, k, rfl⟩)) | (go_at_call 85; refine (hC3 _).mono ?_; rintro e w' ⟨rfl, k, rfl⟩))
    go_ret
    exact ⟨by rw [HE.out]; rfl, below_draws2 hb2 _⟩
  | true =>
    have HE : Hid (rr = true) := hid (by rw [HD.out]; simp)
    clear HD
    go_enter Try.func51, Try.ntmps51
    go_wp2_with fail
    rw [← hW2]
    clear hW2
    refine hC.mono ?_
    clear hC hC0
    rintro e w' ⟨rfl, k, rfl⟩
    go_wp2_with (first | (go_at_call 84; first | (refine (hC1 _).mono ?_; clear hC1; rintro e w' ⟨rfl, k, rfl⟩) | (refine (hC2 _).mono ?_; clear hC2; rintro e w' ⟨rfl, k, rfl⟩)) | (go_at_call 85; refine (hC3 _).mono ?_; rintro e w' ⟨rfl, k, rfl⟩))
    go_ret
    exact ⟨by rw [HE.out]; rfl, below_draws2 hb2 _⟩
end Go.Proofs.Ytkbmmaacmofijaa
