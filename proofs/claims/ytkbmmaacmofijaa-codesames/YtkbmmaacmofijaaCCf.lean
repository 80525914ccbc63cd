/- code.cloneFunc. -/
import Derived.Test.YtkbmmaacmofijaaCC
import Derived.Deep.RegionHeld3
namespace Go.Proofs.Ytkbmmaacmofijaa
open Go.RowKit
/-- Four rows of its own, with the lists of f. -/
def FnOwn (w : World) (base : Nat) (f : Fn) (u0 u1 u2 u3 : Value) : Prop := w.ownsRow base 3 1 u0 f.p.length (cellsN f.p) ∧ w.ownsRow base 3 1 u1 f.r.length (cellsN f.r) ∧ w.ownsRow base 3 1 u2 f.l.length (cellsN f.l) ∧ w.ownsRow base 51 2 u3 f.code.length (cellsI f.code)
theorem FnOwn.below {w w' : World} {base : Nat} {f : Fn} {u0 u1 u2 u3 : Value} (h : FnOwn w base f u0 u1 u2 u3) (hb : Below w.heap.size w w') : FnOwn w' base f u0 u1 u2 u3 := ⟨row_below2 h.1 hb, row_below2 h.2.1 hb, row_below2 h.2.2.1 hb, row_below2 h.2.2.2 hb⟩
def CloneFEnd (f : Fn) (w : World) (e : Ending) (w' : World) : Prop := (∃ u0 u1 u2 u3, e = .returned (.agg #[u0, u1, u2, u3]) ∧ FnOwn w' w.heap.size f u0 u1 u2 u3) ∧ Below w.heap.size w w'
theorem load_fn {w : World} {b : Nat} {x0 x1 x2 x3 : Value} (h0 : w.cell? ⟨b, 0, none⟩ = some x0) (h1 : w.cell? ⟨b, 1, none⟩ = some x1) (h2 : w.cell? ⟨b, 2, none⟩ = some x2) (h3 : w.cell? ⟨b, 3, none⟩ = some x3) : (loadVar 32 ⟨b, 0, none⟩).run Try.prog w = .ok (.agg #[x0, x1, x2, x3]) w := by
  simp [loadVar, go_sem, h0, h1, h2, h3]
def set4 (w : World) (b : Nat) (x0 x1 x2 x3 : Value) : World := (((w.setCell ⟨b, 0, none⟩ x0).setCell ⟨b, 1, none⟩ x1).setCell ⟨b, 2, none⟩ x2).setCell ⟨b, 3, none⟩ x3
theorem set4_cells {w : World} {b : Nat} {y0 y1 y2 y3 : Value} (x0 x1 x2 x3 : Value) (h0 : w.cell? ⟨b, 0, none⟩ = some y0) (h1 : w.cell? ⟨b, 1, none⟩ = some y1) (h2 : w.cell? ⟨b, 2, none⟩ = some y2) (h3 : w.cell? ⟨b, 3, none⟩ = some y3) :
    (set4 w b x0 x1 x2 x3).cell? ⟨b, 0, none⟩ = some x0 ∧ (set4 w b x0 x1 x2 x3).cell? ⟨b, 1, none⟩ = some x1 ∧ (set4 w b x0 x1 x2 x3).cell? ⟨b, 2, none⟩ = some x2 ∧ (set4 w b x0 x1 x2 x3).cell? ⟨b, 3, none⟩ = some x3 := by
  unfold set4
  refine ⟨?_, ?_, ?_, ?_⟩
  · rw [World.cell?_setCell_other _ _ _ _ (by simp), World.cell?_setCell_other _ _ _ _ (by simp), World.cell?_setCell_other _ _ _ _ (by simp)]
    exact World.cell?_setCell_same _ _ _ h0
  · rw [World.cell?_setCell_other _ _ _ _ (by simp), World.cell?_setCell_other _ _ _ _ (by simp)]
    refine World.cell?_setCell_same _ _ _ (u := y1) ?_
    rw [World.cell?_setCell_other _ _ _ _ (by simp)]; exact h1
  · rw [World.cell?_setCell_other _ _ _ _ (by simp)]
    refine World.cell?_setCell_same _ _ _ (u := y2) ?_
    rw [World.cell?_setCell_other _ _ _ _ (by simp), World.cell?_setCell_other _ _ _ _ (by simp)]; exact h2
  · refine World.cell?_setCell_same _ _ _ (u := y3) ?_
    rw [World.cell?_setCell_other _ _ _ _ (by simp), World.cell?_setCell_other _ _ _ _ (by simp), World.cell?_setCell_other _ _ _ _ (by simp)]; exact h3
theorem set4_row {w : World} {b base n size : Nat} {e : TypeId} {v : Value} {xs : List Value} (x0 x1 x2 x3 : Value) (h : w.ownsRow base e size v n xs) (hb : b < base) : (set4 w b x0 x1 x2 x3).ownsRow base e size v n xs := ownsRow_setCell_other' (ownsRow_setCell_other' (ownsRow_setCell_other' (ownsRow_setCell_other' h hb _) hb _) hb _) hb _
theorem set4_below {w0 w : World} {B b : Nat} (x0 x1 x2 x3 : Value) (h : Below B w0 w) (hb : B ≤ b) : Below B w0 (set4 w b x0 x1 x2 x3) := (((h.setCell (p := ⟨b, 0, none⟩) hb _).setCell (p := ⟨b, 1, none⟩) hb _).setCell (p := ⟨b, 2, none⟩) hb _).setCell (p := ⟨b, 3, none⟩) hb _
set_option maxRecDepth 100000 in
set_option maxHeartbeats 1000000 in
theorem cloneFunc_any (f : Fn) (v0 v1 v2 v3 : Value) (w : World) (hf : FnIs w.cell? f v0 v1 v2 v3) (hff : f.fits) : Calls Try.prog 48 #[.agg #[v0, v1, v2, v3]] w (CloneFEnd f w) := by
  obtain ⟨⟨a0, c0, rfl, g0⟩, ⟨a1, c1, rfl, g1⟩, ⟨a2, c2, rfl, g2⟩, ⟨a3, c3, rfl, g3⟩⟩ := hf
  obtain ⟨z0, z1, z2, z3⟩ := hff
  have hL : ∀ W, Below w.heap.size w W → Lies W (.slice a0 f.p.length c0) f.p.length (cellsN f.p) ∧ Lies W (.slice a1 f.r.length c1) f.r.length (cellsN f.r) ∧ Lies W (.slice a2 f.l.length c2) f.l.length (cellsN f.l) ∧ Lies W (.slice a3 f.code.length c3) f.code.length (cellsI f.code) := fun W hW => ⟨(g0.keep (below_keep hW)).lies c0, (g1.keep (below_keep hW)).lies c1, (g2.keep (below_keep hW)).lies c2, (g3.keep (below_keep hW)).lies c3⟩
  have hC0 : ∀ W, Below w.heap.size w W → Calls Try.prog 82 #[.slice a0 f.p.length c0] W (CopyEnd 3 1 f.p.length (cellsN f.p) W) := fun W hW => copyN a0 _ c0 _ W (hL W hW).1 (cellsN_len _) (cellsN_one _) z0
  have hC1 : ∀ W, Below w.heap.size w W → Calls Try.prog 82 #[.slice a1 f.r.length c1] W (CopyEnd 3 1 f.r.length (cellsN f.r) W) := fun W hW => copyN a1 _ c1 _ W (hL W hW).2.1 (cellsN_len _) (cellsN_one _) z1
  have hC2 : ∀ W, Below w.heap.size w W → Calls Try.prog 82 #[.slice a2 f.l.length c2] W (CopyEnd 3 1 f.l.length (cellsN f.l) W) := fun W hW => copyN a2 _ c2 _ W (hL W hW).2.2.1 (cellsN_len _) (cellsN_one _) z2
  have hC3 : ∀ W, Below w.heap.size w W → Calls Try.prog 83 #[.slice a3 f.code.length c3] W (CopyEnd 51 2 f.code.length (cellsI f.code) W) := fun W hW => copyI a3 _ c3 _ W (hL W hW).2.2.2 (cellsI_len _) (cellsI_one _) z3
  have fin : ∀ (w9 : World) u0 u1 u2 u3, w9.ownsRow w.heap.size 3 1 u0 f.p.length (cellsN f.p) → w9.ownsRow w.heap.size 3 1 u1 f.r.length (cellsN f.r) → w9.ownsRow w.heap.size 3 1 u2 f.l.length (cellsN f.l) → w9.ownsRow w.heap.size 51 2 u3 f.code.length (cellsI f.code) → Below w.heap.size w w9 → CloneFEnd f w (.returned (.agg #[u0, u1, u2, u3])) w9 := fun w9 u0 u1 u2 u3 q0 q1 q2 q3 hb => ⟨⟨u0, u1, u2, u3, rfl, q0, q1, q2, q3⟩, hb⟩
  clear hL g0 g1 g2 g3
  generalize cellsN f.p = x0 at *
  generalize cellsN f.r = x1 at *
  generalize cellsN f.l = x2 at *
  generalize cellsI f.code = x3 at *
  generalize f.p.length = n0 at *
  generalize f.r.length = n1 at *
  generalize f.l.length = n2 at *
  generalize f.code.length = n3 at *
  obtain ⟨W2, hW2⟩ : ∃ W2, W2 = (w.alloc (.cells #[.slice a0 n0 c0, .slice a1 n1 c1, .slice a2 n2 c2, .slice a3 n3 c3] 32)).alloc (.cells #[.slice none 0 0, .slice none 0 0, .slice none 0 0, .slice none 0 0] 32) := ⟨_, rfl⟩
  have hb2 : Below w.heap.size w W2 := by rw [hW2]; exact ((Below.refl _ w).alloc (Nat.le_refl _) _).alloc (by simp) _
  have bA : W2.heap[w.heap.size]? = some (.cells #[.slice a0 n0 c0, .slice a1 n1 c1, .slice a2 n2 c2, .slice a3 n3 c3] 32 (0, 0)) := by rw [hW2, Below.heap_alloc _ _ _ (by simp)]; exact heap_alloc_new w _
  have bB : W2.heap[w.heap.size + 1]? = some (.cells #[.slice none 0 0, .slice none 0 0, .slice none 0 0, .slice none 0 0] 32 (0, 0)) := by
    have := heap_alloc_new (w.alloc (.cells #[.slice a0 n0 c0, .slice a1 n1 c1, .slice a2 n2 c2, .slice a3 n3 c3] 32)) (.cells #[.slice none 0 0, .slice none 0 0, .slice none 0 0, .slice none 0 0] 32)
    rw [hW2]; simpa using this
  have lB := (Array.getElem?_eq_some_iff.1 bB).1
  have hSa : ∀ W, Below W2.heap.size W2 W → (W.cell? ⟨w.heap.size, 0, none⟩ = some (.slice a0 n0 c0) ∧ W.cell? ⟨w.heap.size, 1, none⟩ = some (.slice a1 n1 c1) ∧ W.cell? ⟨w.heap.size, 2, none⟩ = some (.slice a2 n2 c2) ∧ W.cell? ⟨w.heap.size, 3, none⟩ = some (.slice a3 n3 c3)) ∧ W.cell? ⟨w.heap.size + 1, 0, none⟩ = some (.slice none 0 0) ∧ W.cell? ⟨w.heap.size + 1, 1, none⟩ = some (.slice none 0 0) ∧ W.cell? ⟨w.heap.size + 1, 2, none⟩ = some (.slice none 0 0) ∧ W.cell? ⟨w.heap.size + 1, 3, none⟩ = some (.slice none 0 0) ∧ W.frozen? ⟨w.heap.size + 1, 0, none⟩ = false ∧ W.frozen? ⟨w.heap.size + 1, 1, none⟩ = false ∧ W.frozen? ⟨w.heap.size + 1, 2, none⟩ = false ∧ W.frozen? ⟨w.heap.size + 1, 3, none⟩ = false := fun W hW => by
    have e1 := (hW.block _ (by omega)).trans bA
    have e2 := (hW.block _ lB).trans bB
    refine ⟨⟨?_, ?_, ?_, ?_⟩, ?_, ?_, ?_, ?_, Lib.frozen_of_heap e2 0, Lib.frozen_of_heap e2 1, Lib.frozen_of_heap e2 2, Lib.frozen_of_heap e2 3⟩
    all_goals first | (rw [Lib.cell_of_heap e1]; rfl) | (rw [Lib.cell_of_heap e2]; rfl)
  have hSk : ∀ W, Below W2.heap.size W2 W → W.cell? ⟨w.heap.size, 0, none⟩ = some (.slice a0 n0 c0) ∧ W.cell? ⟨w.heap.size, 1, none⟩ = some (.slice a1 n1 c1) ∧ W.cell? ⟨w.heap.size, 2, none⟩ = some (.slice a2 n2 c2) ∧ W.cell? ⟨w.heap.size, 3, none⟩ = some (.slice a3 n3 c3) := fun W hW => (hSa W hW).1
  have hb0 : Below W2.heap.size W2 W2.drew := (Below.refl _ _).drew
  have lift : ∀ W, Below W2.heap.size W2 W → Below w.heap.size w W := fun W h => hb2.trans (h.mono hb2.size)
  have hD0 := hC0 W2.drew (lift _ hb0)
  clear hC0
  go_enter Try.func48, Try.ntmps48
  go_wp2_with fail
  rw [← hW2]
  clear hW2
  go_region_held3 (fun W => W.cell? ⟨w.heap.size, 0, none⟩ = some (.slice a0 n0 c0) ∧ W.cell? ⟨w.heap.size, 1, none⟩ = some (.slice a1 n1 c1) ∧ W.cell? ⟨w.heap.size, 2, none⟩ = some (.slice a2 n2 c2) ∧ W.cell? ⟨w.heap.size, 3, none⟩ = some (.slice a3 n3 c3)) (first | go_keep | exact hSk _ hb8 | exact hSk _ hb7 | exact hSk _ hb6 | exact hSk _ hb5 | exact hSk _ (Below.refl _ _)) (first | (go_at_call 82; first | (refine hD0.mono ?_; clear hD0; rintro e w5 ⟨⟨r0, rfl, q0⟩, hb5'⟩; obtain ⟨b0, d0, rfl, _⟩ := row_form q0; have hb5 := hb0.trans hb5'; have hD1 := hC1 w5 (lift _ hb5); clear hC1) | (refine hD1.mono ?_; clear hD1; rintro e w6 ⟨⟨r1, rfl, q1⟩, hb6'⟩; obtain ⟨b1, d1, rfl, _⟩ := row_form q1; have hb6 := hb5.trans (hb6'.mono hb5.size); have hD2 := hC2 w6 (lift _ hb6); clear hC2) | (refine hD2.mono ?_; clear hD2; rintro e w7 ⟨⟨r2, rfl, q2⟩, hb7'⟩; obtain ⟨b2, d2, rfl, _⟩ := row_form q2; have hb7 := hb6.trans (hb7'.mono hb6.size); have hD3 := hC3 w7 (lift _ hb7); clear hC3)) | (go_at_call 83; refine hD3.mono ?_; clear hD3; rintro e w8 ⟨⟨r3, rfl, q3⟩, hb8'⟩; obtain ⟨b3, d3, rfl, _⟩ := row_form q3; have hb8 := hb7.trans (hb8'.mono hb7.size); obtain ⟨_, m0, m1, m2, m3, o0, o1, o2, o3⟩ := hSa w8 hb8))
  have sz : W2.drew.heap.size = W2.heap.size := rfl
  have s5 := hb5.size
  have s6 := hb6.size
  have s7 := hb7.size
  have t7 : Below w7.heap.size w7 w8 := hb8'
  have t6 := hb7'.trans (t7.mono hb7'.size)
  have t5 := hb6'.trans (t6.mono hb6'.size)
  have Q0 := set4_row (b := w.heap.size + 1) (.slice b0 n0 d0) (.slice b1 n1 d1) (.slice b2 n2 d2) (.slice b3 n3 d3) (row_below2 q0 t5) (by omega)
  have Q1 := set4_row (b := w.heap.size + 1) (.slice b0 n0 d0) (.slice b1 n1 d1) (.slice b2 n2 d2) (.slice b3 n3 d3) (row_below2 q1 t6) (by omega)
  have Q2 := set4_row (b := w.heap.size + 1) (.slice b0 n0 d0) (.slice b1 n1 d1) (.slice b2 n2 d2) (.slice b3 n3 d3) (row_below2 q2 t7) (by omega)
  have Q3 := set4_row (b := w.heap.size + 1) (.slice b0 n0 d0) (.slice b1 n1 d1) (.slice b2 n2 d2) (.slice b3 n3 d3) q3 (by omega)
  obtain ⟨k0, k1, k2, k3⟩ := set4_cells (.slice b0 n0 d0) (.slice b1 n1 d1) (.slice b2 n2 d2) (.slice b3 n3 d3) m0 m1 m2 m3
  have F := fin _ _ _ _ _ (row_lower Q0 (by omega)) (row_lower Q1 (by omega)) (row_lower Q2 (by omega)) (row_lower Q3 (by omega)) (set4_below _ _ _ _ (lift _ hb8) (by omega))
  rw [show ((((w8.setCell ⟨w.heap.size + 1, 0, none⟩ (.slice b0 n0 d0)).setCell ⟨w.heap.size + 1, 1, none⟩ (.slice b1 n1 d1)).setCell ⟨w.heap.size + 1, 2, none⟩ (.slice b2 n2 d2)).setCell ⟨w.heap.size + 1, 3, none⟩ (.slice b3 n3 d3)) = set4 w8 (w.heap.size + 1) (.slice b0 n0 d0) (.slice b1 n1 d1) (.slice b2 n2 d2) (.slice b3 n3 d3) from rfl]
  generalize set4 w8 (w.heap.size + 1) (.slice b0 n0 d0) (.slice b1 n1 d1) (.slice b2 n2 d2) (.slice b3 n3 d3) = W9 at k0 k1 k2 k3 F ⊢
  go_wp2_with fail
  exact bodyPost_ret (results_cell1 rfl _ _ _ _ _ rfl (load_fn k0 k1 k2 k3)) rfl F
end Go.Proofs.Ytkbmmaacmofijaa
