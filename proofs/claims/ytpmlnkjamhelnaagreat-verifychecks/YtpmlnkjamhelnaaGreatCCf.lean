/- code.cloneFunc. code.Clone of any script. code.Clone of any script. -/
import Derived.Test.YtpmlnkjamhelnaaGreatFeeds
import Derived.Deep.RegionHeld3
namespace Go.Proofs.YtpmlnkjamhelnaaGreat
open Go.RowKit
/-- Four rows of its own, with the lists of f. -/
def FnOwn (w : World) (base : Nat) (f : Fn) (u0 u1 u2 u3 : Value) : Prop := w.ownsRow base 3 1 u0 f.p.length (cellsN f.p) ∧ w.ownsRow base 3 1 u1 f.r.length (cellsN f.r) ∧ w.ownsRow base 3 1 u2 f.l.length (cellsN f.l) ∧ w.ownsRow base 74 2 u3 f.code.length (cellsI f.code)
theorem FnOwn.below {w w' : World} {base : Nat} {f : Fn} {u0 u1 u2 u3 : Value} (h : FnOwn w base f u0 u1 u2 u3) (hb : Below w.heap.size w w') : FnOwn w' base f u0 u1 u2 u3 := ⟨row_below2 h.1 hb, row_below2 h.2.1 hb, row_below2 h.2.2.1 hb, row_below2 h.2.2.2 hb⟩
def CloneFEnd (f : Fn) (w : World) (e : Ending) (w' : World) : Prop := (∃ u0 u1 u2 u3, e = .returned (.agg #[u0, u1, u2, u3]) ∧ FnOwn w' w.heap.size f u0 u1 u2 u3) ∧ Below w.heap.size w w'
theorem load_fn {w : World} {b : Nat} {x0 x1 x2 x3 : Value} (h0 : w.cell? ⟨b, 0, none⟩ = some x0) (h1 : w.cell? ⟨b, 1, none⟩ = some x1) (h2 : w.cell? ⟨b, 2, none⟩ = some x2) (h3 : w.cell? ⟨b, 3, none⟩ = some x3) : (loadVar 49 ⟨b, 0, none⟩).run Tryz.prog w = .ok (.agg #[x0, x1, x2, x3]) w := by
  simp [loadVar, go_sem, h0, h1, h2, h3]
def set4 (w : World) (b : Nat) (x0 x1 x2 x3 : Value) : World := (((w.setCell ⟨b, 0, none⟩ x0).setCell ⟨b, 1, none⟩ x1).setCell ⟨b, 2, none⟩ x2).setCell ⟨b, 3, none⟩ x3
theorem set4_cells {w : World} {b : Nat} {y0 y1 y2 y3 : Value} (x0 x1 x2 x3 : Value) (h0 : w.cell? ⟨b, 0, none⟩ = some y0) (h1 : w.cell? ⟨b, 1, none⟩ = some y1) (h2 : w.cell? ⟨b, 2, none⟩ = some y2) (h3 : w.cell? ⟨b, 3, none⟩ = some y3) :
    (set4 w b x0 x1 x2 x3).cell? ⟨b, 0, none⟩ = some x0 ∧ (set4 w b x0 x1 x2 x3).cell? ⟨b, 1, none⟩ = some x1 ∧ (set4 w b x0 x1 x2 x3).cell? ⟨b, 2, none⟩ = some x2 ∧ (set4 w b x0 x1 x2 x3).cell? ⟨b, 3, none⟩ = some x3 := by
  unfold set4
  refine ⟨?_, ?_, ?_, ?_⟩
  · rw [World.cell?_setCell_other _ _ _ _ (by simp), World.cell?_setCell_other _ _ _ _ (by simp), World.cell?_setCell_other _ _ _ _ (by simp)]
    exact World.cell?_setCell_same _ _ _ h0
  · rw [World.cell?_setCell_other _ _ _ _ (by simp), World.cell?_setCell_other _ _ _ _ (by simp)]
    refine World.cell?_setCell_same _ _ _ (u := y1) ?_
    rw [World.cell?_setCell_other _ _ _ _ (by simp)]; exact h1
  · rw [World.cell?_setCell_other _ _ _ _ (by simp)]
    refine World.cell?_setCell_same _ _ _ (u := y2) ?_
    rw [World.cell?_setCell_other _ _ _ _ (by simp), World.cell?_setCell_other _ _ _ _ (by simp)]; exact h2
  · refine World.cell?_setCell_same _ _ _ (u := y3) ?_
    rw [World.cell?_setCell_other _ _ _ _ (by simp), World.cell?_setCell_other _ _ _ _ (by simp), World.cell?_setCell_other _ _ _ _ (by simp)]; exact h3
theorem set4_row {w : World} {b base n size : Nat} {e : TypeId} {v : Value} {xs : List Value} (x0 x1 x2 x3 : Value) (h : w.ownsRow base e size v n xs) (hb : b < base) : (set4 w b x0 x1 x2 x3).ownsRow base e size v n xs := ownsRow_setCell_other' (ownsRow_setCell_other' (ownsRow_setCell_other' (ownsRow_setCell_other' h hb _) hb _) hb _) hb _
theorem set4_below {w0 w : World} {B b : Nat} (x0 x1 x2 x3 : Value) (h : Below B w0 w) (hb : B ≤ b) : Below B w0 (set4 w b x0 x1 x2 x3) := (((h.setCell (p := ⟨b, 0, none⟩) hb _).setCell (p := ⟨b, 1, none⟩) hb _).setCell (p := ⟨b, 2, none⟩) hb _).setCell (p := ⟨b, 3, none⟩) hb _
set_option maxRecDepth 100000 in
set_option maxHeartbeats 1000000 in
theorem cloneFunc_any (f : Fn) (v0 v1 v2 v3 : Value) (w : World) (hf : FnIs w.cell? f v0 v1 v2 v3) (hff : f.fits) : Calls Tryz.prog 79 #[.agg #[v0, v1, v2, v3]] w (CloneFEnd f w) := by
  obtain ⟨⟨a0, c0, rfl, g0⟩, ⟨a1, c1, rfl, g1⟩, ⟨a2, c2, rfl, g2⟩, ⟨a3, c3, rfl, g3⟩⟩ := hf
  obtain ⟨z0, z1, z2, z3⟩ := hff
  have hL : ∀ W, Below w.heap.size w W → Lies W (.slice a0 f.p.length c0) f.p.length (cellsN f.p) ∧ Lies W (.slice a1 f.r.length c1) f.r.length (cellsN f.r) ∧ Lies W (.slice a2 f.l.length c2) f.l.length (cellsN f.l) ∧ Lies W (.slice a3 f.code.length c3) f.code.length (cellsI f.code) := fun W hW => ⟨(g0.keep (below_keep hW)).lies c0, (g1.keep (below_keep hW)).lies c1, (g2.keep (below_keep hW)).lies c2, (g3.keep (below_keep hW)).lies c3⟩
  have hC0 : ∀ W, Below w.heap.size w W → Calls Tryz.prog 109 #[.slice a0 f.p.length c0] W (CopyEnd 3 1 f.p.length (cellsN f.p) W) := fun W hW => copyN a0 _ c0 _ W (hL W hW).1 (cellsN_len _) (cellsN_one _) z0
  have hC1 : ∀ W, Below w.heap.size w W → Calls Tryz.prog 109 #[.slice a1 f.r.length c1] W (CopyEnd 3 1 f.r.length (cellsN f.r) W) := fun W hW => copyN a1 _ c1 _ W (hL W hW).2.1 (cellsN_len _) (cellsN_one _) z1
  have hC2 : ∀ W, Below w.heap.size w W → Calls Tryz.prog 109 #[.slice a2 f.l.length c2] W (CopyEnd 3 1 f.l.length (cellsN f.l) W) := fun W hW => copyN a2 _ c2 _ W (hL W hW).2.2.1 (cellsN_len _) (cellsN_one _) z2
  have hC3 : ∀ W, Below w.heap.size w W → Calls Tryz.prog 110 #[.slice a3 f.code.length c3] W (CopyEnd 74 2 f.code.length (cellsI f.code) W) := fun W hW => copyI a3 _ c3 _ W (hL W hW).2.2.2 (cellsI_len _) (cellsI_one _) z3
  have fin : ∀ (w9 : World) u0 u1 u2 u3, w9.ownsRow w.heap.size 3 1 u0 f.p.length (cellsN f.p) → w9.ownsRow w.heap.size 3 1 u1 f.r.length (cellsN f.r) → w9.ownsRow w.heap.size 3 1 u2 f.l.length (cellsN f.l) → w9.ownsRow w.heap.size 74 2 u3 f.code.length (cellsI f.code) → Below w.heap.size w w9 → CloneFEnd f w (.returned (.agg #[u0, u1, u2, u3])) w9 := fun w9 u0 u1 u2 u3 q0 q1 q2 q3 hb => ⟨⟨u0, u1, u2, u3, rfl, q0, q1, q2, q3⟩, hb⟩
  clear hL g0 g1 g2 g3
  generalize cellsN f.p = x0 at *
  generalize cellsN f.r = x1 at *
  generalize cellsN f.l = x2 at *
  generalize cellsI f.code = x3 at *
  generalize f.p.length = n0 at *
  generalize f.r.length = n1 at *
  generalize f.l.length = n2 at *
  generalize f.code.length = n3 at *
  obtain ⟨W2, hW2⟩ : ∃ W2, W2 = (w.alloc (.cells #[.slice a0 n0 c0, .slice a1 n1 c1, .slice a2 n2 c2, .slice a3 n3 c3] 49)).alloc (.cells #[.slice none 0 0, .slice none 0 0, .slice none 0 0, .slice none 0 0] 49) := ⟨_, rfl⟩
  have hb2 : Below w.heap.size w W2 := by rw [hW2]; exact ((Below.refl _ w).alloc (Nat.le_refl _) _).alloc (by simp) _
  have bA : W2.heap[w.heap.size]? = some (.cells #[.slice a0 n0 c0, .slice a1 n1 c1, .slice a2 n2 c2, .slice a3 n3 c3] 49 (0, 0)) := by rw [hW2, Below.heap_alloc _ _ _ (by simp)]; exact heap_alloc_new w _
  have bB : W2.heap[w.heap.size + 1]? = some (.cells #[.slice none 0 0, .slice none 0 0, .slice none 0 0, .slice none 0 0] 49 (0, 0)) := by
    have := heap_alloc_new (w.alloc (.cells #[.slice a0 n0 c0, .slice a1 n1 c1, .slice a2 n2 c2, .slice a3 n3 c3] 49)) (.cells #[.slice none 0 0, .slice none 0 0, .slice none 0 0, .slice none 0 0] 49)
    rw [hW2]; simpa using this
  have lB := (Array.getElem?_eq_some_iff.1 bB).1
  have hSa : ∀ W, Below W2.heap.size W2 W → (W.cell? ⟨w.heap.size, 0, none⟩ = some (.slice a0 n0 c0) ∧ W.cell? ⟨w.heap.size, 1, none⟩ = some (.slice a1 n1 c1) ∧ W.cell? ⟨w.heap.size, 2, none⟩ = some (.slice a2 n2 c2) ∧ W.cell? ⟨w.heap.size, 3, none⟩ = some (.slice a3 n3 c3)) ∧ W.cell? ⟨w.heap.size + 1, 0, none⟩ = some (.slice none 0 0) ∧ W.cell? ⟨w.heap.size + 1, 1, none⟩ = some (.slice none 0 0) ∧ W.cell? ⟨w.heap.size + 1, 2, none⟩ = some (.slice none 0 0) ∧ W.cell? ⟨w.heap.size + 1, 3, none⟩ = some (.slice none 0 0) ∧ W.frozen? ⟨w.heap.size + 1, 0, none⟩ = false ∧ W.frozen? ⟨w.heap.size + 1, 1, none⟩ = false ∧ W.frozen? ⟨w.heap.size + 1, 2, none⟩ = false ∧ W.frozen? ⟨w.heap.size + 1, 3, none⟩ = false := fun W hW => by
    have e1 := (hW.block _ (by omega)).trans bA
    have e2 := (hW.block _ lB).trans bB
    refine ⟨⟨?_, ?_, ?_, ?_⟩, ?_, ?_, ?_, ?_, Lib.frozen_of_heap e2 0, Lib.frozen_of_heap e2 1, Lib.frozen_of_heap e2 2, Lib.frozen_of_heap e2 3⟩
    all_goals first | (rw [Lib.cell_of_heap e1]; rfl) | (rw [Lib.cell_of_heap e2]; rfl)
  have hSk : ∀ W, Below W2.heap.size W2 W → W.cell? ⟨w.heap.size, 0, none⟩ = some (.slice a0 n0 c0) ∧ W.cell? ⟨w.heap.size, 1, none⟩ = some (.slice a1 n1 c1) ∧ W.cell? ⟨w.heap.size, 2, none⟩ = some (.slice a2 n2 c2) ∧ W.cell? ⟨w.heap.size, 3, none⟩ = some (.slice a3 n3 c3) := fun W hW => (hSa W hW).1
  have hb0 : Below W2.heap.size W2 W2.drew := (Below.refl _ _).drew
  have lift : ∀ W, Below W2.heap.size W2 W → Below w.heap.size w W := fun W h => hb2.trans (h.mono hb2.size)
  have hD0 := hC0 W2.drew (lift _ hb0)
  clear hC0
  go_enter Tryz.func79, Tryz.ntmps79
  go_wp2_with fail
  rw [← hW2]
  clear hW2
  go_region_held3 (fun W => W.cell? ⟨w.heap.size, 0, none⟩ = some (.slice a0 n0 c0) ∧ W.cell? ⟨w.heap.size, 1, none⟩ = some (.slice a1 n1 c1) ∧ W.cell? ⟨w.heap.size, 2, none⟩ = some (.slice a2 n2 c2) ∧ W.cell? ⟨w.heap.size, 3, none⟩ = some (.slice a3 n3 c3)) (first | go_keep | exact hSk _ hb8 | exact hSk _ hb7 | exact hSk _ hb6 | exact hSk _ hb5 | exact hSk _ (Below.refl _ _)) (first | (go_at_call 109; first | (refine hD0.mono ?_; clear hD0; rintro e w5 ⟨⟨r0, rfl, q0⟩, hb5'⟩; obtain ⟨b0, d0, rfl, _⟩ := row_form q0; have hb5 := hb0.trans hb5'; have hD1 := hC1 w5 (lift _ hb5); clear hC1) | (refine hD1.mono ?_; clear hD1; rintro e w6 ⟨⟨r1, rfl, q1⟩, hb6'⟩; obtain ⟨b1, d1, rfl, _⟩ := row_form q1; have hb6 := hb5.trans (hb6'.mono hb5.size); have hD2 := hC2 w6 (lift _ hb6); clear hC2) | (refine hD2.mono ?_; clear hD2; rintro e w7 ⟨⟨r2, rfl, q2⟩, hb7'⟩; obtain ⟨b2, d2, rfl, _⟩ := row_form q2; have hb7 := hb6.trans (hb7'.mono hb6.size); have hD3 := hC3 w7 (lift _ hb7); clear hC3)) | (go_at_call 110; refine hD3.mono ?_; clear hD3; rintro e w8 ⟨⟨r3, rfl, q3⟩, hb8'⟩; obtain ⟨b3, d3, rfl, _⟩ := row_form q3; have hb8 := hb7.trans (hb8'.mono hb7.size); obtain ⟨_, m0, m1, m2, m3, o0, o1, o2, o3⟩ := hSa w8 hb8))
  have sz : W2.drew.heap.size = W2.heap.size := rfl
  have s5 := hb5.size
  have s6 := hb6.size
  have s7 := hb7.size
  have t7 : Below w7.heap.size w7 w8 := hb8'
  have t6 := hb7'.trans (t7.mono hb7'.size)
  have t5 := hb6'.trans (t6.mono hb6'.size)
  have Q0 := set4_row (b := w.heap.size + 1) (.slice b0 n0 d0) (.slice b1 n1 d1) (.slice b2 n2 d2) (.slice b3 n3 d3) (row_below2 q0 t5) (by omega)
  have Q1 := set4_row (b := w.heap.size + 1) (.slice b0 n0 d0) (.slice b1 n1 d1) (.slice b2 n2 d2) (.slice b3 n3 d3) (row_below2 q1 t6) (by omega)
  have Q2 := set4_row (b := w.heap.size + 1) (.slice b0 n0 d0) (.slice b1 n1 d1) (.slice b2 n2 d2) (.slice b3 n3 d3) (row_below2 q2 t7) (by omega)
  have Q3 := set4_row (b := w.heap.size + 1) (.slice b0 n0 d0) (.slice b1 n1 d1) (.slice b2 n2 d2) (.slice b3 n3 d3) q3 (by omega)
  obtain ⟨k0, k1, k2, k3⟩ := set4_cells (.slice b0 n0 d0) (.slice b1 n1 d1) (.slice b2 n2 d2) (.slice b3 n3 d3) m0 m1 m2 m3
  have F := fin _ _ _ _ _ (row_lower Q0 (by omega)) (row_lower Q1 (by omega)) (row_lower Q2 (by omega)) (row_lower Q3 (by omega)) (set4_below _ _ _ _ (lift _ hb8) (by omega))
  rw [show ((((w8.setCell ⟨w.heap.size + 1, 0, none⟩ (.slice b0 n0 d0)).setCell ⟨w.heap.size + 1, 1, none⟩ (.slice b1 n1 d1)).setCell ⟨w.heap.size + 1, 2, none⟩ (.slice b2 n2 d2)).setCell ⟨w.heap.size + 1, 3, none⟩ (.slice b3 n3 d3)) = set4 w8 (w.heap.size + 1) (.slice b0 n0 d0) (.slice b1 n1 d1) (.slice b2 n2 d2) (.slice b3 n3 d3) from rfl]
  generalize set4 w8 (w.heap.size + 1) (.slice b0 n0 d0) (.slice b1 n1 d1) (.slice b2 n2 d2) (.slice b3 n3 d3) = W9 at k0 k1 k2 k3 F ⊢
  go_wp2_with fail
  exact bodyPost_ret (results_cell1 rfl _ _ _ _ _ rfl (load_fn k0 k1 k2 k3)) rfl F
end Go.Proofs.YtpmlnkjamhelnaaGreat
namespace Go.Proofs.YtpmlnkjamhelnaaGreat
open Go.RowKit
theorem set_blk {w : World} {F o : Nat} {cs : Array Value} {t : TypeId} {z : Nat × Nat} (u : Value) (h : w.heap[F]? = some (.cells cs t z)) : (w.setCell ⟨F, o, none⟩ u).heap[F]? = some (.cells (cs.setIfInBounds o u) t z) := by
  have hlt := lt_of_block h
  have h' : w.heap[F] = .cells cs t z := by simpa [Array.getElem?_eq_getElem hlt] using h
  show (w.heap.modify F _)[F]? = _
  rw [Array.getElem?_eq_getElem (by simpa using hlt), Array.getElem_modify_self, h']
  rfl
def set4k (w : World) (F o : Nat) (x0 x1 x2 x3 : Value) : World := (((w.setCell ⟨F, o, none⟩ x0).setCell ⟨F, o + 1, none⟩ x1).setCell ⟨F, o + 2, none⟩ x2).setCell ⟨F, o + 3, none⟩ x3
theorem set4k_blk {w : World} {F o : Nat} {cs : Array Value} {t : TypeId} {z : Nat × Nat} (x0 x1 x2 x3 : Value) (h : w.heap[F]? = some (.cells cs t z)) : (set4k w F o x0 x1 x2 x3).heap[F]? = some (.cells ((((cs.setIfInBounds o x0).setIfInBounds (o + 1) x1).setIfInBounds (o + 2) x2).setIfInBounds (o + 3) x3) t z) := set_blk x3 (set_blk x2 (set_blk x1 (set_blk x0 h)))
theorem set4k_row {w : World} {F o base n size : Nat} {e : TypeId} {v : Value} {xs : List Value} (x0 x1 x2 x3 : Value) (h : w.ownsRow base e size v n xs) (hb : F < base) : (set4k w F o x0 x1 x2 x3).ownsRow base e size v n xs := ownsRow_setCell_other' (ownsRow_setCell_other' (ownsRow_setCell_other' (ownsRow_setCell_other' h hb _) hb _) hb _) hb _
theorem set4k_below {w0 w : World} {B F o : Nat} (x0 x1 x2 x3 : Value) (h : Below B w0 w) (hb : B ≤ F) : Below B w0 (set4k w F o x0 x1 x2 x3) := (((h.setCell (p := ⟨F, o, none⟩) hb _).setCell (p := ⟨F, o + 1, none⟩) hb _).setCell (p := ⟨F, o + 2, none⟩) hb _).setCell (p := ⟨F, o + 3, none⟩) hb _
theorem set4k_other {w : World} {F o k : Nat} (x0 x1 x2 x3 : Value) (hk : k ≠ F) : (set4k w F o x0 x1 x2 x3).heap[k]? = w.heap[k]? := by
  unfold set4k
  rw [Below.heap_setCell _ _ _ _ hk, Below.heap_setCell _ _ _ _ hk, Below.heap_setCell _ _ _ _ hk, Below.heap_setCell _ _ _ _ hk]
theorem set4k_cell {w : World} {F o b i : Nat} {v : Value} (x0 x1 x2 x3 : Value) (hk : ¬ b = F) (h : w.cell? ⟨b, i, none⟩ = some v) : (set4k w F o x0 x1 x2 x3).cell? ⟨b, i, none⟩ = some v := by
  rw [World.cell?_of_block (a := ⟨b, i, none⟩) (set4k_other x0 x1 x2 x3 hk)]; exact h
theorem set4k_size (w : World) (F o : Nat) (x0 x1 x2 x3 : Value) : (set4k w F o x0 x1 x2 x3).heap.size = w.heap.size := by simp [set4k, World.setCell]
/-- The functions of a row in block F: those ahead of k have lists of their own, the others those that lay at C. -/
def FBlk (w : World) (C : Addr → Option Value) (F N base : Nat) (fs : List Fn) (k : Nat) : Prop := ∃ cs : Array Value, w.heap[F]? = some (.cells cs 49 (0, 0)) ∧ cs.size = N ∧
  (∀ j (h : j < fs.length), j < k → ∃ u0 u1 u2 u3, cs[j * 4]? = some u0 ∧ cs[j * 4 + 1]? = some u1 ∧ cs[j * 4 + 2]? = some u2 ∧ cs[j * 4 + 3]? = some u3 ∧ FnOwn w base fs[j] u0 u1 u2 u3) ∧
  (∀ j (h : j < fs.length), k ≤ j → ∃ u0 u1 u2 u3, cs[j * 4]? = some u0 ∧ cs[j * 4 + 1]? = some u1 ∧ cs[j * 4 + 2]? = some u2 ∧ cs[j * 4 + 3]? = some u3 ∧ FnIs C fs[j] u0 u1 u2 u3)
theorem FBlk.below {w w' : World} {C : Addr → Option Value} {F N base k : Nat} {fs : List Fn} (h : FBlk w C F N base fs k) (hb : Below w.heap.size w w') : FBlk w' C F N base fs k := by
  obtain ⟨cs, h1, h2, h3, h4⟩ := h
  refine ⟨cs, (hb.block F (lt_of_block h1)).trans h1, h2, fun j hj hk => ?_, h4⟩
  obtain ⟨u0, u1, u2, u3, q0, q1, q2, q3, hO⟩ := h3 j hj hk
  exact ⟨u0, u1, u2, u3, q0, q1, q2, q3, hO.below hb⟩
theorem set4_get {cs : Array Value} {o i : Nat} (x0 x1 x2 x3 : Value) (hi : i < o ∨ o + 4 ≤ i) : ((((cs.setIfInBounds o x0).setIfInBounds (o + 1) x1).setIfInBounds (o + 2) x2).setIfInBounds (o + 3) x3)[i]? = cs[i]? := by
  rw [Array.getElem?_setIfInBounds_ne (by omega), Array.getElem?_setIfInBounds_ne (by omega), Array.getElem?_setIfInBounds_ne (by omega), Array.getElem?_setIfInBounds_ne (by omega)]
theorem FBlk.set {w : World} {C : Addr → Option Value} {F N base k : Nat} {fs : List Fn} {x0 x1 x2 x3 : Value} (h : FBlk w C F N base fs k) (hk : k < fs.length) (hN : fs.length * 4 ≤ N) (hF : F < base) (hO : FnOwn w base fs[k] x0 x1 x2 x3) : FBlk (set4k w F (k * 4) x0 x1 x2 x3) C F N base fs (k + 1) := by
  obtain ⟨cs, h1, h2, h3, h4⟩ := h
  have key : ∀ {f : Fn} {u0 u1 u2 u3 : Value}, FnOwn w base f u0 u1 u2 u3 → FnOwn (set4k w F (k * 4) x0 x1 x2 x3) base f u0 u1 u2 u3 := fun h => ⟨set4k_row _ _ _ _ h.1 hF, set4k_row _ _ _ _ h.2.1 hF, set4k_row _ _ _ _ h.2.2.1 hF, set4k_row _ _ _ _ h.2.2.2 hF⟩
  refine ⟨_, set4k_blk x0 x1 x2 x3 h1, by simp [h2], fun j hj hjk => ?_, fun j hj hjk => ?_⟩
  · rcases Nat.lt_or_ge j k with hlt | hge
    · obtain ⟨u0, u1, u2, u3, q0, q1, q2, q3, hO'⟩ := h3 j hj hlt
      refine ⟨u0, u1, u2, u3, ?_, ?_, ?_, ?_, key hO'⟩
      all_goals (rw [set4_get _ _ _ _ (by omega)]; assumption)
    · obtain rfl : j = k := by omega
      refine ⟨x0, x1, x2, x3, ?_, ?_, ?_, ?_, key hO⟩
      · rw [Array.getElem?_setIfInBounds_ne (by omega), Array.getElem?_setIfInBounds_ne (by omega), Array.getElem?_setIfInBounds_ne (by omega), Array.getElem?_setIfInBounds_self_of_lt (by omega)]
      · rw [Array.getElem?_setIfInBounds_ne (by omega), Array.getElem?_setIfInBounds_ne (by omega), Array.getElem?_setIfInBounds_self_of_lt (by simp; omega)]
      · rw [Array.getElem?_setIfInBounds_ne (by omega), Array.getElem?_setIfInBounds_self_of_lt (by simp; omega)]
      · rw [Array.getElem?_setIfInBounds_self_of_lt (by simp; omega)]
  · obtain ⟨u0, u1, u2, u3, q0, q1, q2, q3, hI⟩ := h4 j hj (by omega)
    refine ⟨u0, u1, u2, u3, ?_, ?_, ?_, ?_, hI⟩
    all_goals (rw [set4_get _ _ _ _ (by omega)]; assumption)
theorem FnOwn.lower {w : World} {base base' : Nat} {f : Fn} {u0 u1 u2 u3 : Value} (h : FnOwn w base f u0 u1 u2 u3) (hb : base' ≤ base) : FnOwn w base' f u0 u1 u2 u3 := ⟨row_lower h.1 hb, row_lower h.2.1 hb, row_lower h.2.2.1 hb, row_lower h.2.2.2 hb⟩
/-- The whole row, behind a store into an elder block. -/
theorem FBlk.done {w : World} {C : Addr → Option Value} {F N base base' b o : Nat} {u : Value} {fs : List Fn} (h : FBlk w C F N base fs fs.length) (hb : b < base) (hF : b ≠ F) (hB : base' ≤ base) : FBlk (w.setCell ⟨b, o, none⟩ u) (fun _ => none) F N base' fs fs.length := by
  obtain ⟨cs, h1, h2, h3, _⟩ := h
  refine ⟨cs, by rw [Below.heap_setCell _ _ _ _ (fun e => hF e.symm)]; exact h1, h2, fun j hj hk => ?_, fun j hj hk => by omega⟩
  obtain ⟨u0, u1, u2, u3, q0, q1, q2, q3, hO⟩ := h3 j hj hk
  exact ⟨u0, u1, u2, u3, q0, q1, q2, q3, FnOwn.lower ⟨ownsRow_setCell_other' hO.1 hb _, ownsRow_setCell_other' hO.2.1 hb _, ownsRow_setCell_other' hO.2.2.1 hb _, ownsRow_setCell_other' hO.2.2.2 hb _⟩ hB⟩
/-- What Clone answers: rows of their own. -/
structure ScrOwn (w : World) (base : Nat) (s : Scr) (v0 v1 : Value) : Prop where
  consts : w.ownsRow base 9 1 v0 s.consts.length (cellsS s.consts)
  form : ∃ a c, v1 = .slice a s.funcs.length c
  funcs : s.funcs = [] ∨ ∃ F N c, v1 = .slice (some ⟨F, 0, none⟩) s.funcs.length c ∧ base ≤ F ∧ s.funcs.length * 4 ≤ N ∧ FBlk w (fun _ => none) F N base s.funcs s.funcs.length
def CloneSEnd (s : Scr) (w : World) (e : Ending) (w' : World) : Prop := (∃ v0 v1, e = .returned (.agg #[v0, v1]) ∧ ScrOwn w' w.heap.size s v0 v1) ∧ Below w.heap.size w w'
theorem FnIs.forms {C : Addr → Option Value} {f : Fn} {u0 u1 u2 u3 : Value} (h : FnIs C f u0 u1 u2 u3) : u0.oneCell' = true ∧ u1.oneCell' = true ∧ u2.oneCell' = true ∧ u3.oneCell' = true := by
  obtain ⟨⟨_, _, rfl, _⟩, ⟨_, _, rfl, _⟩, ⟨_, _, rfl, _⟩, ⟨_, _, rfl, _⟩⟩ := h
  exact ⟨rfl, rfl, rfl, rfl⟩
theorem FsAt.lies {w : World} {a : Option Addr} {fs : List Fn} (h : FsAt w.cell? a fs) (c : Nat) : ∃ xs, Lies w (.slice a fs.length c) fs.length xs ∧ FRow w.cell? fs xs ∧ ∀ u ∈ xs, u.oneCell' = true := by
  rcases h with rfl | ⟨b, off, rfl, hc⟩
  · refine ⟨[], ?_, FRow.nil _, fun u hu => by simp at hu⟩
    cases a with
    | none => exact .inl ⟨c, rfl, rfl, rfl⟩
    | some ad => exact .inr ⟨ad, c, rfl, fun j u hu => by simp at hu⟩
  · have key : ∀ n, n ≤ fs.length → ∃ xs, FRow w.cell? (fs.take n) xs ∧ (∀ u ∈ xs, u.oneCell' = true) ∧ ∀ j u, xs[j]? = some u → w.cell? ⟨b, off + j, none⟩ = some u := fun n => by
      induction n with
      | zero => intro _; exact ⟨[], by simpa using FRow.nil _, fun u hu => by simp at hu, fun j u hu => by simp at hu⟩
      | succ n ih =>
        intro hn
        obtain ⟨xs, h1, h2, h3⟩ := ih (by omega)
        obtain ⟨v0, v1, v2, v3, q0, q1, q2, q3, hf⟩ := hc n (by omega)
        have hl := h1.1
        rw [List.length_take, Nat.min_eq_left (by omega)] at hl
        refine ⟨xs ++ [v0, v1, v2, v3], ?_, fun u hu => ?_, fun j u hu => ?_⟩
        · rw [List.take_add_one, List.getElem?_eq_getElem (by omega)]
          exact h1.snoc hf
        · obtain ⟨o0, o1, o2, o3⟩ := hf.forms
          simp only [List.mem_append, List.mem_cons, List.not_mem_nil, or_false] at hu
          rcases hu with hu | rfl | rfl | rfl | rfl
          · exact h2 u hu
          all_goals assumption
        · rcases Nat.lt_or_ge j xs.length with hlt | hge
          · rw [List.getElem?_append_left hlt] at hu
            exact h3 j u hu
          · rw [List.getElem?_append_right hge] at hu
            obtain ⟨i, hi⟩ : ∃ i, j = n * 4 + i := ⟨j - n * 4, by omega⟩
            subst hi
            rw [hl, Nat.add_sub_cancel_left] at hu
            match i, hu with
            | 0, hu => cases hu; exact q0
            | 1, hu => cases hu; exact q1
            | 2, hu => cases hu; exact q2
            | 3, hu => cases hu; exact q3
            | i + 4, hu => simp at hu
    obtain ⟨xs, h1, h2, h3⟩ := key fs.length (Nat.le_refl _)
    rw [List.take_length] at h1
    exact ⟨xs, .inr ⟨_, c, rfl, fun j u hu => by rw [Addr.add_lit]; exact h3 j u hu⟩, h1, h2⟩
/-- A row of functions that was copied. -/
theorem fblk_of_row {w : World} {C : Addr → Option Value} {base n : Nat} {v : Value} {fs : List Fn} {xs : List Value} (h : w.ownsRow base 49 4 v n xs) (hF : FRow C fs xs) (hn : fs.length = n) : fs = [] ∧ (∃ a c, v = .slice a n c) ∨ ∃ F N c, v = .slice (some ⟨F, 0, none⟩) n c ∧ base ≤ F ∧ n * 4 ≤ N ∧ ∀ b, FBlk w C F N b fs 0 := by
  rcases h.2 with ⟨rfl, h0⟩ | ⟨g, cap, cur, rfl, hg, hh, hnc, hcm, hsz, htk⟩
  · exact .inl ⟨List.eq_nil_of_length_eq_zero (by omega), none, 0, by rw [h0]⟩
  · refine .inr ⟨g, cap * 4, cap, rfl, hg, Nat.mul_le_mul_right _ hnc, fun b => ⟨cur, hh, hsz, fun j hj h0 => by omega, fun j hj _ => ?_⟩⟩
    obtain ⟨v0, v1, v2, v3, q0, q1, q2, q3, hf⟩ := hF.2 j hj
    have key : ∀ i u, i < n * 4 → xs[i]? = some u → cur[i]? = some u := fun i u hi hu => by
      rw [← htk, List.getElem?_take_of_lt hi] at hu
      simpa using hu
    exact ⟨v0, v1, v2, v3, key _ _ (by omega) q0, key _ _ (by omega) q1, key _ _ (by omega) q2, key _ _ (by omega) q3, hf⟩
end Go.Proofs.YtpmlnkjamhelnaaGreat
namespace Go.Proofs.YtpmlnkjamhelnaaGreat
open Go.RowKit
/-- Behind the two copies: the new script's box, and its rows. -/
def Copied (W2 : World) (n0 n1 : Nat) (xs ys : List Value) (c : Value) (wx : World) : Prop := ∃ (Bc : Nat) (x0 x1 : Option Addr) (d0 d1 : Nat), c = .pointer (some ⟨Bc, 0, none⟩) ∧ wx.heap[Bc]? = some (.cells #[.slice x0 n0 d0, .slice x1 n1 d1] 27 (0, 0)) ∧ W2.heap.size ≤ Bc ∧ wx.ownsRow W2.heap.size 9 1 (.slice x0 n0 d0) n0 xs ∧ wx.ownsRow W2.heap.size 49 4 (.slice x1 n1 d1) n1 ys ∧ Below W2.heap.size W2 wx
theorem copied_new {W2 w5 : World} {n0 n1 : Nat} {xs ys : List Value} {x0 x1 : Option Addr} {d0 d1 : Nat} (q0 : w5.ownsRow W2.heap.size 9 1 (.slice x0 n0 d0) n0 xs) (q1 : w5.ownsRow W2.heap.size 49 4 (.slice x1 n1 d1) n1 ys) (hb : Below W2.heap.size W2 w5) : Copied W2 n0 n1 xs ys (.pointer (some ⟨w5.heap.size, 0, none⟩)) (w5.alloc (.cells #[.slice x0 n0 d0, .slice x1 n1 d1] 27)) :=
  ⟨_, x0, x1, d0, d1, rfl, heap_alloc_new w5 _, hb.size, World.ownsRow.alloc q0 _, World.ownsRow.alloc q1 _, hb.alloc hb.size _⟩
theorem row_set_other {w : World} {base n size b o : Nat} {e e' : TypeId} {v u : Value} {xs : List Value} {cs : Array Value} (h : w.ownsRow base e size v n xs) (hb : w.heap[b]? = some (.cells cs e' (0, 0))) (hne : e ≠ e') : (w.setCell ⟨b, o, none⟩ u).ownsRow base e size v n xs := by
  refine ⟨h.1, ?_⟩
  rcases h.2 with h2 | ⟨g, cap, cur, rfl, hg, hh, r⟩
  · exact .inl h2
  · refine .inr ⟨g, cap, cur, rfl, hg, ?_, r⟩
    rw [Below.heap_setCell _ _ _ _ (fun e2 => ?_)]
    · exact hh
    · have e3 : g = b := e2
      subst e3
      rw [hh] at hb
      cases hb
      exact hne rfl
theorem set4k_row_other {w : World} {base n size F o : Nat} {e e' : TypeId} {v : Value} {xs : List Value} {cs : Array Value} (x0 x1 x2 x3 : Value) (h : w.ownsRow base e size v n xs) (hb : w.heap[F]? = some (.cells cs e' (0, 0))) (hne : e ≠ e') : (set4k w F o x0 x1 x2 x3).ownsRow base e size v n xs :=
  row_set_other (row_set_other (row_set_other (row_set_other h hb hne) (set_blk _ hb) hne) (set_blk _ (set_blk _ hb)) hne) (set_blk _ (set_blk _ (set_blk _ hb))) hne
theorem copied_set {W2 w5 : World} {n0 n1 B : Nat} {xs ys : List Value} {x0 x1 : Option Addr} {d0 d1 : Nat} {y z : Value} (q0 : w5.ownsRow W2.heap.size 9 1 (.slice x0 n0 d0) n0 xs) (q1 : w5.ownsRow W2.heap.size 49 4 (.slice x1 n1 d1) n1 ys) (hb : Below W2.heap.size W2 w5) (hB : w5.heap[B]? = some (.cells #[y, z] 27 (0, 0))) (hle : W2.heap.size ≤ B) : Copied W2 n0 n1 xs ys (.pointer (some ⟨B, 0, none⟩)) ((w5.setCell ⟨B, 0, none⟩ (.slice x0 n0 d0)).setCell ⟨B, 1, none⟩ (.slice x1 n1 d1)) := by
  have h1 := set2_0 (u := .slice x0 n0 d0) hB
  exact ⟨B, x0, x1, d0, d1, rfl, set2_1 h1, hle, row_set_other (row_set_other q0 hB (by decide)) h1 (by decide), row_set_other (row_set_other q1 hB (by decide)) h1 (by decide), (hb.setCell (p := ⟨B, 0, none⟩) hle _).setCell (p := ⟨B, 1, none⟩) hle _⟩
set_option maxRecDepth 100000 in
set_option maxHeartbeats 1000000 in
theorem clone4_any (s : Scr) (V0 V1 : Value) (w : World) (hs : ScIs w.cell? s V0 V1) (hsf : s.fits) : Calls Tryz.prog 43 #[.agg #[V0, V1]] w (CloneSEnd s w) := by
  obtain ⟨⟨A0, C0, rfl, h0⟩, ⟨A1, C1, rfl, h1⟩⟩ := hs
  obtain ⟨ys, hl1, hF1, ho1⟩ := h1.lies C1
  have hl0 := h0.lies C0
  have zF : ys.length = s.funcs.length * 4 := hF1.1
  have hS1 : ∀ W, Below w.heap.size w W → Calls Tryz.prog 77 #[.slice A0 s.consts.length C0] W (CopyEnd 9 1 s.consts.length (cellsS s.consts) W) := fun W hW => copyS A0 _ C0 _ W (hl0.keep (below_keep hW)) (cellsS_len _) (cellsS_one _) hsf.1
  have hS2 : ∀ W, Below w.heap.size w W → Calls Tryz.prog 78 #[.slice A1 s.funcs.length C1] W (CopyEnd 49 4 s.funcs.length ys W) := fun W hW => copyF A1 _ C1 _ W (hl1.keep (below_keep hW)) zF ho1 hsf.2.1
  have hff := hsf.2.2.1
  obtain ⟨n0, hn0⟩ : ∃ n, n = s.consts.length := ⟨_, rfl⟩
  obtain ⟨n1, hn1⟩ : ∃ n, n = s.funcs.length := ⟨_, rfl⟩
  rw [← hn0] at hS1 ⊢
  rw [← hn1] at hS2 ⊢
  have z1 : n1 ≤ 1466015503701 := by rw [hn1]; exact hsf.2.1
  have HC := hid hn0
  have HF := hid hn1
  clear hn0 hn1
  obtain ⟨W2, hW2⟩ : ∃ W2, W2 = (w.alloc (.cells #[.slice A0 n0 C0, .slice A1 n1 C1] 27)).alloc (.cells #[.slice none 0 0, .slice none 0 0] 27) := ⟨_, rfl⟩
  have hz2 : w.heap.size + 2 ≤ W2.heap.size := by rw [hW2]; simp
  have hb2 : Below w.heap.size w W2 := by rw [hW2]; exact ((Below.refl _ w).alloc (Nat.le_refl _) _).alloc (by simp) _
  have bA : W2.heap[w.heap.size]? = some (.cells #[.slice A0 n0 C0, .slice A1 n1 C1] 27 (0, 0)) := by rw [hW2, Below.heap_alloc _ _ _ (by simp)]; exact heap_alloc_new w _
  have bB : W2.heap[w.heap.size + 1]? = some (.cells #[.slice none 0 0, .slice none 0 0] 27 (0, 0)) := by
    have := heap_alloc_new (w.alloc (.cells #[.slice A0 n0 C0, .slice A1 n1 C1] 27)) (.cells #[.slice none 0 0, .slice none 0 0] 27)
    rw [hW2]; simpa using this
  have hSk : ∀ W, Below W2.heap.size W2 W → W.cell? ⟨w.heap.size, 0, none⟩ = some (.slice A0 n0 C0) ∧ W.cell? ⟨w.heap.size, 1, none⟩ = some (.slice A1 n1 C1) := fun W hW => by
    obtain ⟨q0, q1, _, _⟩ := cells2 ((hW.block _ (lt_of_block bA)).trans bA)
    exact ⟨q0, q1⟩
  have lift : ∀ W, Below W2.heap.size W2 W → Below w.heap.size w W := fun W h => hb2.trans (h.mono hb2.size)
  have hb3 : Below W2.heap.size W2 W2.drew := (Below.refl _ _).drew
  obtain ⟨p0, p1⟩ := hSk W2 (Below.refl _ _)
  obtain ⟨xs, hxs⟩ : ∃ xs, xs = cellsS s.consts := ⟨_, rfl⟩
  rw [← hxs] at hS1
  have HX := hid hxs.symm
  clear hxs
  go_enter Tryz.func43, Tryz.ntmps43
  go_upto_region 1 with fail
  rw [← hW2]
  clear hW2
  go_cut [3] (fun c wx => Copied W2 n0 n1 xs ys c wx)
  case first =>
    go_region_held3 (fun W => W.cell? ⟨w.heap.size, 0, none⟩ = some (.slice A0 n0 C0) ∧ W.cell? ⟨w.heap.size, 1, none⟩ = some (.slice A1 n1 C1)) (first | go_keep | exact hSk _ hb5 | exact hSk _ hb4 | exact hSk _ (hb5.alloc hb5.size _) | exact hSk _ (hb4.alloc hb4.size _) | exact hSk _ (hb3.alloc hb3.size _) | exact hSk _ hb3 | exact hSk _ (Below.refl _ _) | exact hSk _ ((hb5.setCell (p := ⟨w4.heap.size, 0, none⟩) hb4.size _).setCell (p := ⟨w4.heap.size, 1, none⟩) hb4.size _) | exact hSk _ ((hb5.setCell (p := ⟨W2.heap.size, 0, none⟩) (Nat.le_refl _) _).setCell (p := ⟨W2.heap.size, 1, none⟩) (Nat.le_refl _) _)) (first | (go_at_call 77; first | (refine (hS1 _ (lift _ hb3)).mono ?_; rintro e w4 ⟨⟨r0, rfl, q0⟩, hb4'⟩; obtain ⟨x0, d0, rfl, _⟩ := row_form q0; have hb4 := hb3.trans (hb4'.mono hb3.size)) | (refine (hS1 _ (lift _ (hb3.alloc hb3.size _))).mono ?_; rintro e w4 ⟨⟨r0, rfl, q0⟩, hb4'⟩; obtain ⟨x0, d0, rfl, _⟩ := row_form q0; have hb4 := (hb3.alloc hb3.size _).trans (hb4'.mono (hb3.alloc hb3.size _).size); have bx4 : w4.heap[W2.heap.size]? = some (.cells #[.slice none 0 0, .slice none 0 0] 27 (0, 0)) := (hb4'.block _ (lt_of_block (heap_alloc_new _ _))).trans (heap_alloc_new W2.drew (.cells #[.slice none 0 0, .slice none 0 0] 27)))) | (go_at_call 78; first | (refine (hS2 _ (lift _ hb4)).mono ?_; rintro e w5 ⟨⟨r1, rfl, q1⟩, hb5'⟩; obtain ⟨x1, d1, rfl, _⟩ := row_form q1; have hb5 := hb4.trans (hb5'.mono hb4.size); first | (have bx5 := (hb5'.block _ (lt_of_block bx4)).trans bx4; obtain ⟨y0, y1, o0, o1⟩ := cells2 bx5) | skip) | (refine (hS2 _ (lift _ (hb4.alloc hb4.size _))).mono ?_; rintro e w5 ⟨⟨r1, rfl, q1⟩, hb5'⟩; obtain ⟨x1, d1, rfl, _⟩ := row_form q1; have hb5 := (hb4.alloc hb4.size _).trans (hb5'.mono (hb4.alloc hb4.size _).size); have bx5 := (hb5'.block _ (lt_of_block (heap_alloc_new _ _))).trans (heap_alloc_new w4 (.cells #[.slice none 0 0, .slice none 0 0] 27)); obtain ⟨y0, y1, o0, o1⟩ := cells2 bx5)))
    all_goals
      go_wp2_with fail
      go_meet
      first | exact copied_new (row_below2 q0 hb5') (row_lower q1 hb4.size) hb5 | exact copied_set (row_below2 (World.ownsRow.alloc q0 _) hb5') (row_lower q1 (hb4.alloc hb4.size _).size) hb5 bx5 hb4.size | exact copied_set (row_lower (row_below2 q0 hb5') (by simp)) (row_lower q1 hb4.size) hb5 bx5 (Nat.le_refl _)
  case rest =>
    obtain ⟨Bc, x0, x1, d0, d1, rfl, bC, hBc, q0, q1, hbc⟩ := hcut
    have hbk := fblk_of_row q1 hF1 HF.out.symm
    obtain ⟨R, hR⟩ : ∃ R : World → Nat → Prop, R = fun W k => s.funcs = [] ∨ ∃ F N, x1 = some ⟨F, 0, none⟩ ∧ W2.heap.size ≤ F ∧ n1 * 4 ≤ N ∧ FBlk W w.cell? F N (F + 1) s.funcs k := ⟨_, rfl⟩
    have hR0 : R wc 0 := by
      rw [hR]
      rcases hbk with ⟨h0, _⟩ | ⟨F, N, c, hv, h1, h2, h3⟩
      · exact .inl h0
      · cases hv
        exact .inr ⟨F, N, rfl, h1, h2, h3 _⟩
    clear hbk
    obtain ⟨cc0, cc1, cf0, cf1⟩ := cells2 bC
    go_wp2_with fail
    go_loopw [16] (fun i wr => ∃ k : Nat, k ≤ n1 ∧ i = .int .i64 k ∧ R wr k ∧ wr.heap[Bc]? = some (.cells #[.slice x0 n0 d0, .slice x1 n1 d1] 27 (0, 0)) ∧ wr.ownsRow W2.heap.size 9 1 (.slice x0 n0 d0) n0 xs ∧ Below W2.heap.size W2 wr) (fun i _ => n1 - (intOf i).toNat)
    case atStart => exact ⟨0, Nat.zero_le _, rfl, hR0, bC, q0, hbc⟩
    case round =>
      obtain ⟨k, hk, rfl, hRk, bCr, qr, hbr⟩ := hrel
      by_cases hlt : k < n1
      · rw [hR] at hRk
        rcases hRk with h0 | ⟨F, N, rfl, hF0, hN, hFB⟩
        · have := HF.out; rw [h0] at this; simp at this; omega
        have kl : k < s.funcs.length := by have := HF.out; omega
        have hFB0 := hFB
        obtain ⟨cs, g1, g2, _, g4⟩ := hFB
        obtain ⟨u0, u1, u2, u3, e0, e1, e2, e3, hI⟩ := g4 k kl (Nat.le_refl _)
        have ff := hff s.funcs[k] (by simp)
        have hbwr := lift _ hbr
        have hset : ∀ (W : World) x0 x1 x2 x3, FBlk W w.cell? F N (F + 1) s.funcs k → FnOwn W (F + 1) s.funcs[k] x0 x1 x2 x3 → FBlk (set4k W F (k * 4) x0 x1 x2 x3) w.cell? F N (F + 1) s.funcs (k + 1) := fun W x0 x1 x2 x3 h1 h2 => h1.set kl (by have := HF.out; omega) (Nat.lt_succ_self _) h2
        generalize s.funcs[k] = f at hI ff hset
        have hCl : ∀ W, Below wr.heap.size wr W → Calls Tryz.prog 79 #[.agg #[u0, u1, u2, u3]] W (CloneFEnd f W) := fun W hW => cloneFunc_any f _ _ _ _ W (hI.keep fun a v h => below_keep hW _ _ (below_keep hbwr _ _ h)) ff
        obtain ⟨⟨a0, c0, rfl, _⟩, ⟨a1, c1, rfl, _⟩, ⟨a2, c2, rfl, _⟩, ⟨a3, c3, rfl, _⟩⟩ := hI
        generalize f.p.length = m0 at *
        generalize f.r.length = m1 at *
        generalize f.l.length = m2 at *
        generalize f.code.length = m3 at *
        have y0 : wr.cell? ⟨F, k * 4, none⟩ = some (.slice a0 m0 c0) := by rw [Lib.cell_of_heap g1]; exact e0
        have y1 : wr.cell? ⟨F, k * 4 + 1, none⟩ = some (.slice a1 m1 c1) := by rw [Lib.cell_of_heap g1]; exact e1
        have y2 : wr.cell? ⟨F, k * 4 + 2, none⟩ = some (.slice a2 m2 c2) := by rw [Lib.cell_of_heap g1]; exact e2
        have y3 : wr.cell? ⟨F, k * 4 + 3, none⟩ = some (.slice a3 m3 c3) := by rw [Lib.cell_of_heap g1]; exact e3
        have lF := lt_of_block g1
        have lC := lt_of_block bCr
        obtain ⟨W4, hW4⟩ : ∃ W4, W4 = wr.alloc (.cells #[.slice a0 m0 c0, .slice a1 m1 c1, .slice a2 m2 c2, .slice a3 m3 c3] 49) := ⟨_, rfl⟩
        have hb4 : Below wr.heap.size wr W4 := by rw [hW4]; exact (Below.refl _ _).alloc (Nat.le_refl _) _
        have bX : W4.heap[wr.heap.size]? = some (.cells #[.slice a0 m0 c0, .slice a1 m1 c1, .slice a2 m2 c2, .slice a3 m3 c3] 49 (0, 0)) := by rw [hW4]; exact heap_alloc_new wr _
        have lX := lt_of_block bX
        have bC4 := (hb4.block _ lC).trans bCr
        have hSk : ∀ W, Below W4.heap.size W4 W → W.cell? ⟨Bc, 1, none⟩ = some (.slice (some ⟨F, 0, none⟩) n1 d1) ∧ W.cell? ⟨wr.heap.size, 0, none⟩ = some (.slice a0 m0 c0) ∧ W.cell? ⟨wr.heap.size, 1, none⟩ = some (.slice a1 m1 c1) ∧ W.cell? ⟨wr.heap.size, 2, none⟩ = some (.slice a2 m2 c2) ∧ W.cell? ⟨wr.heap.size, 3, none⟩ = some (.slice a3 m3 c3) := fun W hW => by
          have t1 := (hW.block _ (lt_of_block bC4)).trans bC4
          have t2 := (hW.block _ lX).trans bX
          refine ⟨?_, ?_, ?_, ?_, ?_⟩
          all_goals first | (rw [Lib.cell_of_heap t1]; rfl) | (rw [Lib.cell_of_heap t2]; rfl)
        have hb5 : Below W4.heap.size W4 W4.drew := (Below.refl _ _).drew
        have hC5 := hCl W4.drew (hb4.trans (hb5.mono hb4.size))
        obtain ⟨s0, s1, s2, s3, s4⟩ := hSk W4 (Below.refl _ _)
        clear hCl
        go_upto_region 5 with fail
        rw [← hW4]
        clear hW4
        go_region_held3 (fun W => W.cell? ⟨Bc, 1, none⟩ = some (.slice (some ⟨F, 0, none⟩) n1 d1) ∧ W.cell? ⟨wr.heap.size, 0, none⟩ = some (.slice a0 m0 c0) ∧ W.cell? ⟨wr.heap.size, 1, none⟩ = some (.slice a1 m1 c1) ∧ W.cell? ⟨wr.heap.size, 2, none⟩ = some (.slice a2 m2 c2) ∧ W.cell? ⟨wr.heap.size, 3, none⟩ = some (.slice a3 m3 c3)) (first | go_keep | exact hSk _ hb6 | exact hSk _ hb5 | exact hSk _ (Below.refl _ _) | exact hS7 _ _ _ _) (first | (go_at_call 79; refine hC5.mono ?_; rintro e w6 ⟨⟨v0, v1, v2, v3, rfl, hO6⟩, hb6'⟩; clear hC5; have hb6 := hb5.trans (hb6'.mono hb5.size); have hbr6 := hb4.trans (hb6.mono hb4.size); obtain ⟨b0, k0, rfl, _⟩ := row_form hO6.1; obtain ⟨b1, k1, rfl, _⟩ := row_form hO6.2.1; obtain ⟨b2, k2, rfl, _⟩ := row_form hO6.2.2.1; obtain ⟨b3, k3, rfl, _⟩ := row_form hO6.2.2.2; have g6 := (hbr6.block _ lF).trans g1; have h0 : w6.cell? ⟨F, k * 4, none⟩ = some (.slice a0 m0 c0) := (by rw [Lib.cell_of_heap g6]; exact e0); have h1 : w6.cell? ⟨F, k * 4 + 1, none⟩ = some (.slice a1 m1 c1) := (by rw [Lib.cell_of_heap g6]; exact e1); have h2 : w6.cell? ⟨F, k * 4 + 2, none⟩ = some (.slice a2 m2 c2) := (by rw [Lib.cell_of_heap g6]; exact e2); have h3 : w6.cell? ⟨F, k * 4 + 3, none⟩ = some (.slice a3 m3 c3) := (by rw [Lib.cell_of_heap g6]; exact e3); have o0 := Lib.frozen_of_heap g6 (k * 4); have o1 := Lib.frozen_of_heap g6 (k * 4 + 1); have o2 := Lib.frozen_of_heap g6 (k * 4 + 2); have o3 := Lib.frozen_of_heap g6 (k * 4 + 3); have hFne : ¬ Bc = F := (fun e => by subst e; rw [g1] at bCr; cases bCr); have hFne2 : ¬ wr.heap.size = F := (by omega); obtain ⟨z0, z1, z2, z3, z4⟩ := hSk w6 hb6; have hS7 := (fun x0 x1 x2 x3 => And.intro (set4k_cell (o := k * 4) x0 x1 x2 x3 hFne z0) (And.intro (set4k_cell (o := k * 4) x0 x1 x2 x3 hFne2 z1) (And.intro (set4k_cell (o := k * 4) x0 x1 x2 x3 hFne2 z2) (And.intro (set4k_cell (o := k * 4) x0 x1 x2 x3 hFne2 z3) (set4k_cell (o := k * 4) x0 x1 x2 x3 hFne2 z4)))))))
        rw [show (((w6.setCell ⟨F, k * 4, none⟩ (.slice b0 f.p.length k0)).setCell ⟨F, k * 4 + 1, none⟩ (.slice b1 f.r.length k1)).setCell ⟨F, k * 4 + 2, none⟩ (.slice b2 f.l.length k2)).setCell ⟨F, k * 4 + 3, none⟩ (.slice b3 f.code.length k3) = set4k w6 F (k * 4) (.slice b0 f.p.length k0) (.slice b1 f.r.length k1) (.slice b2 f.l.length k2) (.slice b3 f.code.length k3) from rfl]
        have z6 : F + 1 ≤ W4.drew.heap.size := by have : W4.drew.heap.size = W4.heap.size := rfl; omega
        have B6 := hset w6 _ _ _ _ (hFB0.below hbr6) (hO6.lower z6)
        have C6 := (set4k_other (o := k * 4) (.slice b0 f.p.length k0) (.slice b1 f.r.length k1) (.slice b2 f.l.length k2) (.slice b3 f.code.length k3) hFne).trans ((hbr6.block _ lC).trans bCr)
        have Q6 := set4k_row_other (o := k * 4) (.slice b0 f.p.length k0) (.slice b1 f.r.length k1) (.slice b2 f.l.length k2) (.slice b3 f.code.length k3) (row_below2 qr hbr6) g6 (by decide)
        have D6 := set4k_below (o := k * 4) (.slice b0 f.p.length k0) (.slice b1 f.r.length k1) (.slice b2 f.l.length k2) (.slice b3 f.code.length k3) (hbr.trans (hbr6.mono hbr.size)) hF0
        generalize set4k w6 F (k * 4) (.slice b0 f.p.length k0) (.slice b1 f.r.length k1) (.slice b2 f.l.length k2) (.slice b3 f.code.length k3) = W7 at B6 C6 Q6 D6 ⊢
        have hR7 : R W7 (k + 1) := by rw [hR]; exact .inr ⟨F, N, rfl, hF0, hN, B6⟩
        go_wp2_with fail
        exact ⟨⟨k + 1, by omega, by go_num, hR7, C6, Q6, D6⟩, by simp [intOf]; omega⟩
      · obtain rfl : k = n1 := by omega
        rw [hR] at hRk
        obtain ⟨m0, m1, _, _⟩ := cells2 bCr
        have bR := (hbr.block _ (lt_of_block bB)).trans bB
        obtain ⟨i0, i1, i2, i3⟩ := cells2 bR
        have hj := cells2 (set2_1 (u := .slice x1 k d1) (set2_0 (u := .slice x0 n0 d0) bR))
        have Q7 := row_set_other (o := 1) (u := .slice x1 k d1) (row_set_other (o := 0) (u := .slice x0 n0 d0) qr bR (by decide)) (set2_0 (u := .slice x0 n0 d0) bR) (by decide)
        have D7 := ((lift _ hbr).setCell (p := ⟨w.heap.size + 1, 0, none⟩) (Nat.le_succ _) (.slice x0 n0 d0)).setCell (p := ⟨w.heap.size + 1, 1, none⟩) (Nat.le_succ _) (.slice x1 k d1)
        have E7 : ScrOwn ((wr.setCell ⟨w.heap.size + 1, 0, none⟩ (.slice x0 n0 d0)).setCell ⟨w.heap.size + 1, 1, none⟩ (.slice x1 k d1)) w.heap.size s (.slice x0 n0 d0) (.slice x1 k d1) := by
          refine ⟨?_, ⟨x1, d1, by rw [HF.out]⟩, ?_⟩
          · rw [← HC.out]
            rw [HX.out]
            exact row_lower Q7 (by omega)
          · rcases hRk with h0 | ⟨F, N, rfl, hF0, hN, hFB⟩
            · exact .inl h0
            · right
              refine ⟨F, N, d1, by rw [HF.out], by omega, by rw [← HF.out]; exact hN, ?_⟩
              rw [show k = s.funcs.length from HF.out] at hFB
              exact FBlk.done (FBlk.done hFB (by omega) (by omega) (Nat.le_refl _)) (by omega) (by omega) (by omega)
        go_wp2_with fail
        exact bodyPost_ret (results_cell1 rfl _ _ _ _ _ rfl (load_scr hj.1 hj.2.1)) rfl ⟨⟨_, _, rfl, E7⟩, D7⟩
end Go.Proofs.YtpmlnkjamhelnaaGreat
