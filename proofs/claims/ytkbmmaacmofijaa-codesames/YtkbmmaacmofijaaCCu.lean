/- A copy that is spoilt. -/
import Derived.Test.YtkbmmaacmofijaaCCt
namespace Go.Proofs.Ytkbmmaacmofijaa
open Go.RowKit
/-- W is W0, but for cells of lists in the blocks from B0 on. -/
structure Spoilt (B0 : Nat) (W0 W : World) : Prop where
  below : Below B0 W0 W
  blk : ∀ (k : Nat) (cs : Array Value) (t : TypeId) (z : Nat × Nat), W0.heap[k]? = some (Obj.cells cs t z) → ∃ cs' : Array Value, W.heap[k]? = some (Obj.cells cs' t z) ∧ cs'.size = cs.size ∧ (t = 32 ∨ t = 25 → cs' = cs)
theorem Spoilt.refl (B0 : Nat) (W : World) : Spoilt B0 W W := ⟨Below.refl _ _, fun _ cs _ _ h => ⟨cs, h, rfl, fun _ => rfl⟩⟩
theorem Spoilt.set {B0 g o : Nat} {W0 W : World} {cs : Array Value} {t : TypeId} (h : Spoilt B0 W0 W) (hg : W0.heap[g]? = some (.cells cs t (0, 0))) (hb : B0 ≤ g) (ht : ¬ (t = 32 ∨ t = 25)) (u : Value) : Spoilt B0 W0 (W.setCell ⟨g, o, none⟩ u) := by
  refine ⟨h.below.setCell (p := ⟨g, o, none⟩) hb _, fun k cs2 t2 z2 h2 => ?_⟩
  obtain ⟨cs', h3, h4, h5⟩ := h.blk k cs2 t2 z2 h2
  by_cases hk : k = g
  · subst hk
    rw [hg] at h2
    cases h2
    exact ⟨_, set_blk u h3, by simp [h4], fun e => absurd e ht⟩
  · exact ⟨cs', by rw [Below.heap_setCell _ _ _ _ hk]; exact h3, h4, h5⟩
/-- A cell of a list of one's own may be written. -/
def MaySet (B0 : Nat) (W0 W : World) (a : Addr) : Prop := (∃ v, W.cell? a = some v) ∧ W.frozen? a = false ∧ ∀ u, Spoilt B0 W0 (W.setCell a u)
theorem Spoilt.at {B0 base n c size : Nat} {W0 W : World} {e : TypeId} {a : Option Addr} {xs : List Value} (h : Spoilt B0 W0 W) (hr : W0.ownsRow base e size (.slice a n c) n xs) (hB : B0 ≤ base) (he : ¬ (e = 32 ∨ e = 25)) (hn : 0 < n) : ∃ g, a = some ⟨g, 0, none⟩ ∧ ∀ j, j < n * size → MaySet B0 W0 W ⟨g, j, none⟩ := by
  rcases hr.2 with ⟨_, h0⟩ | ⟨g, cap, cur, hv, hg, hh, hnc, hcm, hsz, _⟩
  · omega
  · cases hv
    refine ⟨g, rfl, fun j hj => ?_⟩
    obtain ⟨cs', h3, h4, _⟩ := h.blk g cur e (0, 0) hh
    have hjc : j < cs'.size := by
      have := Nat.mul_le_mul_right size hnc
      omega
    refine ⟨⟨cs'[j], by rw [Lib.cell_of_heap h3]; simp [hjc]⟩, Lib.frozen_of_heap h3 j, fun u => h.set hh (Nat.le_trans hB hg) he u⟩
theorem Spoilt.box {B0 b : Nat} {W0 W : World} {x y : Value} (h : Spoilt B0 W0 W) (hb : W0.heap[b]? = some (.cells #[x, y] 25 (0, 0))) : W.cell? ⟨b, 0, none⟩ = some x ∧ W.cell? ⟨b, 1, none⟩ = some y := by
  obtain ⟨cs', h3, _, h5⟩ := h.blk b _ _ _ hb
  rw [h5 (.inr rfl)] at h3
  obtain ⟨q0, q1, _, _⟩ := cells2 h3
  exact ⟨q0, q1⟩
/-- The slices of a function of the copy, and their cells. -/
theorem fn_of {B0 F N base n k : Nat} {W0 : World} {fs : List Fn} (hF : FBlk W0 (fun _ => none) F N base fs n) (hn : n = fs.length) (hk : k < n) : ∃ (m0 m1 m2 m3 c0 c1 c2 c3 : Nat) (a0 a1 a2 a3 : Option Addr),
    (∀ W, Spoilt B0 W0 W → W.cell? ⟨F, k * 4, none⟩ = some (.slice a0 m0 c0) ∧ W.cell? ⟨F, k * 4 + 1, none⟩ = some (.slice a1 m1 c1) ∧ W.cell? ⟨F, k * 4 + 2, none⟩ = some (.slice a2 m2 c2) ∧ W.cell? ⟨F, k * 4 + 3, none⟩ = some (.slice a3 m3 c3)) ∧
    (m0 ≤ 9223372036854775807 ∧ m1 ≤ 9223372036854775807 ∧ m2 ≤ 9223372036854775807 ∧ m3 ≤ 9223372036854775807) ∧
    ∃ x0 x1 x2 x3, W0.ownsRow base 3 1 (.slice a0 m0 c0) m0 x0 ∧ W0.ownsRow base 3 1 (.slice a1 m1 c1) m1 x1 ∧ W0.ownsRow base 3 1 (.slice a2 m2 c2) m2 x2 ∧ W0.ownsRow base 51 2 (.slice a3 m3 c3) m3 x3 := by
  obtain ⟨cs, h1, _, h3, _⟩ := hF
  obtain ⟨u0, u1, u2, u3, q0, q1, q2, q3, hO⟩ := h3 k (by omega) hk
  obtain ⟨a0, c0, rfl, l0, o0, _⟩ := row_form hO.1
  obtain ⟨a1, c1, rfl, l1, o1, _⟩ := row_form hO.2.1
  obtain ⟨a2, c2, rfl, l2, o2, _⟩ := row_form hO.2.2.1
  obtain ⟨a3, c3, rfl, l3, o3, _⟩ := row_form hO.2.2.2
  refine ⟨_, _, _, _, c0, c1, c2, c3, a0, a1, a2, a3, fun W h => ?_, ⟨by unfold maxLen at o0; omega, by unfold maxLen at o1; omega, by unfold maxLen at o2; omega, by unfold maxLen at o3; omega⟩, _, _, _, _, hO⟩
  obtain ⟨cs', g3, _, g5⟩ := h.blk F cs _ _ h1
  rw [g5 (.inl rfl)] at g3
  refine ⟨?_, ?_, ?_, ?_⟩
  all_goals (rw [Lib.cell_of_heap g3]; assumption)
end Go.Proofs.Ytkbmmaacmofijaa
