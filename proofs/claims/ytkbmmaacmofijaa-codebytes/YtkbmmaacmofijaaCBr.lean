/- The document's Clone: what its region of four copies leaves, in whatever order. -/
import Derived.Test.YtkbmmaacmofijaaCA
import Derived.Test.YtkbmmaacmofijaaRI
namespace Go.Proofs.Ytkbmmaacmofijaa
open Go.RowKit
/-- What each operation leaves: out's box is B, the function's is F. -/
def PrAt (B F base : Nat) (vF v0 v1 v2 v3 : Value) (f : Fn) (i : Nat) (u : Value) (W : World) : Prop :=
  match i with
  | 0 => u = .pointer (some ⟨B, 1, none⟩)
  | 1 => u = vF
  | 2 => ∃ g, u = .slice (some ⟨g, 0, none⟩) 0 0 ∧ base ≤ g ∧ W.heap[g]? = some (.cells #[] 3 (0, 0))
  | 3 => u = .pointer (some ⟨F, 0, none⟩)
  | 4 => u = v0
  | 5 => ∃ a c, u = .slice a f.p.length c ∧ NsAt (offRow W vF B) a f.p
  | 6 => ∃ g, u = .slice (some ⟨g, 0, none⟩) 0 0 ∧ base ≤ g ∧ W.heap[g]? = some (.cells #[] 3 (0, 0))
  | 7 => u = .pointer (some ⟨F, 1, none⟩)
  | 8 => u = v1
  | 9 => ∃ a c, u = .slice a f.r.length c ∧ NsAt (offRow W vF B) a f.r
  | 10 => ∃ g, u = .slice (some ⟨g, 0, none⟩) 0 0 ∧ base ≤ g ∧ W.heap[g]? = some (.cells #[] 3 (0, 0))
  | 11 => u = .pointer (some ⟨F, 2, none⟩)
  | 12 => u = v2
  | 13 => ∃ a c, u = .slice a f.l.length c ∧ NsAt (offRow W vF B) a f.l
  | 14 => ∃ g, u = .slice (some ⟨g, 0, none⟩) 0 0 ∧ base ≤ g ∧ W.heap[g]? = some (.cells #[] 51 (0, 0))
  | 15 => u = .pointer (some ⟨F, 3, none⟩)
  | 16 => u = v3
  | 17 => ∃ a c, u = .slice a f.code.length c ∧ IsAt (offRow W vF B) a f.code
  | 18 => ∃ u0 u1 u2 u3, u = .agg #[u0, u1, u2, u3] ∧ FnIs (offRow W vF B) f u0 u1 u2 u3
  | 19 => ∃ g u0 u1 u2 u3, u = .slice (some ⟨g, 0, none⟩) 1 1 ∧ W.heap[g]? = some (.cells #[u0, u1, u2, u3] 32 (0, 0)) ∧ FnIs (offRow W vF B) f u0 u1 u2 u3
  | 21 => u = .pointer (some ⟨B, 1, none⟩)
  | _ => True
theorem PrAt.below {B F base : Nat} {vF v0 v1 v2 v3 : Value} {f : Fn} {i : Nat} {u : Value} {W W' : World} (h : PrAt B F base vF v0 v1 v2 v3 f i u W) (hb : Below W.heap.size W W') : PrAt B F base vF v0 v1 v2 v3 f i u W' := by
  have hk := offRow_keep (v := vF) (B := B) (below_keep hb)
  unfold PrAt at h ⊢
  split at h
  all_goals first
    | exact h
    | (obtain ⟨g, rfl, h1, hg⟩ := h; exact ⟨g, rfl, h1, by rw [hb.block g (Array.getElem?_eq_some_iff.1 hg).1]; exact hg⟩)
    | (obtain ⟨a, c, rfl, hn⟩ := h; exact ⟨a, c, rfl, hn.keep hk⟩)
    | (obtain ⟨u0, u1, u2, u3, rfl, hn⟩ := h; exact ⟨u0, u1, u2, u3, rfl, hn.keep hk⟩)
    | (obtain ⟨g, u0, u1, u2, u3, rfl, hg, hn⟩ := h; exact ⟨g, u0, u1, u2, u3, rfl, by rw [hb.block g (Array.getElem?_eq_some_iff.1 hg).1]; exact hg, hn.keep hk⟩)
/-- The row with one function more. -/
def NewRow (B k : Nat) (fs : List Fn) (u : Value) (W : World) : Prop := ∃ xs, W.ownsRow (B + 1) 32 4 u (k + 1) xs ∧ FRow (offRow W u B) fs xs
theorem NewRow.below {B k : Nat} {fs : List Fn} {u : Value} {W W' : World} (h : NewRow B k fs u W) (hb : Below W.heap.size W W') : NewRow B k fs u W' := by
  obtain ⟨xs, h1, h2⟩ := h
  exact ⟨xs, row_below2 h1 hb, h2.keep (offRow_keep (below_keep hb))⟩
def CP (B F base k : Nat) (vF v0 v1 v2 v3 : Value) (f : Fn) (fs : List Fn) (listed : Array Bool) (i : Nat) (u : Value) (W : World) : Prop :=
  if i = 20 then listed.getD 22 false = true ∨ NewRow B k fs u W else (listed.getD 20 false = true ∧ i ≠ 21) ∨ PrAt B F base vF v0 v1 v2 v3 f i u W
structure CG (B F k : Nat) (vS vF v0 v1 v2 v3 : Value) (fs : List Fn) (w3 W5 : World) (listed : Array Bool) (W : World) : Prop where
  low : Below B w3 W
  size : W5.heap.size ≤ W.heap.size
  fbox : W.heap[F]? = some (.cells #[v0, v1, v2, v3] 32 (0, 0))
  early : listed.getD 20 false = false → Below W5.heap.size W5 W
  obox : listed.getD 22 false = false → W.heap[B]? = some (.cells #[vS, vF] 25 (0, 0))
  fin : listed.getD 22 false = true → ∃ u, W.heap[B]? = some (.cells #[vS, u] 25 (0, 0)) ∧ NewRow B k fs u W
theorem getD_far {listed : Array Bool} {i j : Nat} (h : i ≠ j) : (listed.setIfInBounds i true).getD j false = listed.getD j false := by
  rw [getD_set, if_neg (fun e => h e.1)]
theorem CG.below {B F k : Nat} {vS vF v0 v1 v2 v3 : Value} {fs : List Fn} {w3 W5 : World} {listed : Array Bool} {W W' : World} (h : CG B F k vS vF v0 v1 v2 v3 fs w3 W5 listed W) (hB : B < W.heap.size) (hb : Below W.heap.size W W') {i : Nat} (h1 : i ≠ 20) (h2 : i ≠ 22) : CG B F k vS vF v0 v1 v2 v3 fs w3 W5 (listed.setIfInBounds i true) W' := by
  refine ⟨h.low.trans (hb.mono (by omega)), Nat.le_trans h.size hb.size, ?_, ?_, ?_, ?_⟩
  · rw [hb.block F (Array.getElem?_eq_some_iff.1 h.fbox).1]; exact h.fbox
  · rw [getD_far h1]; exact fun e => (h.early e).trans (hb.mono h.size)
  · rw [getD_far h2]; exact fun e => by rw [hb.block B hB]; exact h.obox e
  · rw [getD_far h2]
    intro e
    obtain ⟨u, q1, q2⟩ := h.fin e
    exact ⟨u, by rw [hb.block B hB]; exact q1, q2.below hb⟩
theorem CP.below {B F base k : Nat} {vF v0 v1 v2 v3 : Value} {f : Fn} {fs : List Fn} {listed : Array Bool} {W W' : World} (hb : Below W.heap.size W W') {i : Nat} (h1 : i ≠ 20) (h2 : i ≠ 22) : ∀ j u, listed.getD j false = true → CP B F base k vF v0 v1 v2 v3 f fs listed j u W → CP B F base k vF v0 v1 v2 v3 f fs (listed.setIfInBounds i true) j u W' := by
  intro j u _ h
  unfold CP at h ⊢
  rw [getD_far h1, getD_far h2]
  split at h
  · rename_i e
    rw [if_pos e]
    exact h.imp id fun h => h.below hb
  · rename_i e
    rw [if_neg e]
    exact h.imp id fun h => h.below hb
theorem ownsRow_setCell_other' {w : World} {base n size B o : Nat} {e : TypeId} {v : Value} {xs : List Value} (h : w.ownsRow base e size v n xs) (hB : B < base) (u : Value) : (w.setCell ⟨B, o, none⟩ u).ownsRow base e size v n xs := by
  refine ⟨h.1, ?_⟩
  rcases h.2 with h2 | ⟨g, cap, cur, rfl, hg, hh, r⟩
  · exact .inl h2
  · exact .inr ⟨g, cap, cur, rfl, hg, by rw [Below.heap_setCell _ _ _ _ (by show g ≠ B; omega)]; exact hh, r⟩
/-- A step that only makes memory. -/
theorem clone_step {B F base k : Nat} {vS vF v0 v1 v2 v3 : Value} {f : Fn} {fs : List Fn} {w3 W5 : World} {listed : Array Bool} {W W' : World} {a : Act} {dst : Option Tmp} {i : Nat} {v : Value} (hG : CG B F k vS vF v0 v1 v2 v3 fs w3 W5 listed W) (hB : B < W.heap.size) (hb : Below W.heap.size W W') (h1 : i ≠ 20) (h2 : i ≠ 22) (hv : PrAt B F base vF v0 v1 v2 v3 f i v W') :
    ∃ u, a.put dst v = a.put dst u ∧ CP B F base k vF v0 v1 v2 v3 f fs (listed.setIfInBounds i true) i u W' ∧ CG B F k vS vF v0 v1 v2 v3 fs w3 W5 (listed.setIfInBounds i true) W' ∧ ∀ j u, listed.getD j false = true → CP B F base k vF v0 v1 v2 v3 f fs listed j u W → CP B F base k vF v0 v1 v2 v3 f fs (listed.setIfInBounds i true) j u W' :=
  ⟨v, rfl, by unfold CP; rw [if_neg h1]; exact .inr hv, hG.below hB hb h1 h2, CP.below hb h1 h2⟩
end Go.Proofs.Ytkbmmaacmofijaa
