/- shape's stack of blocks: push, drop. -/
import Derived.Test.YtodagpmcmjleaaaSA
namespace Go.Proofs.Ytodagpmcmjleaaa
open Go.RowKit
theorem elemN_blk : ElemN Try.prog 75 57 3 24 := by
  refine ⟨Try.underlying75, ?_, by decide⟩
  obtain ⟨i, hi, h1, h2, h3⟩ := info_parts (show (Try.prog.info? 57).map (fun i => (i.zero, i.size, i.bytes)) = some (some (.agg #[.int .i64 0, .int .i64 0, .bool false]), 3, 24) by kernel_rfl)
  exact ⟨i, _, hi, h1, h2, h3, rfl⟩
theorem cells_new6 (W : World) (xs : List Value) (t : TypeId) (B : Nat) (hB : W.heap.size = B) : ∀ j u, xs[j]? = some u → (W.alloc (.cells xs.toArray t)).cell? ((⟨B, 0, none⟩ : Addr).add j) = some u := by
  subst hB
  intro j u hu
  rw [Addr.add_lit, Lib.cell_of_heap (heap_alloc_new W (.cells xs.toArray t))]
  simpa using hu
theorem cellsB_snoc (L : List Blk) (b : Blk) : cellsB (L ++ [b]) = cellsB L ++ b.cs := by simp [cellsB]
/-- Only stacks and their blocks have turned. -/
def Mv (W W' : World) : Prop := W.heap.size ≤ W'.heap.size ∧ ∀ (k : Nat) (cur : Array Value) (t : TypeId) (z : Nat × Nat), t ≠ 77 → t ≠ 57 → W.heap[k]? = some (.cells cur t z) → W'.heap[k]? = some (.cells cur t z)
theorem Mv.refl (W : World) : Mv W W := ⟨Nat.le_refl _, fun _ _ _ _ _ _ h => h⟩
theorem Mv.trans {A B C : World} (h : Mv A B) (g : Mv B C) : Mv A C := ⟨Nat.le_trans h.1 g.1, fun k cur t z h1 h2 hk => g.2 k cur t z h1 h2 (h.2 k cur t z h1 h2 hk)⟩
theorem Mv.below {W W' : World} (h : Below W.heap.size W W') : Mv W W' := ⟨h.size, fun k _ _ _ _ _ hk => (h.block k (blk_lt hk)).trans hk⟩
theorem Mv.set {W : World} {b o : Nat} {cs : Array Value} {t0 : TypeId} {z : Nat × Nat} {u : Value} (hb : W.heap[b]? = some (.cells cs t0 z)) (ht : t0 = 77 ∨ t0 = 57) : Mv W (W.setCell ⟨b, o, none⟩ u) := by
  refine ⟨by simp [World.setCell], fun k cur t z' h1 h2 hk => (Below.heap_setCell _ _ _ k fun e => ?_).trans hk⟩
  subst e
  rw [hb] at hk
  cases hk
  rcases ht with rfl | rfl
  · exact h1 rfl
  · exact h2 rfl
theorem Mv.step {W W' : World} {base n : Nat} {v v' : Value} {xs : List Value} (hr : W.ownsRow base 57 3 v n xs) (hs : Step W v W' v') : Mv W W' := by
  refine ⟨hs.1.size, fun k cur t z h1 h2 hk => (hs.1.block k (blk_lt hk) fun h => ?_).trans hk⟩
  rcases hr.2 with ⟨rfl, _⟩ | ⟨g, cap, cur', rfl, _, hh, _⟩
  · cases h
  · cases h
    rw [hk] at hh
    cases hh
    exact h2 rfl
/-- How push, drop and step leave it. -/
def StkEnd (p : Nat) (L : List Blk) (W : World) (e : Ending) (w' : World) : Prop := e = .returned (.tuple #[]) ∧ (∃ a cap, Stk (p + 1) p L a cap w') ∧ Below p W w' ∧ Mv W w'
theorem one_set {w : World} {b : Nat} {x u : Value} {t : TypeId} (h : w.heap[b]? = some (.cells #[x] t (0, 0))) : (w.setCell ⟨b, 0, none⟩ u).heap[b]? = some (.cells #[u] t (0, 0)) := by
  simp [World.setCell, Array.getElem?_modify, h]
theorem row_other6 {w : World} {base n size b o : Nat} {e e' : TypeId} {v u : Value} {xs : List Value} {cs : Array Value} (h : w.ownsRow base e size v n xs) (hb : w.heap[b]? = some (.cells cs e' (0, 0))) (hne : e ≠ e') : (w.setCell ⟨b, o, none⟩ u).ownsRow base e size v n xs := by
  refine ⟨h.1, ?_⟩
  rcases h.2 with h2 | ⟨g, cap, cur, rfl, hg, hh, r⟩
  · exact .inl h2
  · refine .inr ⟨g, cap, cur, rfl, hg, ?_, r⟩
    rw [Below.heap_setCell _ _ _ _ (fun e2 => ?_)]
    · exact hh
    · subst e2
      rw [hb] at hh
      cases hh
      exact hne rfl
set_option maxRecDepth 100000 in
set_option maxHeartbeats 1000000 in
theorem push_any {p : Nat} {L : List Blk} {a : Option Addr} {cap : Nat} (b : Blk) (W : World) (h : Stk (p + 1) p L a cap W) (hl : L.length ≤ 1000000) : Calls Try.prog 52 #[.pointer (some ⟨p, 0, none⟩), b.v] W (StkEnd p (L ++ [b]) W) := by
  obtain ⟨bs, bo, bl⟩ := b
  simp only [Blk.v]
  have bx4 := (Below.refl _ W).alloc (Nat.le_refl _) (.cells #[.int .i64 bs, .int .i64 bo, .bool bl] 57)
  have bx5 := bx4.drew.alloc (by simp) (.cells #[.int .i64 bs, .int .i64 bo, .bool bl] 57)
  have h5 := h.keep bx5
  obtain ⟨p0, z0⟩ := one_cell h.box
  have hlt := blk_lt h.box
  go_enter Try.func52, Try.ntmps52
  go_wp2_with fail
  go_region_law (first
    | (refine step_appN _ (by rfl) (.tmp 8) (.tmp 10) 75 (by rfl) elemN_blk (p + 1) _ L.length (cellsB L) (by rfl) h5.row _ (by rfl) 1 [.int .i64 bs, .int .i64 bo, .bool bl] (.inr ⟨⟨_, 0, none⟩, 1, rfl, cells_new6 _ [.int .i64 bs, .int .i64 bo, .bool bl] 57 _ (World.size_alloc _ _)⟩) rfl (by simp [Value.oneCell']) (by unfold maxLen; omega) (by omega) (by simp; omega) ?_; intro v' w6 hr6 hs6; have m6 := Mv.step h5.row hs6; have b6 : w6.heap[p]? = some (.cells #[.slice a L.length cap] 77 (0, 0)) := (hs6.1.block p (by simp; omega) (fun e => by have := (h5.row.lt p e.symm).1; omega)).trans h5.box; obtain ⟨j0, j1⟩ := one_cell b6; obtain ⟨vy, vd, rfl, _⟩ := row_form hr6))
  all_goals
    go_wp2_with fail
    go_end0
    have hb6 := (bx5.mono (show p ≤ W.heap.size by omega)).trans ((hs6.below (B := p + 1) (by simp; omega) fun g e => (h5.row.lt g e).1).mono (by omega))
    refine ⟨rfl, ⟨vy, vd, ⟨by rw [List.length_append]; exact one_set b6, ?_⟩⟩, hb6.setCell (p := ⟨p, 0, none⟩) (Nat.le_refl _) _, ((Mv.below bx5).trans m6).trans (Mv.set b6 (.inl rfl))⟩
    rw [cellsB_snoc, List.length_append]
    exact row_other6 hr6 b6 (by decide)
end Go.Proofs.Ytodagpmcmjleaaa
