/- shape.Around: what it does for each open block. -/
import Derived.Test.YtodagpmcmjleaaaSK
namespace Go.Proofs.Ytodagpmcmjleaaa
open Go.RowKit
/-- Places noted so far, in a row of its own behind its box. -/
structure Pls (q : Nat) (ns : List Int) (a : Option Addr) (cap : Nat) (W : World) : Prop where
  box : W.heap[q]? = some (.cells #[.slice a ns.length cap] 23 (0, 0))
  row : W.ownsRow (q + 1) 3 1 (.slice a ns.length cap) ns.length (cellsN ns)
theorem Pls.keep {q : Nat} {ns : List Int} {a : Option Addr} {cap : Nat} {W W' : World} (h : Pls q ns a cap W) (hb : Below W.heap.size W W') : Pls q ns a cap W' := ⟨(hb.block _ (blk_lt h.box)).trans h.box, row_below2 h.row hb⟩
/-- Only lists of numbers have turned. -/
def MvP (W W' : World) : Prop := W.heap.size ≤ W'.heap.size ∧ ∀ (k : Nat) (cur : Array Value) (t : TypeId) (z : Nat × Nat), t ≠ 23 → t ≠ 3 → W.heap[k]? = some (.cells cur t z) → W'.heap[k]? = some (.cells cur t z)
theorem MvP.refl (W : World) : MvP W W := ⟨Nat.le_refl _, fun _ _ _ _ _ _ h => h⟩
theorem MvP.trans {A B C : World} (h : MvP A B) (g : MvP B C) : MvP A C := ⟨Nat.le_trans h.1 g.1, fun k cur t z h1 h2 hk => g.2 k cur t z h1 h2 (h.2 k cur t z h1 h2 hk)⟩
theorem MvP.below {W W' : World} (h : Below W.heap.size W W') : MvP W W' := ⟨h.size, fun k _ _ _ _ _ hk => (h.block k (blk_lt hk)).trans hk⟩
theorem MvP.set {W : World} {b o : Nat} {cs : Array Value} {z : Nat × Nat} {u : Value} (hb : W.heap[b]? = some (.cells cs 23 z)) : MvP W (W.setCell ⟨b, o, none⟩ u) := by
  refine ⟨by simp [World.setCell], fun k cur t z' h1 h2 hk => (Below.heap_setCell _ _ _ k fun e => ?_).trans hk⟩
  subst e
  rw [hb] at hk
  cases hk
  exact h1 rfl
theorem MvP.step {W W' : World} {base n : Nat} {v v' : Value} {xs : List Value} (hr : W.ownsRow base 3 1 v n xs) (hs : Step W v W' v') : MvP W W' := by
  refine ⟨hs.1.size, fun k cur t z h1 h2 hk => (hs.1.block k (blk_lt hk) fun h => ?_).trans hk⟩
  rcases hr.2 with ⟨rfl, _⟩ | ⟨g, cap, cur', rfl, _, hh, _⟩
  · cases h
  · cases h
    rw [hk] at hh
    cases hh
    exact h2 rfl
def PlsEnd (q : Nat) (ns : List Int) (W : World) (e : Ending) (w' : World) : Prop := e = .returned (.tuple #[]) ∧ (∃ a cap, Pls q ns a cap w') ∧ Below q W w' ∧ MvP W w'
theorem Stk.mvp {base p : Nat} {L : List Blk} {a : Option Addr} {cap : Nat} {W W' : World} (h : Stk base p L a cap W) (m : MvP W W') : Stk base p L a cap W' := by
  refine ⟨m.2 _ _ _ _ (by decide) (by decide) h.box, h.row.1, ?_⟩
  rcases h.row.2 with h2 | ⟨g, c, cur, e, hg, hh, r⟩
  · exact .inl h2
  · exact .inr ⟨g, c, cur, e, hg, m.2 _ _ _ _ (by decide) (by decide) hh, r⟩
end Go.Proofs.Ytodagpmcmjleaaa
