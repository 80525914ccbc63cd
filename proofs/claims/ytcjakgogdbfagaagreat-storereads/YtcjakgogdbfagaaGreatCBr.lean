/- The document's Clone: what its region of four copies leaves, in whatever order. -/
import Derived.Test.YtcjakgogdbfagaaGreatCA
import Derived.Test.YtcjakgogdbfagaaGreatQO
namespace Go.Proofs.YtcjakgogdbfagaaGreat
open Go.RowKit
theorem getD_far {listed : Array Bool} {i j : Nat} (h : i ≠ j) : (listed.setIfInBounds i true).getD j false = listed.getD j false := by
  rw [getD_set, if_neg (fun e => h e.1)]
theorem ownsRow_setCell_other' {w : World} {base n size B o : Nat} {e : TypeId} {v : Value} {xs : List Value} (h : w.ownsRow base e size v n xs) (hB : B < base) (u : Value) : (w.setCell ⟨B, o, none⟩ u).ownsRow base e size v n xs := by
  refine ⟨h.1, ?_⟩
  rcases h.2 with h2 | ⟨g, cap, cur, rfl, hg, hh, r⟩
  · exact .inl h2
  · exact .inr ⟨g, cap, cur, rfl, hg, by rw [Below.heap_setCell _ _ _ _ (by show g ≠ B; omega)]; exact hh, r⟩
end Go.Proofs.YtcjakgogdbfagaaGreat
