/- The check 'knows' that every law of layer 1 ends with answers true. -/
import Derived.Test.YtodagpmcmjleaaaWE
import Derived.Test.YtodagpmcmjleaaaWG
namespace Go.Proofs.Ytodagpmcmjleaaa
open Go.RowKit

theorem Own.chg {w w' : World} {base : Nat} {e : TypeId} {v : Value} {xs : List Value} {S : Nat → Prop} (h : Own w base e v xs) (k : Chg w w' S) (hv : ∀ g, v.ownBlock = some g → ¬ S g) : Own w' base e v xs := by
  refine ⟨h.1, ?_⟩
  rcases h.2 with h2 | ⟨g, cap, cur, rfl, hg, hh, r⟩
  · exact .inl h2
  · exact .inr ⟨g, cap, cur, rfl, hg, by rw [k.block g (lt_of_block hh) (hv g rfl)]; exact hh, r⟩
theorem WStep.below {h : Nat} {w w' : World} {v v' : Value} (s : WStep h w v w' v') {B : Nat} (hB : B ≤ w.heap.size) (hh : B ≤ h) (hv : ∀ k, v.ownBlock = some k → B ≤ k) : Below B w w' :=
  s.1.below hB (fun i hi => by rcases hi with e | e
                               · omega
                               · exact hv i e)

theorem firstOf_empty : firstOf (frameOf []) = some [] := by decide +kernel
theorem framesOf_empty : framesOf (frameOf []) = ([[]], 8) := by
  rw [framesOf_some firstOf_empty]
  have e : (frameOf []).drop (8 + ([] : List UInt8).length) = [] := List.drop_eq_nil_of_le (by simp [frameOf, be_length])
  rw [e, framesOf_none (by rfl)]
  rfl

end Go.Proofs.Ytodagpmcmjleaaa
