/- The law WireSums, walked. -/
import Derived.Test.YtdmmlgajgpmpbaaGreatDoorWS
namespace Go.Proofs.YtdmmlgajgpmpbaaGreatDoor
open Go.RowKit

/-- The lent slice, in a world of its own. -/
theorem lent_bs {w : World} {base g len c : Nat} {bs : List UInt8} (hl : bs.length = len) (hO : OwnB w base (.slice (some ⟨g, 0, none⟩) (len + 2) c) (bs ++ [77, 78])) : Bs w (some ⟨g, 0, none⟩) bs ∧ len ≤ c ∧ c ≤ maxLen := by
  obtain ⟨ao', cap', hv, h1, h2, hB, _, _⟩ := Own.bs hO
  simp only [Value.slice.injEq] at hv
  obtain ⟨rfl, _, rfl⟩ := hv
  rw [List.length_append, hl] at h1
  refine ⟨?_, by omega, h2⟩
  rcases hB with h | ⟨b, off, h, hc⟩
  · simp at h
  · cases h
    refine .inr ⟨g, 0, rfl, fun j hj => ?_⟩
    have := hc j (by rw [List.length_append]; omega)
    rw [this, List.getElem_append_left hj]

end Go.Proofs.YtdmmlgajgpmpbaaGreatDoor
