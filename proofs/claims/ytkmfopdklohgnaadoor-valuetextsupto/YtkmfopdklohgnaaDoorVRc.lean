/- Which values may be, case by case. -/
import Derived.Test.YtkmfopdklohgnaaDoorVR
namespace Go.Proofs.YtkmfopdklohgnaaDoor
theorem right_ways {x : Val} (h : x.right = true) : (x.t = 1 ∧ x.b = []) ∨ (x.t = 2 ∧ x.n = 0 ∧ x.b.length ≤ 256) ∨ (x.t = 3 ∧ (x.n = 0 ∨ x.n = 1) ∧ x.b = []) := by
  unfold Val.right at h
  by_cases h1 : x.t = 1
  · rw [if_pos h1] at h
    exact .inl ⟨h1, by simpa using h⟩
  · rw [if_neg h1] at h
    by_cases h2 : x.t = 2
    · rw [if_pos h2] at h
      exact .inr (.inl ⟨h2, by simpa using h⟩)
    · rw [if_neg h2] at h
      by_cases h3 : x.t = 3
      · rw [if_pos h3] at h
        exact .inr (.inr ⟨h3, by simpa using h⟩)
      · rw [if_neg h3] at h
        cases h
end Go.Proofs.YtkmfopdklohgnaaDoor
