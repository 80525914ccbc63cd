/- Layer 9, plainly: right numbers stay right. -/
import Derived.Test.YtodagpmcmjleaaaYK
import Derived.Test.YtodagpmcmjleaaaYG
namespace Go.Proofs.Ytodagpmcmjleaaa
theorem right_more {a b : List (Int × Int)} {x : Int × Int} {ls : List Int} (h1 : x.1 ≠ 53) (h2 : x.1 ≠ 51) (h : rightB (a ++ b) ls = true) : rightB (a ++ x :: b) ls = true := by
  have hx : wrong9 ls.length x = false := by unfold wrong9; rw [if_neg h1, if_neg h2]
  unfold rightB at *
  rw [List.any_append] at h
  rw [List.any_append, List.any_cons, hx, Bool.false_or]
  exact h
theorem right_greater {cs : List (Int × Int)} {ls ms : List Int} (hl : ms.length = ls.length) (hm : ∀ z ∈ ms, 0 ≤ z) (h : rightB cs ls = true) : rightB cs ms = true := by
  have h0 : ms.any below9 = false := by
    rw [List.any_eq_false]
    intro z hz
    have := hm z hz
    simp only [below9, decide_eq_true_eq]
    omega
  unfold rightB at *
  rw [hl, h0]
  rw [Bool.and_eq_true] at h
  rw [h.1]
  rfl
theorem right_round {a b : List (Int × Int)} {t : Int} {ls : List Int} (h : rightB (a ++ (51, t) :: b) ls = true) : 0 ≤ t ∧ rightB (a ++ (51, t + 1) :: b) ls = true := by
  have ht : 0 ≤ t := ((right_of h).1 (51, t) (by simp)).2 rfl
  refine ⟨ht, ?_⟩
  have e1 : wrong9 ls.length (51, t) = false := by simp [wrong9]; omega
  have e2 : wrong9 ls.length (51, t + 1) = false := by simp [wrong9]; omega
  unfold rightB at *
  rw [List.any_append, List.any_cons, e1] at h
  rw [List.any_append, List.any_cons, e2]
  exact h
/-- The same operations are of the same shape. -/
theorem good_ops {cs ds : List (Int × Int)} (h : cs.map Prod.fst = ds.map Prod.fst) : goodS cs = goodS ds := by
  have key : ∀ (cs ds : List (Int × Int)) (L : List (Bool × Bool)), cs.map Prod.fst = ds.map Prod.fst → arun cs L = arun ds L := by
    intro cs
    induction cs with
    | nil => intro ds L h; cases ds with | nil => rfl | cons _ _ => cases h
    | cons x cs ih =>
      intro ds L h
      cases ds with
      | nil => cases h
      | cons y ds =>
        simp only [List.map_cons, List.cons.injEq] at h
        rw [arun, arun, h.1]
        split
        · exact ih ds _ h.2
        · rfl
  rw [Bool.eq_iff_iff, good_abs, good_abs, key cs ds [] h]
end Go.Proofs.Ytodagpmcmjleaaa
