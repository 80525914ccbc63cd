/- Layer 9, plainly: one instruction more. -/
import Derived.Test.YtodagpmcmjleaaaYJ
namespace Go.Proofs.Ytodagpmcmjleaaa
theorem astand_plain {n : Int} (h1 : n ≠ 48) (h2 : n ≠ 49) (h3 : n ≠ 50) (h4 : n ≠ 51) (h5 : n ≠ 52) (L : List (Bool × Bool)) : astand n L = true := by
  unfold astand
  rw [if_neg (by omega), if_neg h2, if_neg h3, if_neg h5]
theorem more_good {a b : List (Int × Int)} {x : Int × Int} (h1 : x.1 ≠ 48) (h2 : x.1 ≠ 49) (h3 : x.1 ≠ 50) (h4 : x.1 ≠ 51) (h5 : x.1 ≠ 52) (h : goodS (a ++ b) = true) : goodS (a ++ x :: b) = true := by
  rw [good_abs] at *
  rw [arun_append] at *
  cases e : arun a [] with
  | none => rw [e] at h; cases h
  | some L =>
    rw [e, Option.bind_some] at h
    rw [Option.bind_some, arun, if_pos (astand_plain h1 h2 h3 h4 h5 L), astep_plain h1 h2 h3 h4]
    exact h
/-- How deep: openers less ends. -/
def deep9 : List (Int × Int) → Int
  | [] => 0
  | x :: a => (if x.1 = 48 ∨ x.1 = 51 then 1 else if x.1 = 50 then -1 else 0) + deep9 a
theorem arun_deep : ∀ (a : List (Int × Int)) (L M : List (Bool × Bool)), arun a L = some M → (M.length : Int) = L.length + deep9 a
  | [], L, M, h => by cases h; simp [deep9]
  | x :: a, L, M, h => by
    rw [arun] at h
    split at h
    · rename_i hs
      have ih := arun_deep a _ M h
      rw [ih, deep9]
      unfold astep
      split
      · simp; omega
      · split
        · cases L <;> simp_all <;> omega
        · split
          · rename_i h50
            have hl : 0 < L.length := by
              unfold astand at hs
              rw [if_neg (by omega), if_neg (by omega), if_pos h50] at hs
              simpa using hs
            rw [List.length_tail]
            omega
          · omega
    · cases h
/-- Outside of blocks one instruction more costs what it costs. -/
theorem gas_out {cal : List Int} {a b : List (Int × Int)} {x : Int × Int} (h1 : x.1 ≠ 48) (h2 : x.1 ≠ 49) (h3 : x.1 ≠ 50) (h4 : x.1 ≠ 51) (h5 : x.1 ≠ 52) (h6 : x.1 ≠ 53) (h : goodS (a ++ b) = true) (hd : deep9 a ≤ 0) : gasS cal (a ++ x :: b) = cut (gasS cal (a ++ b) + costN x.1) := by
  have hg := (good_abs _).1 h
  rw [arun_append] at hg
  cases e : arun a [] with
  | none => rw [e] at hg; cases hg
  | some M =>
    rw [e, Option.bind_some] at hg
    have hM : M = [] := by
      have := arun_deep a [] M e
      simp at this
      exact List.length_eq_zero_iff.1 (by omega)
    subst hM
    have ga : goodS a = true := (good_abs a).2 e
    have gb : goodS b = true := (good_abs b).2 hg
    have gx : goodS [x] = true := by
      rw [good_abs, arun, if_pos (astand_plain h1 h2 h3 h4 h5 []), astep_plain h1 h2 h3 h4]
      rfl
    have ex : gasS cal [x] = cut (costN x.1) := by
      rw [gas_top, lrun_one, base0, lstep_plain h1 h2 h3 h4 h6]
      show cut (0 + costN x.1) = _
      rw [Nat.zero_add]
    rw [gas_cat ga gb, show a ++ x :: b = a ++ ([x] ++ b) from rfl, gas_cat ga (good_cat gx gb), gas_cat gx gb, ex]
    simp only [cut_add, cut_add']
    congr 1
    omega
end Go.Proofs.Ytodagpmcmjleaaa
