/- Layer 9, plain: what Part comes to with one instruction more, with greater callees, with one round more. -/
import Derived.Test.YtodagpmcmjleaaaYL
import Derived.Test.YtodagpmcmjleaaaLTo9
namespace Go.Proofs.Ytodagpmcmjleaaa
open Go.RowKit
theorem partS_ok {c : List (Int × Int)} {ls : List Int} (hg : goodS c = true) (hr : rightB c ls = true) : partS c ls = (gasS ls c, 0) := by unfold partS; rw [if_pos hg, if_pos hr]
theorem partS_zero {c : List (Int × Int)} {ls : List Int} (h : (partS c ls).2 = 0) : goodS c = true ∧ rightB c ls = true ∧ (partS c ls).1 = gasS ls c := by
  rcases partS_err c ls with ⟨_, g1, r1, e1⟩ | ⟨h1, _⟩ | ⟨h1, _⟩
  · exact ⟨g1, r1, e1⟩
  · rw [h1] at h; cases h
  · rw [h1] at h; cases h
/-- One instruction more. -/
def moreC (cs : List (Int × Int)) (j : Nat) (x : Int × Int) : List (Int × Int) := cs.take j ++ x :: cs.drop j
theorem more_part {cs : List (Int × Int)} {ls : List Int} (j : Nat) {x : Int × Int} (hx : (x.1 < 48 ∨ 52 < x.1) ∧ x.1 ≠ 53) (h : (partS cs ls).2 = 0) :
    (partS (moreC cs j x) ls).2 = 0 ∧ (partS cs ls).1 ≤ (partS (moreC cs j x) ls).1 ∧ (deep9 (cs.take j) ≤ 0 → (partS (moreC cs j x) ls).1 = cut ((partS cs ls).1 + costN x.1)) := by
  obtain ⟨g, r, e⟩ := partS_zero h
  have hc := List.take_append_drop j cs
  rw [← hc] at g r
  have g2 := more_good (x := x) (by omega) (by omega) (by omega) (by omega) (by omega) g
  have r2 := right_more (x := x) hx.2 (by omega) r
  have hp := partS_ok g2 r2
  rw [moreC, hp, e]
  refine ⟨rfl, ?_, fun hd => ?_⟩
  · have := gas_more ls (cs.take j) (cs.drop j) x (by omega) (by omega) (by omega) (by omega) hx.2
    rw [hc] at this
    exact this
  · have := gas_out (cal := ls) (x := x) (by omega) (by omega) (by omega) (by omega) (by omega) hx.2 g hd
    rw [hc] at this
    exact this
theorem more_len (cs : List (Int × Int)) (j : Nat) (x : Int × Int) (hj : j ≤ cs.length) : (moreC cs j x).length = cs.length + 1 := by unfold moreC; simp; omega
theorem deep9_snoc : ∀ (a : List (Int × Int)) (x : Int × Int), deep9 (a ++ [x]) = deep9 a + (if x.1 = 48 ∨ x.1 = 51 then 1 else if x.1 = 50 then -1 else 0)
  | [], x => by simp [deep9]
  | y :: a, x => by rw [List.cons_append, deep9, deep9, deep9_snoc a x]; omega
theorem deep9_le : ∀ a : List (Int × Int), -(a.length : Int) ≤ deep9 a ∧ deep9 a ≤ a.length
  | [] => by simp [deep9]
  | y :: a => by
    have := deep9_le a
    rw [deep9, List.length_cons]
    split
    · omega
    · split <;> omega
/-- The callees, greater by m. -/
def greatS (ls : List Int) (m : Int) : List Int := ls.map (· + m)
theorem great_len (ls : List Int) (m : Int) : (greatS ls m).length = ls.length := by simp [greatS]
theorem great_part {cs : List (Int × Int)} {ls : List Int} {m : Int} (hm : 0 ≤ m) (hl : ∀ z ∈ ls, 0 ≤ z) (h : (partS cs ls).2 = 0) : (partS cs (greatS ls m)).2 = 0 ∧ (partS cs ls).1 ≤ (partS cs (greatS ls m)).1 := by
  obtain ⟨g, r, e⟩ := partS_zero h
  have r2 : rightB cs (greatS ls m) = true := right_greater (great_len ls m) (fun z hz => by
    obtain ⟨y, hy, rfl⟩ := List.mem_map.mp hz
    have := hl y hy
    omega) r
  rw [partS_ok g r2, e]
  refine ⟨rfl, gas_callees (fun i => ?_) cs⟩
  unfold greatS
  rw [List.getD_eq_getElem?_getD, List.getD_eq_getElem?_getD, List.getElem?_map]
  cases ls[i]? with
  | none => simp
  | some y => simp; omega
/-- One round more, of the loop at j. -/
def roundC (cs : List (Int × Int)) (j : Nat) : List (Int × Int) :=
  match cs[j]? with
  | some x => if x.1 = 51 ∧ x.2 ≤ 64 then cs.set j (51, x.2 + 1) else cs
  | none => cs
theorem round_len (cs : List (Int × Int)) (j : Nat) : (roundC cs j).length = cs.length := by
  unfold roundC
  split
  · split <;> simp
  · rfl
theorem round_part {cs : List (Int × Int)} {ls : List Int} (j : Nat) (h : (partS cs ls).2 = 0) : (partS (roundC cs j) ls).2 = 0 ∧ (partS cs ls).1 ≤ (partS (roundC cs j) ls).1 := by
  unfold roundC
  split
  · rename_i x hx
    by_cases hc : x.1 = 51 ∧ x.2 ≤ 64
    · rw [if_pos hc]
      obtain ⟨g, r, e⟩ := partS_zero h
      obtain ⟨hj, hxj⟩ := List.getElem?_eq_some_iff.mp hx
      obtain ⟨o, t⟩ := x
      obtain ⟨h1, h2⟩ := hc
      simp only at h1 h2
      subst h1
      have e1 : cs = cs.take j ++ (51, t) :: cs.drop (j + 1) := by
        have := List.take_append_drop j cs
        rw [List.drop_eq_getElem_cons hj, hxj] at this
        exact this.symm
      have e2 : cs.set j (51, t + 1) = cs.take j ++ (51, t + 1) :: cs.drop (j + 1) := List.set_eq_take_append_cons_drop.trans (if_pos hj)
      rw [e1] at r
      obtain ⟨ht, r2⟩ := right_round r
      have g2 : goodS (cs.take j ++ (51, t + 1) :: cs.drop (j + 1)) = true := by
        rw [← g]
        refine good_ops ?_
        have e3 := congrArg (List.map Prod.fst) e1
        rw [e3]
        simp
      show (partS (cs.set j (51, t + 1)) ls).2 = 0 ∧ (partS cs ls).1 ≤ (partS (cs.set j (51, t + 1)) ls).1
      rw [e2, partS_ok g2 r2, e]
      refine ⟨rfl, ?_⟩
      have := gas_rounds ls (cs.take j) (cs.drop (j + 1)) t (t + 1) (by omega)
      rw [← e1] at this
      exact this
    · rw [if_neg hc]; exact ⟨h, Nat.le_refl _⟩
  · exact ⟨h, Nat.le_refl _⟩
end Go.Proofs.Ytodagpmcmjleaaa
