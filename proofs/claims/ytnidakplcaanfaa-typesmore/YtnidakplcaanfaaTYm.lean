/- A script with a constant more, a function more and a local more: plain facts (TypesMore). -/
import Derived.Test.YtnidakplcaanfaaTX
namespace Go.Proofs.Ytnidakplcaanfaa
theorem insOk_mono {nc nf sl nc' nf' sl' : Nat} {x : Int × Int} (h : insOk nc nf sl x = true) (h1 : nc ≤ nc') (h2 : nf ≤ nf') (h3 : sl ≤ sl') : insOk nc' nf' sl' x = true := by
  simp only [insOk, Bool.and_eq_true, decide_eq_true_eq] at h ⊢
  obtain ⟨⟨⟨a, b⟩, c⟩, d⟩ := h
  refine ⟨⟨⟨a, b⟩, ?_⟩, ?_⟩
  · unfold boundsN at c ⊢
    split <;> rename_i g1
    · rw [if_pos g1] at c; exact c
    rw [if_neg g1] at c
    split <;> rename_i g2
    · rw [if_pos g2] at c; exact c
    rw [if_neg g2] at c
    split <;> rename_i g3
    · rw [if_pos g3] at c; exact c
    rw [if_neg g3] at c
    split <;> rename_i g4
    · rw [if_pos g4] at c; exact c
    rw [if_neg g4] at c
    split <;> rename_i g5
    · rw [if_pos g5] at c; exact c
    · rw [if_neg g5] at c; exact c
  · unfold boundsN at d ⊢
    split <;> rename_i g1
    · rw [if_pos g1] at d; exact d
    rw [if_neg g1] at d
    split <;> rename_i g2
    · rw [if_pos g2] at d; simp only at d ⊢; omega
    rw [if_neg g2] at d
    split <;> rename_i g3
    · rw [if_pos g3] at d; simp only at d ⊢; omega
    rw [if_neg g3] at d
    split <;> rename_i g4
    · rw [if_pos g4] at d; exact d
    rw [if_neg g4] at d
    split <;> rename_i g5
    · rw [if_pos g5] at d; simp only at d ⊢; omega
    · rw [if_neg g5] at d; exact d
theorem fnRight_mono {nc nf nc' nf' : Nat} {f : Fn} (h : Fn.right nc nf f = true) (h1 : nc ≤ nc') (h2 : nf ≤ nf') : Fn.right nc' nf' f = true := by
  simp only [Fn.right, Bool.and_eq_true, List.all_eq_true] at h ⊢
  exact ⟨h.1, fun x hx => insOk_mono (h.2 x hx) h1 h2 (Nat.le_refl _)⟩
def longer (f : Fn) : Fn := if f.p.length + f.l.length < 16 then ⟨f.p, f.r, f.l ++ [3], f.code⟩ else f
theorem longer_right {nc nf : Nat} {f : Fn} (h : Fn.right nc nf f = true) : Fn.right nc nf (longer f) = true := by
  unfold longer
  split
  · rename_i hlt
    simp only [Fn.right, Fn.lists, Bool.and_eq_true, decide_eq_true_eq, List.all_eq_true] at h ⊢
    obtain ⟨⟨⟨⟨⟨g1, g2⟩, g3⟩, g4⟩, ⟨g5, g6⟩, g7⟩, g8⟩ := h
    refine ⟨⟨⟨⟨⟨g1, g2⟩, by simp; omega⟩, g4⟩, ⟨g5, g6⟩, fun x hx => ?_⟩, fun x hx => insOk_mono (g8 x hx) (Nat.le_refl _) (Nat.le_refl _) (by simp)⟩
    rcases List.mem_append.1 hx with hx | hx
    · exact g7 x hx
    · rw [List.mem_singleton] at hx; subst hx; decide
  · exact h
/-- The script with more. -/
def moreS (s : Scr) (n : Nat) : Scr := ⟨s.consts ++ [[109, 111, 114, 101]], s.funcs.set n (longer (fnAt s.funcs n)) ++ [⟨[2], [], [], []⟩]⟩
theorem more_at {s : Scr} {n j : Nat} (hj : j < s.funcs.length) : fnAt (moreS s n).funcs j = if n = j then longer (fnAt s.funcs n) else fnAt s.funcs j := by
  unfold fnAt moreS
  simp only [Int.toNat_natCast, List.getD_eq_getElem?_getD]
  rw [List.getElem?_append_left (by simpa using hj), List.getElem?_set]
  by_cases h : n = j
  · subst h
    rw [if_pos rfl, if_pos hj, if_pos rfl]
    rfl
  · rw [if_neg h, if_neg h]
theorem longer_same (f : Fn) : (longer f).p = f.p ∧ (longer f).r = f.r ∧ (longer f).code = f.code ∧ ∃ m, (longer f).l = f.l ++ m := by
  unfold longer
  split
  · exact ⟨rfl, rfl, rfl, [3], rfl⟩
  · exact ⟨rfl, rfl, rfl, [], by simp⟩
theorem more_heads (s : Scr) (n : Nat) : HeadsAs s.funcs (moreS s n).funcs := by
  refine ⟨by simp [moreS], fun j hj => ?_⟩
  rw [more_at hj]
  by_cases h : n = j
  · subst h; rw [if_pos rfl]; exact ⟨(longer_same _).1.symm, (longer_same _).2.1.symm⟩
  · rw [if_neg h]; exact ⟨rfl, rfl⟩
theorem more_right {s : Scr} (h : s.right = true) {n : Nat} (hn : n < s.funcs.length) (hc : s.consts.length < 32) (hf : s.funcs.length < 16) : (moreS s n).right = true := by
  have hfs : ∀ f ∈ s.funcs, Fn.right s.consts.length s.funcs.length f = true := by
    simp only [Scr.right, Bool.and_eq_true, List.all_eq_true] at h
    exact h.2
  have hcs : ∀ c ∈ s.consts, c.length ≤ 256 := by
    simp only [Scr.right, Bool.and_eq_true, List.all_eq_true, decide_eq_true_eq] at h
    exact h.1.2
  have l1 : (moreS s n).consts.length = s.consts.length + 1 := by simp [moreS]
  have l2 : (moreS s n).funcs.length = s.funcs.length + 1 := by simp [moreS]
  simp only [Scr.right, Bool.and_eq_true, List.all_eq_true, decide_eq_true_eq, l1, l2]
  refine ⟨⟨⟨⟨by omega, by omega⟩, by omega⟩, fun c hcm => ?_⟩, fun f hfm => ?_⟩
  · rcases List.mem_append.1 hcm with q | q
    · exact hcs c q
    · rw [List.mem_singleton] at q; subst q; decide
  · rcases List.mem_append.1 hfm with q | q
    · rcases List.mem_or_eq_of_mem_set q with q | q
      · exact fnRight_mono (hfs f q) (by omega) (by omega)
      · rw [q]
        exact fnRight_mono (longer_right (hfs _ (by rw [← fnAt_get hn]; exact List.getElem_mem _))) (by omega) (by omega)
    · rw [List.mem_singleton] at q
      subst q
      simp [Fn.right, Fn.lists, kindOk]
theorem more_check {s : Scr} (h : s.right = true) {n : Nat} (hn : n < s.funcs.length) (hc : s.consts.length < 32) (hf : s.funcs.length < 16) : checkS (moreS s n) n = checkS s n := by
  have l2 : (moreS s n).funcs.length = s.funcs.length + 1 := by simp [moreS]
  rw [checkS, checkS, if_pos (more_right h hn hc hf), if_pos h, l2, if_pos (by omega), if_pos (by omega), more_at hn, if_pos rfl]
  obtain ⟨q1, q2, q3, m, q4⟩ := longer_same (fnAt s.funcs n)
  have hg := (right_facts h).2.2 (fnAt s.funcs n) (by rw [← fnAt_get hn]; exact List.getElem_mem _)
  exact stacks_same (more_heads s n) m q1 q2 q3 q4 hg.i
end Go.Proofs.Ytnidakplcaanfaa
