/- Layer 10, plain: a script with a constant more. -/
import Derived.Test.YtfnpngbcnmglfaaGreatZH
namespace Go.Proofs.YtfnpngbcnmglfaaGreat
theorem insOk_more {nc nf sl nc' nf' sl' : Nat} {x : Int × Int} (h : insOk nc nf sl x = true) (h1 : nc ≤ nc') (h2 : nf ≤ nf') (h3 : sl ≤ sl') : insOk nc' nf' sl' x = true := by
  simp only [insOk, Bool.and_eq_true, decide_eq_true_eq] at h ⊢
  obtain ⟨⟨⟨a, b⟩, c⟩, d⟩ := h
  refine ⟨⟨⟨a, b⟩, ?_⟩, ?_⟩
  · unfold boundsN at c ⊢
    split <;> rename_i g1
    · rw [if_pos g1] at c; exact c
    rw [if_neg g1] at c
    split <;> rename_i g2
    · rw [if_pos g2] at c; exact c
    rw [if_neg g2] at c
    split <;> rename_i g3
    · rw [if_pos g3] at c; exact c
    rw [if_neg g3] at c
    split <;> rename_i g4
    · rw [if_pos g4] at c; exact c
    rw [if_neg g4] at c
    split <;> rename_i g5
    · rw [if_pos g5] at c; exact c
    · rw [if_neg g5] at c; exact c
  · unfold boundsN at d ⊢
    split <;> rename_i g1
    · rw [if_pos g1] at d; exact d
    rw [if_neg g1] at d
    split <;> rename_i g2
    · rw [if_pos g2] at d; simp only at d ⊢; omega
    rw [if_neg g2] at d
    split <;> rename_i g3
    · rw [if_pos g3] at d; simp only at d ⊢; omega
    rw [if_neg g3] at d
    split <;> rename_i g4
    · rw [if_pos g4] at d; exact d
    rw [if_neg g4] at d
    split <;> rename_i g5
    · rw [if_pos g5] at d; simp only at d ⊢; omega
    · rw [if_neg g5] at d; exact d
theorem fnRight_more {nc nf nc' nf' : Nat} {f : Fn} (h : Fn.right nc nf f = true) (h1 : nc ≤ nc') (h2 : nf ≤ nf') : Fn.right nc' nf' f = true := by
  simp only [Fn.right, Bool.and_eq_true, List.all_eq_true] at h ⊢
  exact ⟨h.1, fun x hx => insOk_more (h.2 x hx) h1 h2 (Nat.le_refl _)⟩
def moreC (s : Scr) (c : List UInt8) : Scr := ⟨s.consts ++ [c], s.funcs⟩
theorem moreC_right {s : Scr} {c : List UInt8} (h : s.right = true) (hc : s.consts.length < 32) (hl : c.length ≤ 256) : (moreC s c).right = true := by
  simp only [Scr.right, Bool.and_eq_true, List.all_eq_true, decide_eq_true_eq] at h ⊢
  obtain ⟨⟨⟨⟨h1, h2⟩, h3⟩, h4⟩, h5⟩ := h
  have l1 : (moreC s c).consts.length = s.consts.length + 1 := by simp [moreC]
  rw [l1]
  refine ⟨⟨⟨⟨by omega, h2⟩, h3⟩, fun x hx => ?_⟩, fun f hf => fnRight_more (h5 f hf) (by omega) (Nat.le_refl _)⟩
  rcases List.mem_append.1 hx with q | q
  · exact h4 x q
  · rw [List.mem_singleton] at q; subst q; exact hl
theorem moreC_fits {s : Scr} {c : List UInt8} (h : s.fits) (hc : s.consts.length < 32) (hl : c.length ≤ 256) : (moreC s c).fits := by
  obtain ⟨h1, h2, h3, h4⟩ := h
  refine ⟨by simp [moreC]; omega, h2, h3, fun x hx => ?_⟩
  rcases List.mem_append.1 hx with q | q
  · exact h4 x q
  · rw [List.mem_singleton] at q; subst q; omega
theorem moreC_same {s : Scr} {c : List UInt8} (h : s.right = true) (h' : (moreC s c).right = true) : allS (moreC s c) = allS s ∧ gF (moreC s c) = gF s ∧ totS (moreC s c) = totS s ∧ ofE (moreC s c) = ofE s ∧ ∀ S o, roomsS (moreC s c) S o = roomsS s S o := by
  have e1 : allS (moreC s c) = allS s := by rw [allS, allS, if_pos h, if_pos h']; rfl
  have e2 : gF (moreC s c) = gF s := rfl
  have e3 : funS (moreC s c) = funS s := by rw [funS, funS, if_pos h, if_pos h']; rfl
  have e4 : totS (moreC s c) = totS s := by rw [totS, totS, e3]
  refine ⟨e1, e2, e4, ?_, fun S o => rfl⟩
  rw [ofE, ofE, if_pos h, if_pos h', e1, e4]
  rfl
end Go.Proofs.YtfnpngbcnmglfaaGreat
