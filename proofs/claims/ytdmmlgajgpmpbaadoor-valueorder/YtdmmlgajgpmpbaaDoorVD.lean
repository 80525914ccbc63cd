/- The order of values, plain facts. -/
import Derived.Test.YtdmmlgajgpmpbaaDoorVC
namespace Go.Proofs.YtdmmlgajgpmpbaaDoor
theorem bless_total (a : List UInt8) : ∀ b, a ≠ b → Op.bytesLess a b = !Op.bytesLess b a := by
  induction a with
  | nil =>
    intro b h
    cases b with
    | nil => exact absurd rfl h
    | cons y b => rfl
  | cons x a ih =>
    intro b h
    cases b with
    | nil => rfl
    | cons y b =>
      simp only [Op.bytesLess]
      by_cases hxy : x = y
      · subst hxy
        have := ih b (fun e => h (by rw [e]))
        simp [this]
      · have h1 : ¬ x.toNat = y.toNat := fun e => hxy (UInt8.toNat_inj.1 e)
        by_cases hlt : x < y
        · have h2 : ¬ y < x := by simp only [UInt8.lt_iff_toNat_lt] at *; omega
          have h3 : ¬ y = x := fun e => hxy e.symm
          simp [hlt, h2, h3]
        · have h2 : y < x := by simp only [UInt8.lt_iff_toNat_lt] at *; omega
          simp [hlt, h2, hxy]
theorem bless_trans (a : List UInt8) : ∀ b c, Op.bytesLess a b = true → Op.bytesLess b c = true → Op.bytesLess a c = true := by
  induction a with
  | nil =>
    intro b c h1 h2
    cases c with
    | nil => cases b <;> simp [Op.bytesLess] at h2
    | cons z c => rfl
  | cons x a ih =>
    intro b c h1 h2
    cases b with
    | nil => simp [Op.bytesLess] at h1
    | cons y b =>
      cases c with
      | nil => simp [Op.bytesLess] at h2
      | cons z c =>
        simp only [Op.bytesLess, Bool.or_eq_true, Bool.and_eq_true, decide_eq_true_eq, beq_iff_eq] at h1 h2 ⊢
        rcases h1 with h1 | ⟨e1, h1⟩ <;> rcases h2 with h2 | ⟨e2, h2⟩
        · left; simp only [UInt8.lt_iff_toNat_lt] at *; omega
        · left; rw [← e2]; exact h1
        · left; rw [e1]; exact h2
        · right; exact ⟨e1.trans e2, ih b c h1 h2⟩
/-- Less, as a relation: a strict order of which just one of less, equal, greater holds. -/
theorem less_irr (x : Val) : lessV x x = false := by simp [lessV, bless_irrefl]
theorem less_tot (x y : Val) (h : x ≠ y) : lessV x y = !lessV y x := by
  obtain ⟨xt, xn, xb⟩ := x
  obtain ⟨yt, yn, yb⟩ := y
  simp only [lessV]
  by_cases h1 : xt = yt
  · subst h1
    by_cases h2 : xn = yn
    · subst h2
      have h3 : xb ≠ yb := fun e => h (by rw [e])
      simpa using bless_total xb yb h3
    · have h2' : ¬ yn = xn := fun e => h2 e.symm
      simp only [if_true, if_neg h2, if_neg h2']
      by_cases h4 : xn < yn
      · simp [h4, show ¬ yn < xn by omega]
      · simp [h4, show yn < xn by omega]
  · have h1' : ¬ yt = xt := fun e => h1 e.symm
    simp only [if_neg h1, if_neg h1']
    by_cases h4 : xt < yt
    · simp [h4, show ¬ yt < xt by omega]
    · simp [h4, show yt < xt by omega]
theorem less_tr (x y z : Val) (h1 : lessV x y = true) (h2 : lessV y z = true) : lessV x z = true := by
  obtain ⟨xt, xn, xb⟩ := x
  obtain ⟨yt, yn, yb⟩ := y
  obtain ⟨zt, zn, zb⟩ := z
  simp only [lessV] at h1 h2 ⊢
  by_cases a1 : xt = yt
  · by_cases a2 : yt = zt
    · subst a1 a2
      simp only [if_true] at h1 h2 ⊢
      by_cases b1 : xn = yn
      · by_cases b2 : yn = zn
        · subst b1 b2
          simp only [if_true] at h1 h2 ⊢
          exact bless_trans _ _ _ h1 h2
        · subst b1
          simp only [if_true, if_neg b2] at h1 h2 ⊢
          exact h2
      · by_cases b2 : yn = zn
        · subst b2
          simp only [if_true, if_neg b1] at h1 h2 ⊢
          exact h1
        · rw [if_neg b1] at h1
          rw [if_neg b2] at h2
          simp only [decide_eq_true_eq] at h1 h2
          rw [if_neg (show ¬ xn = zn by omega)]
          simp only [decide_eq_true_eq]
          omega
    · subst a1
      rw [if_neg a2] at h2 ⊢
      exact h2
  · by_cases a2 : yt = zt
    · subst a2
      rw [if_neg a1] at h1 ⊢
      exact h1
    · rw [if_neg a1] at h1
      rw [if_neg a2] at h2
      simp only [decide_eq_true_eq] at h1 h2
      rw [if_neg (show ¬ xt = zt by omega)]
      simp only [decide_eq_true_eq]
      omega
theorem cmp_cases (x y : Val) : (x = y ∧ cmpV x y = 0) ∨ (lessV x y = true ∧ lessV y x = false ∧ x ≠ y ∧ cmpV x y = -1) ∨ (lessV y x = true ∧ lessV x y = false ∧ x ≠ y ∧ cmpV x y = 1) := by
  unfold cmpV
  by_cases h : x = y
  · left; exact ⟨h, by rw [if_pos h]⟩
  · right
    have ht := less_tot x y h
    rw [if_neg h]
    cases hl : lessV y x with
    | true => right; rw [hl] at ht; simp at ht; exact ⟨rfl, ht, h, by rw [ht]; rfl⟩
    | false => left; rw [hl] at ht; simp at ht; exact ⟨ht, rfl, h, by rw [ht]; rfl⟩
theorem cmp_neg (x y : Val) : cmpV y x = -cmpV x y := by
  rcases cmp_cases x y with ⟨rfl, h⟩ | ⟨a, b, c, d⟩ | ⟨a, b, c, d⟩
  · rw [h]; rfl
  · rcases cmp_cases y x with ⟨rfl, h⟩ | ⟨a', b', c', d'⟩ | ⟨a', b', c', d'⟩
    · exact absurd rfl c
    · rw [a'] at b; cases b
    · rw [d, d']; rfl
  · rcases cmp_cases y x with ⟨rfl, h⟩ | ⟨a', b', c', d'⟩ | ⟨a', b', c', d'⟩
    · exact absurd rfl c
    · rw [d, d']
    · rw [a'] at b; cases b
theorem cmp_zero (x y : Val) : decide (cmpV x y = 0) = decide (x = y) := by
  rcases cmp_cases x y with ⟨rfl, h⟩ | ⟨a, b, c, d⟩ | ⟨a, b, c, d⟩
  · simp [h]
  · simp [c, d]
  · simp [c, d]
theorem cmp_tr1 (x y z : Val) : cmpV x y > 0 ∨ cmpV y z > 0 ∨ cmpV x z ≤ 0 := by
  rcases cmp_cases x y with ⟨rfl, h⟩ | ⟨a, b, c, d⟩ | ⟨a, b, c, d⟩
  · rcases cmp_cases x z with ⟨rfl, h'⟩ | ⟨a', b', c', d'⟩ | ⟨a', b', c', d'⟩ <;> omega
  · rcases cmp_cases y z with ⟨rfl, h'⟩ | ⟨a', b', c', d'⟩ | ⟨a', b', c', d'⟩
    · omega
    · rcases cmp_cases x z with ⟨rfl, h''⟩ | ⟨a'', b'', c'', d''⟩ | ⟨a'', b'', c'', d''⟩
      · omega
      · omega
      · rw [less_tr x y z a a'] at b''; cases b''
    · omega
  · omega
theorem cmp_tr2 (x y z : Val) : cmpV x y < 0 ∨ cmpV y z < 0 ∨ cmpV x z ≥ 0 := by
  have h := cmp_tr1 z y x
  rw [cmp_neg y z, cmp_neg x y, cmp_neg x z] at h
  omega
theorem rcmp_eq (x y : Val) : rcmpV x y = cmpV x y := by
  obtain ⟨xt, xn, xb⟩ := x
  obtain ⟨yt, yn, yb⟩ := y
  unfold rcmpV cmpV lessV
  simp only [gt_iff_lt, Val.mk.injEq]
  by_cases h1 : xt = yt
  · subst h1
    simp only [Int.lt_irrefl, if_false, true_and, if_true]
    by_cases h2 : xn = yn
    · subst h2
      simp only [Int.lt_irrefl, if_false, true_and, if_true]
      by_cases h3 : xb = yb
      · subst h3
        simp [bless_irrefl]
      · rw [if_neg h3]
        have := bless_total xb yb h3
        cases hq : Op.bytesLess xb yb <;> simp [h3]
    · by_cases h4 : xn < yn
      · simp [h4, h2]
      · simp [h4, h2, show yn < xn by omega]
  · by_cases h4 : xt < yt
    · simp [h4, h1]
    · simp [h4, h1, show yt < xt by omega]
theorem cmp_range (x y : Val) : cmpV x y = 0 ∨ cmpV x y = -1 ∨ cmpV x y = 1 := by
  rcases cmp_cases x y with ⟨_, h⟩ | ⟨_, _, _, h⟩ | ⟨_, _, _, h⟩
  · exact .inl h
  · exact .inr (.inl h)
  · exact .inr (.inr h)
end Go.Proofs.YtdmmlgajgpmpbaaDoor
