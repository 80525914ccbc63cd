/- What the document notes of good shape, and what the program notes: plain facts. -/
import Derived.Test.YtodagpmcmjleaaaSR
namespace Go.Proofs.Ytodagpmcmjleaaa
/-- What the document notes at an opener. -/
def docStep (op : Nat → Int) (n : Nat) (m : List Int) (k : Nat) : List Int :=
  if Opn op k then (if 0 ≤ (closeAt op n k).1 then (((m.set k (closeAt op n k).2).set (closeAt op n k).2.toNat k).set k (closeAt op n k).1).set (closeAt op n k).1.toNat (closeAt op n k).2 else (m.set k (closeAt op n k).2).set (closeAt op n k).2.toNat k) else m
def docS (op : Nat → Int) (n : Nat) : Nat → List Int
  | 0 => List.replicate n (-1)
  | k + 1 => docStep op n (docS op n k) k
theorem docStep_len (op : Nat → Int) (n : Nat) (m : List Int) (k : Nat) : (docStep op n m k).length = m.length := by
  unfold docStep
  split
  · split <;> simp
  · rfl
theorem docS_len (op : Nat → Int) (n : Nat) : ∀ k, (docS op n k).length = n
  | 0 => by simp [docS]
  | k + 1 => by rw [docS, docStep_len, docS_len op n k]
theorem docStep_get {op : Nat → Int} {n k p : Nat} {m : List Int} (hp : p < m.length) : (docStep op n m k).getD p 0 = if Opn op k then (if 0 ≤ (closeAt op n k).1 then (if (closeAt op n k).1.toNat = p then (closeAt op n k).2 else if k = p then (closeAt op n k).1 else if (closeAt op n k).2.toNat = p then (k : Int) else m.getD p 0) else (if (closeAt op n k).2.toNat = p then (k : Int) else if k = p then (closeAt op n k).2 else m.getD p 0)) else m.getD p 0 := by
  unfold docStep
  split
  · split
    · rw [gset _ _ _ _ (by simpa using hp), gset _ _ _ _ (by simpa using hp), gset _ _ _ _ (by simpa using hp), gset _ _ _ _ hp]
      split
      · rfl
      split
      · rfl
      split
      · rfl
      · rfl
    · rw [gset _ _ _ _ (by simpa using hp), gset _ _ _ _ hp]
  · rfl
theorem docS_claim {op : Nat → Int} {n p : Nat} (hp : p < n) : ∀ k, 0 ≤ (docS op n k).getD p 0 → ∃ s, s < k ∧ Opn op s ∧ (p = s ∨ (closeAt op n s).2.toNat = p ∨ 0 ≤ (closeAt op n s).1 ∧ (closeAt op n s).1.toNat = p)
  | 0, h => by
    have e : (docS op n 0).getD p 0 = -1 := by simp [docS, List.getD_eq_getElem?_getD, hp]
    omega
  | k + 1, h => by
    have ih := docS_claim (op := op) hp k
    rw [docS, docStep_get (by rw [docS_len]; exact hp)] at h
    have old : 0 ≤ (docS op n k).getD p 0 → ∃ s, s < k + 1 ∧ Opn op s ∧ (p = s ∨ (closeAt op n s).2.toNat = p ∨ 0 ≤ (closeAt op n s).1 ∧ (closeAt op n s).1.toNat = p) := fun h => by
      obtain ⟨s, a, b⟩ := ih h
      exact ⟨s, by omega, b⟩
    split at h
    · rename_i ho
      split at h
      · split at h
        · exact ⟨k, by omega, ho, .inr (.inr ⟨by assumption, by assumption⟩)⟩
        split at h
        · exact ⟨k, by omega, ho, .inl (by omega)⟩
        split at h
        · exact ⟨k, by omega, ho, .inr (.inl (by assumption))⟩
        · exact old h
      · split at h
        · exact ⟨k, by omega, ho, .inr (.inl (by assumption))⟩
        split at h
        · exact ⟨k, by omega, ho, .inl (by omega)⟩
        · exact old h
    · exact old h
theorem closeAt_rng (op : Nat → Int) (n s : Nat) : ((closeAt op n s).2 = -1 ∨ (s : Int) < (closeAt op n s).2 ∧ ((closeAt op n s).2 < n)) ∧ ((closeAt op n s).1 = -1 ∨ (s : Int) < (closeAt op n s).1 ∧ ((closeAt op n s).1 < n)) := by
  have := closeS_rng (op := op) (f := decide (op s = 48)) (n - (s + 1)) (s + 1) 0 (-1)
  unfold closeAt
  omega
theorem unclaimed {op : Nat → Int} {n k : Nat} (hk : k < n) (C : CI op n k) (hL : stk op k = []) (ho : op k = 49 ∨ op k = 50) (h1 : ∀ i, i < n → Opn op i → 0 ≤ (closeAt op n i).2) : ¬ 0 ≤ (docS op n n).getD k 0 := by
  intro h
  obtain ⟨s, a1, a2, a3⟩ := docS_claim hk n h
  have hne : s ≠ k := by rintro rfl; unfold Opn at a2; omega
  by_cases hsk : s < k
  · rcases C.opn s hsk a2 with ⟨b, hb, _⟩ | ⟨o, e, he, hC⟩
    · rw [hL] at hb; cases hb
    · rw [hC.at'] at a3
      simp only at a3
      rcases hC.els with c | ⟨x, c1, c2, c3, _⟩
      · omega
      · omega
  · have := closeAt_rng op n s
    have := h1 s a1 a2
    omega
theorem nest_of {op : Nat → Int} {n : Nat} (h1 : ∀ i, i < n → Opn op i → 0 ≤ (closeAt op n i).2) (h2 : ∀ j, j < n → op j = 49 ∨ op j = 50 → 0 ≤ (docS op n n).getD j 0) : NestTo op n ∧ stk op n = [] := by
  have hN : ∀ k, k ≤ n → NestTo op k := by
    intro k
    induction k with
    | zero => intro _ j hj; omega
    | succ k ih =>
      intro hk j hj
      have hk' := ih (by omega)
      by_cases hjk : j < k
      · exact hk' j hjk
      have hjk : j = k := by omega
      subst hjk
      have C := ci_all (n := n) j (by omega) hk'
      by_cases h49 : op j = 49
      · rcases List.eq_nil_or_concat (stk op j) with hL | ⟨M, b, hL⟩
        · exact absurd (h2 j (by omega) (.inl h49)) (unclaimed (by omega) C hL (.inl h49) h1)
        rw [List.concat_eq_append] at hL
        obtain ⟨i, p1, p2, p3, p4, p5, p6, p7⟩ := C.blk M b [] hL
        have hh := h1 i (by omega) p3
        rw [p7, closeS_succ (by omega), if_neg (by omega), if_pos h49, if_pos (by rfl)] at hh
        by_cases hc : 0 ≤ b.o ∨ decide (op i = 48) = false
        · rw [if_pos hc] at hh; simp at hh
        · have c1 : b.o = -1 := by rcases p6 with p6 | ⟨x, p6, _⟩ <;> omega
          have c2 : op i = 48 := by
            by_cases h : op i = 48
            · exact h
            · exact absurd (.inr (by simp [h])) hc
          have c3 : b.l = false := by rw [p4, c2]; decide
          rw [hL]
          simp [standN, h49, c1, c3]
      by_cases h50 : op j = 50
      · rcases List.eq_nil_or_concat (stk op j) with hL | ⟨M, b, hL⟩
        · exact absurd (h2 j (by omega) (.inr h50)) (unclaimed (by omega) C hL (.inr h50) h1)
        rw [List.concat_eq_append] at hL
        rw [hL]
        simp [standN, h50]
      · simp [standN, h49, h50]
  refine ⟨hN n (Nat.le_refl _), ?_⟩
  rcases List.eq_nil_or_concat (stk op n) with hL | ⟨M, b, hL⟩
  · exact hL
  rw [List.concat_eq_append] at hL
  obtain ⟨i, p1, p2, p3, p4, p5, p6, p7⟩ := (ci_all (n := n) n (Nat.le_refl _) (hN n (Nat.le_refl _))).blk M b [] hL
  have hh := h1 i p2 p3
  rw [p7, Nat.sub_self, closeS] at hh
  simp at hh
/-- All blocks are closed. -/
structure Nest (op : Nat → Int) (n : Nat) : Prop where
  nst : NestTo op n
  nil : stk op n = []
theorem Nest.ci {op : Nat → Int} {n : Nat} (h : Nest op n) (k : Nat) (hk : k ≤ n) : CI op n k := ci_all k hk fun j hj => h.nst j (by omega)
theorem Nest.opn {op : Nat → Int} {n s : Nat} (h : Nest op n) (hs : s < n) (ho : Opn op s) : ∃ o e, e < n ∧ Closed op n s o e := by
  rcases (h.ci n (Nat.le_refl _)).opn s hs ho with ⟨b, hb, _⟩ | hh
  · rw [h.nil] at hb; cases hb
  · exact hh
theorem Nest.els {op : Nat → Int} {n j : Nat} (h : Nest op n) (hs : j < n) (ho : op j = 49) : ∃ s e, e < n ∧ Closed op n s j e := by
  rcases (h.ci n (Nat.le_refl _)).els j hs ho with ⟨b, hb, _⟩ | hh
  · rw [h.nil] at hb; cases hb
  · exact hh
theorem Nest.ends {op : Nat → Int} {n j : Nat} (h : Nest op n) (hs : j < n) (ho : op j = 50) : ∃ s o, Closed op n s o j := (h.ci n (Nat.le_refl _)).ends j hs ho
def Fit (op : Nat → Int) (n : Nat) (P : Nat → Nat → Prop) (m : Nat → Int) : Prop := ∀ s o e, Closed op n s o e → P s e → e < n → m e = s ∧ m s = (if o = -1 then (e : Int) else o) ∧ ∀ x : Nat, o = x → m x = e
theorem Closed.uniq {op : Nat → Int} {n s e e' : Nat} {o o' : Int} (h : Closed op n s o e) (h' : Closed op n s o' e') : o = o' ∧ e = e' := by
  have := h.at'.symm.trans h'.at'
  simp only [Prod.mk.injEq] at this
  omega
theorem Closed.els' {op : Nat → Int} {n s e x : Nat} {o : Int} (h : Closed op n s o e) (hx : o = x) : s < x ∧ x < e ∧ op x = 49 ∧ Top op x s := by
  rcases h.els with c | ⟨y, c1, c2, c3, c4, c5, _⟩
  · omega
  · have : x = y := by omega
    subst this
    exact ⟨c2, c3, c4, c5⟩
theorem docFit {op : Nat → Int} {n : Nat} (N : Nest op n) : ∀ k, k ≤ n → Fit op n (fun s _ => s < k) (fun j => (docS op n k).getD j 0)
  | 0, _ => fun s o e _ h => by omega
  | k + 1, hk => by
    have ih := docFit N k (by omega)
    intro s o e hC hs he
    have hlt := hC.lt
    have hg : ∀ p, p < n → (docS op n (k + 1)).getD p 0 = _ := fun p hp => by rw [docS, docStep_get (by rw [docS_len]; exact hp)]
    by_cases ho : Opn op k
    · obtain ⟨o', e', he', hC'⟩ := N.opn (by omega) ho
      have hlt' := hC'.lt
      simp only [if_pos ho, hC'.at'] at hg
      by_cases hsk : s = k
      · subst hsk
        obtain ⟨rfl, rfl⟩ := hC.uniq hC'
        have hx : ∀ x : Nat, o = x → s < x ∧ x < e := fun x hx => ⟨(hC.els' hx).1, (hC.els' hx).2.1⟩
        refine ⟨?_, ?_, fun x ex => ?_⟩
        · show (docS op n (s + 1)).getD e 0 = _
          rw [hg e he]
          split
          · have := hx o.toNat (by omega)
            rw [if_neg (by omega), if_neg (by omega), if_pos (by simp)]
          · rw [if_pos (by simp)]
        · show (docS op n (s + 1)).getD s 0 = _
          rw [hg s (by omega)]
          split
          · have := hx o.toNat (by omega)
            rw [if_neg (by omega), if_pos rfl, if_neg (by omega)]
          · rw [if_neg (by simp; omega), if_pos rfl, if_pos (by rcases hC.els with c | ⟨x, c, _⟩ <;> omega)]
        · show (docS op n (s + 1)).getD x 0 = _
          have := hx x ex
          rw [hg x (by omega), if_pos (by omega), if_pos (by omega)]
      · have hs' : s < k := by omega
        obtain ⟨i1, i2, i3⟩ := ih s o e hC hs' he
        have q1 := hC.end'
        have q2 := hC'.end'
        have q3 := hC.opn
        unfold Opn at ho q3
        have d1 : e ≠ k := by rintro rfl; omega
        have d2 : e' ≠ e := by rintro rfl; exact hsk (hC.top.uniq hC'.top)
        have d3 : e' ≠ s := by rintro rfl; omega
        have hx' : 0 ≤ o' → o'.toNat ≠ e ∧ o'.toNat ≠ s ∧ ∀ x : Nat, o = x → o'.toNat ≠ x := by
          intro h0
          obtain ⟨c1, c2, c3, c4⟩ := hC'.els' (x := o'.toNat) (by omega)
          refine ⟨fun h => ?_, fun h => ?_, fun x hx h => ?_⟩
          · rw [h] at c3; omega
          · rw [h] at c3; omega
          · rw [h] at c4; exact hsk ((hC.els' hx).2.2.2.uniq c4)
        refine ⟨?_, ?_, fun x ex => ?_⟩
        · show (docS op n (k + 1)).getD e 0 = _
          rw [hg e he]
          split
          · have := hx' (by assumption)
            rw [if_neg this.1, if_neg (by omega), if_neg (by simpa using d2)]; exact i1
          · rw [if_neg (by simpa using d2), if_neg (by omega)]; exact i1
        · show (docS op n (k + 1)).getD s 0 = _
          rw [hg s (by omega)]
          split
          · have := hx' (by assumption)
            rw [if_neg this.2.1, if_neg (by omega), if_neg (by simpa using d3)]; exact i2
          · rw [if_neg (by simpa using d3), if_neg (by omega)]; exact i2
        · show (docS op n (k + 1)).getD x 0 = _
          obtain ⟨c1, c2, c3, c4⟩ := hC.els' ex
          have d4 : k ≠ x := by rintro rfl; omega
          have d5 : e' ≠ x := by rintro rfl; omega
          rw [hg x (by omega)]
          split
          · have := hx' (by assumption)
            rw [if_neg (this.2.2 x ex), if_neg (by simpa using d5)]; exact i3 x ex
          · rw [if_neg (by simpa using d5)]; exact i3 x ex
    · have hsk : s ≠ k := by rintro rfl; exact ho hC.opn
      simp only [if_neg ho] at hg
      obtain ⟨i1, i2, i3⟩ := ih s o e hC (by omega) he
      refine ⟨(hg e he).trans i1, (hg s (by omega)).trans i2, fun x ex => ?_⟩
      have := hC.els' ex
      exact (hg x (by omega)).trans (i3 x ex)
theorem docOth {op : Nat → Int} {n : Nat} (N : Nest op n) : ∀ k, k ≤ n → ∀ j, j < n → ¬ Opn op j → op j ≠ 49 → op j ≠ 50 → (docS op n k).getD j 0 = -1
  | 0, _, j, hj, _, _, _ => by simp [docS, List.getD_eq_getElem?_getD, hj]
  | k + 1, hk, j, hj, a, b, c => by
    have ih := docOth N k (by omega) j hj a b c
    rw [docS, docStep_get (by rw [docS_len]; exact hj)]
    split
    · rename_i ho
      obtain ⟨o', e', he', hC'⟩ := N.opn (by omega) ho
      rw [hC'.at']
      have d1 : k ≠ j := by rintro rfl; exact a ho
      have d2 : e' ≠ j := by rintro rfl; exact c hC'.end'
      simp only
      split
      · have d3 : o'.toNat ≠ j := by rintro h; exact b (h ▸ (hC'.els' (x := o'.toNat) (by omega)).2.2.1)
        rw [if_neg d3, if_neg (by simpa using d2)]; exact ih
      · rw [if_neg (by simpa using d2)]; exact ih
    · exact ih
end Go.Proofs.Ytodagpmcmjleaaa
