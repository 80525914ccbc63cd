/- The document's search for a block's end, held against the stack of open blocks: plain facts. -/
import Derived.Test.YtodagpmcmjleaaaSW
namespace Go.Proofs.Ytodagpmcmjleaaa
/-- The document's search from place j on, m places being left: d blocks were opened since, o is the else. -/
def closeS (op : Nat → Int) (f : Bool) : Nat → Nat → Nat → Int → Int × Int
  | 0, _, _, o => (o, -1)
  | m + 1, j, d, o =>
    if op j = 48 ∨ op j = 51 then closeS op f m (j + 1) (d + 1) o
    else if op j = 49 then (if d = 0 then (if 0 ≤ o ∨ f = false then (-1, -1) else closeS op f m (j + 1) 0 j) else closeS op f m (j + 1) d o)
    else if op j = 50 then (if d = 0 then (o, (j : Int)) else closeS op f m (j + 1) (d - 1) o)
    else closeS op f m (j + 1) d o
def closeAt (op : Nat → Int) (n i : Nat) : Int × Int := closeS op (decide (op i = 48)) (n - (i + 1)) (i + 1) 0 (-1)
/-- The blocks that are open ahead of place k. -/
def stk (op : Nat → Int) : Nat → List Blk
  | 0 => []
  | k + 1 => stepS (op k) k (stk op k)
/-- May it stand there, but for how many blocks may be, and leaves? -/
def standN (n : Int) (L : List Blk) : Bool :=
  if n = 49 then (match L.getLast? with | none => false | some b => !b.l && decide (b.o = -1))
  else if n = 50 then decide (0 < L.length)
  else true
def NestTo (op : Nat → Int) (k : Nat) : Prop := ∀ j, j < k → standN (op j) (stk op j) = true
def Top (op : Nat → Int) (x i : Nat) : Prop := ∃ A b, stk op x = A ++ [b] ∧ b.s = (i : Int)
theorem Top.uniq {op : Nat → Int} {x i j : Nat} (h : Top op x i) (k : Top op x j) : i = j := by
  obtain ⟨A, b, h1, h2⟩ := h
  obtain ⟨A', b', k1, k2⟩ := k
  have := (List.append_inj' (h1.symm.trans k1) rfl).2
  have e : b = b' := by simpa using this
  subst e
  omega
abbrev Opn (op : Nat → Int) (j : Nat) : Prop := op j = 48 ∨ op j = 51
structure Closed (op : Nat → Int) (n s : Nat) (o : Int) (e : Nat) : Prop where
  opn : Opn op s
  at' : closeAt op n s = (o, (e : Int))
  lt : s < e
  end' : op e = 50
  top : Top op e s
  els : o = -1 ∨ ∃ x : Nat, o = x ∧ s < x ∧ x < e ∧ op x = 49 ∧ Top op x s ∧ op s = 48
theorem snoc_cut {A M R : List Blk} {b c : Blk} (h : M ++ [c] = A ++ b :: R) : (R = [] ∧ b = c ∧ A = M) ∨ ∃ R', R = R' ++ [c] ∧ M = A ++ b :: R' := by
  rcases List.eq_nil_or_concat R with rfl | ⟨R', r, rfl⟩
  · obtain ⟨h1, h2⟩ := List.append_inj' h rfl
    exact .inl ⟨rfl, by simpa using h2.symm, h1.symm⟩
  · rw [List.concat_eq_append] at h ⊢
    rw [show A ++ b :: (R' ++ [r]) = (A ++ b :: R') ++ [r] by simp] at h
    obtain ⟨h1, h2⟩ := List.append_inj' h rfl
    have : c = r := by simpa using h2
    subst this
    exact .inr ⟨R', rfl, h1⟩
structure CI (op : Nat → Int) (n k : Nat) : Prop where
  blk : ∀ (A : List Blk) (b : Blk) (R : List Blk), stk op k = A ++ b :: R → ∃ i : Nat, b.s = i ∧ i < k ∧ Opn op i ∧ b.l = decide (op i = 51) ∧ stk op i = A ∧ (b.o = -1 ∨ ∃ x : Nat, b.o = x ∧ i < x ∧ x < k ∧ op x = 49 ∧ Top op x i ∧ op i = 48) ∧ closeAt op n i = closeS op (decide (op i = 48)) (n - k) k R.length b.o
  opn : ∀ j : Nat, j < k → Opn op j → (∃ b ∈ stk op k, b.s = j) ∨ ∃ o e, e < k ∧ Closed op n j o e
  els : ∀ j : Nat, j < k → op j = 49 → (∃ b ∈ stk op k, b.o = j) ∨ ∃ s e, e < k ∧ Closed op n s j e
  ends : ∀ j : Nat, j < k → op j = 50 → ∃ s o, Closed op n s o j
theorem closeS_succ {op : Nat → Int} {f : Bool} {n k d : Nat} {o : Int} (hk : k < n) : closeS op f (n - k) k d o =
    if op k = 48 ∨ op k = 51 then closeS op f (n - (k + 1)) (k + 1) (d + 1) o
    else if op k = 49 then (if d = 0 then (if 0 ≤ o ∨ f = false then (-1, -1) else closeS op f (n - (k + 1)) (k + 1) 0 k) else closeS op f (n - (k + 1)) (k + 1) d o)
    else if op k = 50 then (if d = 0 then (o, (k : Int)) else closeS op f (n - (k + 1)) (k + 1) (d - 1) o)
    else closeS op f (n - (k + 1)) (k + 1) d o := by
  have : n - k = (n - (k + 1)) + 1 := by omega
  rw [this, closeS]
theorem CI.next {op : Nat → Int} {n k : Nat} (hk : k < n) (h : CI op n k) (hs : standN (op k) (stk op k) = true) : CI op n (k + 1) := by
  by_cases h1 : op k = 48 ∨ op k = 51
  · have e1 : stk op (k + 1) = stk op k ++ [⟨k, -1, decide (op k = 51)⟩] := by simp only [stk, stepS, if_pos h1]
    refine ⟨fun A b R hA => ?_, fun j hj e => ?_, fun j hj e => ?_, fun j hj e => ?_⟩
    · rw [e1] at hA
      rcases snoc_cut hA with ⟨rfl, rfl, rfl⟩ | ⟨R', rfl, hM⟩
      · exact ⟨k, rfl, by omega, h1, rfl, rfl, .inl rfl, rfl⟩
      · obtain ⟨i, a1, a2, a3, a4, a5, a6, a7⟩ := h.blk A b R' hM
        refine ⟨i, a1, by omega, a3, a4, a5, ?_, ?_⟩
        · rcases a6 with a6 | ⟨x, b1, b2, b3, b4⟩
          · exact .inl a6
          · exact .inr ⟨x, b1, b2, by omega, b4⟩
        · rw [a7, closeS_succ hk, if_pos h1, List.length_append]; rfl
    · by_cases hjk : j = k
      · subst hjk; exact .inl ⟨_, by rw [e1]; exact List.mem_append_right _ (List.mem_singleton.2 rfl), rfl⟩
      · rcases h.opn j (by omega) e with ⟨b, c1, c2⟩ | ⟨o, x, c1, c2⟩
        · exact .inl ⟨b, by rw [e1]; exact List.mem_append_left _ c1, c2⟩
        · exact .inr ⟨o, x, by omega, c2⟩
    · have hjk : j ≠ k := by rintro rfl; omega
      rcases h.els j (by omega) e with ⟨b, c1, c2⟩ | ⟨o, x, c1, c2⟩
      · exact .inl ⟨b, by rw [e1]; exact List.mem_append_left _ c1, c2⟩
      · exact .inr ⟨o, x, by omega, c2⟩
    · have hjk : j ≠ k := by rintro rfl; omega
      exact h.ends j (by omega) e
  by_cases h2 : op k = 49
  · rcases List.eq_nil_or_concat (stk op k) with hL | ⟨M, b0, hL⟩
    · rw [hL] at hs; simp [standN, h2] at hs
    rw [List.concat_eq_append] at hL
    have hb0 : b0.l = false ∧ b0.o = -1 := by rw [hL] at hs; simpa [standN, h2] using hs
    have e1 : stk op (k + 1) = M ++ [⟨b0.s, k, b0.l⟩] := by rw [stk, hL, h2]; simp [stepS]
    obtain ⟨i0, p1, p2, p3, p4, p5, _, p7⟩ := h.blk M b0 [] hL
    have hi48 : op i0 = 48 := by
      rcases p3 with p3 | p3
      · exact p3
      · rw [hb0.1] at p4; simp [p3] at p4
    refine ⟨fun A b R hA => ?_, fun j hj e => ?_, fun j hj e => ?_, fun j hj e => ?_⟩
    · rw [e1] at hA
      rcases snoc_cut hA with ⟨rfl, rfl, rfl⟩ | ⟨R', rfl, hM⟩
      · refine ⟨i0, p1, by omega, p3, p4, p5, .inr ⟨k, rfl, p2, by omega, h2, ⟨_, _, hL, p1⟩, hi48⟩, ?_⟩
        rw [p7, closeS_succ hk, if_neg h1, if_pos h2, if_pos (by rfl), if_neg (by rw [hb0.2, hi48]; simp)]; rfl
      · obtain ⟨i, a1, a2, a3, a4, a5, a6, a7⟩ := h.blk A b (R' ++ [b0]) (by rw [hL, hM]; simp)
        refine ⟨i, a1, by omega, a3, a4, a5, ?_, ?_⟩
        · rcases a6 with a6 | ⟨x, b1, b2, b3, b4⟩
          · exact .inl a6
          · exact .inr ⟨x, b1, b2, by omega, b4⟩
        · rw [a7, closeS_succ hk, if_neg h1, if_pos h2, if_neg (by simp)]; simp
    · have hjk : j ≠ k := by rintro rfl; exact h1 e
      rcases h.opn j (by omega) e with ⟨b, c1, c2⟩ | ⟨o, x, c1, c2⟩
      · rw [hL] at c1
        rcases List.mem_append.1 c1 with c1 | c1
        · exact .inl ⟨b, by rw [e1]; exact List.mem_append_left _ c1, c2⟩
        · rw [List.mem_singleton] at c1
          subst c1
          exact .inl ⟨⟨b.s, k, b.l⟩, by rw [e1]; exact List.mem_append_right _ (List.mem_singleton.2 rfl), c2⟩
      · exact .inr ⟨o, x, by omega, c2⟩
    · by_cases hjk : j = k
      · subst hjk; exact .inl ⟨_, by rw [e1]; exact List.mem_append_right _ (List.mem_singleton.2 rfl), rfl⟩
      · rcases h.els j (by omega) e with ⟨b, c1, c2⟩ | ⟨o, x, c1, c2⟩
        · rw [hL] at c1
          rcases List.mem_append.1 c1 with c1 | c1
          · exact .inl ⟨b, by rw [e1]; exact List.mem_append_left _ c1, c2⟩
          · rw [List.mem_singleton] at c1
            subst c1
            omega
        · exact .inr ⟨o, x, by omega, c2⟩
    · have hjk : j ≠ k := by rintro rfl; omega
      exact h.ends j (by omega) e
  by_cases h3 : op k = 50
  · rcases List.eq_nil_or_concat (stk op k) with hL | ⟨M, b0, hL⟩
    · rw [hL] at hs; simp [standN, h3] at hs
    rw [List.concat_eq_append] at hL
    have e1 : stk op (k + 1) = M := by rw [stk, hL, h3]; simp [stepS]
    obtain ⟨i0, p1, p2, p3, p4, p5, p6, p7⟩ := h.blk M b0 [] hL
    have hC : Closed op n i0 b0.o k := by
      refine ⟨p3, ?_, p2, h3, ⟨_, _, hL, p1⟩, p6⟩
      rw [p7, closeS_succ hk, if_neg h1, if_neg h2, if_pos h3, if_pos (by rfl)]
    refine ⟨fun A b R hA => ?_, fun j hj e => ?_, fun j hj e => ?_, fun j hj e => ?_⟩
    · rw [e1] at hA
      obtain ⟨i, a1, a2, a3, a4, a5, a6, a7⟩ := h.blk A b (R ++ [b0]) (by rw [hL, hA]; simp)
      refine ⟨i, a1, by omega, a3, a4, a5, ?_, ?_⟩
      · rcases a6 with a6 | ⟨x, b1, b2, b3, b4⟩
        · exact .inl a6
        · exact .inr ⟨x, b1, b2, by omega, b4⟩
      · rw [a7, closeS_succ hk, if_neg h1, if_neg h2, if_pos h3, if_neg (by simp)]; simp
    · have hjk : j ≠ k := by rintro rfl; exact h1 e
      rcases h.opn j (by omega) e with ⟨b, c1, c2⟩ | ⟨o, x, c1, c2⟩
      · rw [hL] at c1
        rcases List.mem_append.1 c1 with c1 | c1
        · exact .inl ⟨b, by rw [e1]; exact c1, c2⟩
        · rw [List.mem_singleton] at c1
          subst c1
          have : i0 = j := by omega
          subst this
          exact .inr ⟨_, k, by omega, hC⟩
      · exact .inr ⟨o, x, by omega, c2⟩
    · have hjk : j ≠ k := by rintro rfl; omega
      rcases h.els j (by omega) e with ⟨b, c1, c2⟩ | ⟨o, x, c1, c2⟩
      · rw [hL] at c1
        rcases List.mem_append.1 c1 with c1 | c1
        · exact .inl ⟨b, by rw [e1]; exact c1, c2⟩
        · rw [List.mem_singleton] at c1
          subst c1
          rw [c2] at hC
          exact .inr ⟨_, k, by omega, hC⟩
      · exact .inr ⟨o, x, by omega, c2⟩
    · by_cases hjk : j = k
      · subst hjk; exact ⟨_, _, hC⟩
      · exact h.ends j (by omega) e
  have e1 : stk op (k + 1) = stk op k := by simp only [stk, stepS, if_neg h1, if_neg h2, if_neg h3]
  refine ⟨fun A b R hA => ?_, fun j hj e => ?_, fun j hj e => ?_, fun j hj e => ?_⟩
  · rw [e1] at hA
    obtain ⟨i, a1, a2, a3, a4, a5, a6, a7⟩ := h.blk A b R hA
    refine ⟨i, a1, by omega, a3, a4, a5, ?_, ?_⟩
    · rcases a6 with a6 | ⟨x, b1, b2, b3, b4⟩
      · exact .inl a6
      · exact .inr ⟨x, b1, b2, by omega, b4⟩
    · rw [a7, closeS_succ hk, if_neg h1, if_neg h2, if_neg h3]
  · have hjk : j ≠ k := by rintro rfl; exact h1 e
    rw [e1]
    rcases h.opn j (by omega) e with c | ⟨o, x, c1, c2⟩
    · exact .inl c
    · exact .inr ⟨o, x, by omega, c2⟩
  · have hjk : j ≠ k := by rintro rfl; omega
    rw [e1]
    rcases h.els j (by omega) e with c | ⟨o, x, c1, c2⟩
    · exact .inl c
    · exact .inr ⟨o, x, by omega, c2⟩
  · have hjk : j ≠ k := by rintro rfl; omega
    exact h.ends j (by omega) e
theorem ci_all {op : Nat → Int} {n : Nat} : ∀ k, k ≤ n → NestTo op k → CI op n k
  | 0, _, _ => ⟨fun A b R h => by simp [stk] at h, fun j h => by omega, fun j h => by omega, fun j h => by omega⟩
  | k + 1, hk, h => (ci_all k (by omega) (fun j hj => h j (by omega))).next (by omega) (h k (by omega))
theorem closeS_rng {op : Nat → Int} {f : Bool} : ∀ m j d o, ((closeS op f m j d o).2 = -1 ∨ (j : Int) ≤ (closeS op f m j d o).2 ∧ (closeS op f m j d o).2 < j + m) ∧ ((closeS op f m j d o).1 = -1 ∨ (closeS op f m j d o).1 = o ∨ (j : Int) ≤ (closeS op f m j d o).1 ∧ (closeS op f m j d o).1 < j + m)
  | 0, j, d, o => ⟨.inl rfl, .inr (.inl rfl)⟩
  | m + 1, j, d, o => by
    have ih : ∀ d o, _ := closeS_rng (op := op) (f := f) m (j + 1)
    rw [closeS]
    split
    · have := ih (d + 1) o; omega
    split
    · split
      · split
        · exact ⟨.inl rfl, .inl rfl⟩
        · have := ih 0 j; omega
      · have := ih d o; omega
    split
    · split
      · exact ⟨.inr ⟨Int.le_refl _, by simp; omega⟩, .inr (.inl rfl)⟩
      · have := ih (d - 1) o; omega
    · have := ih d o; omega
end Go.Proofs.Ytodagpmcmjleaaa
