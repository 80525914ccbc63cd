/- What the document's Match notes of leaves; when it says no: plain facts. -/
import Derived.Test.YtodagpmcmjleaaaDC
namespace Go.Proofs.Ytodagpmcmjleaaa
def lvV (op : Nat → Int) (n j : Nat) : Int := if lvS (stk op j) = -1 then -1 else gI (docS op n n) (lvS (stk op j)).toNat
def thS (op : Nat → Int) (n : Nat) : Nat → List Int
  | 0 => docS op n n
  | k + 1 => if op k = 52 then (thS op n k).set k (lvV op n k) else thS op n k
theorem thS_len (op : Nat → Int) (n : Nat) : ∀ k, (thS op n k).length = n
  | 0 => docS_len op n n
  | k + 1 => by
    rw [thS]
    split
    · rw [List.length_set, thS_len op n k]
    · exact thS_len op n k
theorem thS_get {op : Nat → Int} {n j : Nat} (hj : j < n) : ∀ k, gI (thS op n k) j = if op j = 52 ∧ j < k then lvV op n j else gI (docS op n n) j
  | 0 => by rw [if_neg (by omega)]; rfl
  | k + 1 => by
    have ih := thS_get (op := op) hj k
    rw [thS]
    by_cases h : op k = 52
    · rw [if_pos h, gI, gset _ _ _ _ (by rw [thS_len]; exact hj)]
      by_cases hk : k = j
      · subst hk
        rw [if_pos rfl, if_pos ⟨h, Nat.lt_succ_self _⟩]
      · rw [if_neg hk]
        refine ih.trans ?_
        by_cases hc : op j = 52 ∧ j < k
        · rw [if_pos hc, if_pos ⟨hc.1, by omega⟩]
        · rw [if_neg hc, if_neg (fun h => hc ⟨h.1, by omega⟩)]
    · rw [if_neg h, ih]
      by_cases hc : op j = 52 ∧ j < k
      · rw [if_pos hc, if_pos ⟨hc.1, by omega⟩]
      · rw [if_neg hc, if_neg (fun h2 => hc ⟨h2.1, by have : j ≠ k := by rintro rfl; exact h h2.1
                                                      omega⟩)]
theorem doc_fit {op : Nat → Int} {n : Nat} (N : Nest op n) : Fit op n (fun _ _ => True) (gI (docS op n n)) := fun s o e hC _ he => docFit N n (Nat.le_refl _) s o e hC (by have := hC.lt; show s < n; omega) he
theorem th_fit {op : Nat → Int} {n : Nat} (N : Nest op n) (k : Nat) : Fit op n (fun _ _ => True) (gI (thS op n k)) := by
  intro s o e hC _ he
  obtain ⟨i1, i2, i3⟩ := doc_fit N s o e hC trivial he
  have q1 := hC.end'
  have q2 := hC.lt
  have q3 := hC.opn
  unfold Opn at q3
  refine ⟨?_, ?_, fun x ex => ?_⟩
  · rw [thS_get he, if_neg (by omega)]; exact i1
  · rw [thS_get (by omega), if_neg (by omega)]; exact i2
  · obtain ⟨c1, c2, c3, c4⟩ := hC.els' ex
    rw [thS_get (by omega), if_neg (by omega)]; exact i3 x ex
theorem fit_noted {op : Nat → Int} {n : Nat} {ms : List Int} (N : Nest op n) (hl : ms.length = n) (hf : Fit op n (fun _ _ => True) (gI ms)) : Noted op n ms := by
  refine ⟨hl, fun j hj ho => ?_⟩
  obtain ⟨o, e, he, hC⟩ := N.opn hj ho
  rw [(hf _ _ _ hC trivial he).2.1]
  have := hC.lt
  split
  · omega
  · rcases hC.els with c | ⟨x, c1, c2, c3, _⟩ <;> omega
theorem firstIx_snoc (L : List Blk) (b : Blk) : ∀ k, k ≤ L.length → firstIx (L ++ [b]) Blk.l k = firstIx L Blk.l k
  | 0, _ => rfl
  | k + 1, h => by
    rw [firstIx, firstIx, List.getElem?_append_left (by omega), firstIx_snoc L b k (by omega)]
theorem lvS_snoc (L : List Blk) (b : Blk) : lvS (L ++ [b]) = if b.l = true then b.s else lvS L := by
  unfold lvS
  rw [List.length_append, List.length_singleton, firstIx]
  simp only [List.getElem?_concat_length]
  by_cases h : b.l = true
  · rw [if_pos h, if_pos h]; simp
  · rw [if_neg h, if_neg h, firstIx_snoc L b _ (Nat.le_refl _)]
    cases hf : firstIx L Blk.l L.length with
    | none => rfl
    | some i =>
      obtain ⟨hi, _⟩ := firstIx_lt hf
      simp only
      rw [List.getElem?_append_left hi]
def accS (op : Nat → Int) (ms : List Int) (L : List Int) : Int := L.foldl (fun a s => if op s.toNat = 51 then gI ms s.toNat else a) (-1)
theorem acc_lv {op : Nat → Int} {ms : List Int} (L : List Blk) (h : ∀ b ∈ L, 0 ≤ b.s ∧ b.l = decide (op b.s.toNat = 51)) : accS op ms (L.map Blk.s) = if lvS L = -1 then -1 else gI ms (lvS L).toNat := by
  rcases List.eq_nil_or_concat L with rfl | ⟨M, b, rfl⟩
  · rfl
  rw [List.concat_eq_append] at h ⊢
  obtain ⟨h1, h2⟩ := h b (by simp)
  have ih := acc_lv (op := op) (ms := ms) M (fun c hc => h c (by simp [hc]))
  rw [lvS_snoc, List.map_append, accS, List.foldl_append]
  simp only [List.map_cons, List.map_nil, List.foldl_cons, List.foldl_nil]
  rw [show List.foldl (fun a s => if op s.toNat = 51 then gI ms s.toNat else a) (-1) (M.map Blk.s) = accS op ms (M.map Blk.s) from rfl, ih]
  by_cases hb : op b.s.toNat = 51
  · have hbl : b.l = true := by rw [h2]; exact decide_eq_true hb
    rw [if_pos hb, if_pos hbl, if_neg (by omega)]
  · have hbl : ¬ b.l = true := by rw [h2]; simpa using hb
    rw [if_neg hb, if_neg hbl]
termination_by L.length
decreasing_by
  subst_vars
  simp
theorem acc_stk {op : Nat → Int} {n i : Nat} (N : Nest op n) (hi : i ≤ n) (k : Nat) : accS op (thS op n k) ((stk op i).map Blk.s) = lvV op n i := by
  have hb : ∀ b ∈ stk op i, ∃ s : Nat, b.s = s ∧ s < i ∧ b.l = decide (op s = 51) := by
    intro b hb
    obtain ⟨A, R, hA⟩ := List.append_of_mem hb
    obtain ⟨s, p1, p2, p3, p4, _⟩ := (N.ci i hi).blk A b R hA
    exact ⟨s, p1, p2, p4⟩
  rw [acc_lv _ (fun b h => by obtain ⟨s, a1, a2, a3⟩ := hb b h; rw [a1, Int.toNat_natCast]; exact ⟨by omega, a3⟩), lvV]
  by_cases h : lvS (stk op i) = -1
  · rw [if_pos h, if_pos h]
  · rw [if_neg h, if_neg h]
    have hs : (firstIx (stk op i) Blk.l (stk op i).length).isSome = true := by
      cases hf : firstIx (stk op i) Blk.l (stk op i).length with
      | none => exact absurd (by rw [lvS, hf]) h
      | some _ => rfl
    obtain ⟨s, a1, a2, a3⟩ := lvS_some N hi hs
    rw [a2, Int.toNat_natCast, thS_get (by omega), if_neg (by omega)]
theorem good_size {cs : List (Int × Int)} (h : goodS cs = true) : ∀ i, i ≤ cs.length → (stk (opA cs) i).length ≤ 8
  | 0, _ => Nat.zero_le _
  | i + 1, hi => by
    have ih := good_size h i (by omega)
    have hs := ((good_iff cs).1 h).1 i (by omega)
    rw [stk]
    unfold stepS
    split
    · rename_i ho
      rw [standS, if_pos ho] at hs
      have := of_decide_eq_true hs
      rw [List.length_append]; simp; omega
    split
    · cases (stk (opA cs) i).getLast? with
      | none => exact ih
      | some b => simp; omega
    split
    · rw [List.length_dropLast]; omega
    · exact ih
/-- When the document says no. -/
theorem no_end {cs : List (Int × Int)} {i : Nat} (hi : i < cs.length) (ho : Opn (opA cs) i) (he : (closeAt (opA cs) cs.length i).2 < 0) : goodS cs = false := by
  cases hg : goodS cs with
  | false => rfl
  | true =>
    obtain ⟨o, e, h1, hC⟩ := (good_nest hg).opn hi ho
    rw [hC.at'] at he
    simp only at he
    omega
theorem no_claim {cs : List (Int × Int)} {j : Nat} (hj : j < cs.length) (ho : opA cs j = 49 ∨ opA cs j = 50) (he : gI (docS (opA cs) cs.length cs.length) j < 0) : goodS cs = false := by
  cases hg : goodS cs with
  | false => rfl
  | true =>
    have N := good_nest hg
    rcases ho with ho | ho
    · obtain ⟨s, e, h1, hC⟩ := N.els hj ho
      have := (doc_fit N _ _ _ hC trivial h1).2.2 j rfl
      omega
    · obtain ⟨s, o, hC⟩ := N.ends hj ho
      have := (doc_fit N _ _ _ hC trivial hj).1
      omega
theorem no_room {cs : List (Int × Int)} {i : Nat} (hi : i < cs.length) (h : 8 < (stk (opA cs) i).length + (if Opn (opA cs) i then 1 else 0)) : goodS cs = false := by
  cases hg : goodS cs with
  | false => rfl
  | true =>
    have h1 := good_size hg i (by omega)
    have hs := ((good_iff cs).1 hg).1 i (by omega)
    split at h
    · rename_i ho
      have ho' : opA cs i = 48 ∨ opA cs i = 51 := ho
      rw [standS, if_pos ho'] at hs
      have := of_decide_eq_true hs
      omega
    · omega
theorem no_loop {cs : List (Int × Int)} {i : Nat} (N : Nest (opA cs) cs.length) (hi : i < cs.length) (ho : opA cs i = 52) (h : lvV (opA cs) cs.length i < 0) : goodS cs = false := by
  cases hg : goodS cs with
  | false => rfl
  | true =>
    have hs := ((good_iff cs).1 hg).1 i (by omega)
    rw [ho] at hs
    obtain ⟨s, a1, a2, a3⟩ := lvS_some N (by omega : i ≤ cs.length) (by simpa [standS] using hs)
    rw [lvV, a2, if_neg (by omega), Int.toNat_natCast] at h
    obtain ⟨o, e, h1, hC⟩ := N.opn (by omega : s < cs.length) (.inr a3)
    have := ((fit_noted N (docS_len _ _ _) (doc_fit N)).rng s (by omega) (.inr a3)).1
    omega
/-- When it may stand there. -/
theorem may_stand {cs : List (Int × Int)} {i : Nat} (N : Nest (opA cs) cs.length) (hi : i < cs.length) (h8 : (stk (opA cs) i).length + (if Opn (opA cs) i then 1 else 0) ≤ 8) (hl : opA cs i = 52 → 0 ≤ lvV (opA cs) cs.length i) : standS (opA cs i) (stk (opA cs) i) = true := by
  have hn := N.nst i hi
  unfold standN at hn
  unfold standS
  by_cases h1 : opA cs i = 48 ∨ opA cs i = 51
  · rw [if_pos h1]
    rw [if_pos (show Opn (opA cs) i from h1)] at h8
    exact decide_eq_true (by omega)
  rw [if_neg h1]
  by_cases h2 : opA cs i = 49
  · rw [if_pos h2] at hn ⊢; exact hn
  rw [if_neg h2] at hn ⊢
  by_cases h3 : opA cs i = 50
  · rw [if_pos h3] at hn ⊢; exact hn
  rw [if_neg h3]
  by_cases h4 : opA cs i = 52
  · rw [if_pos h4]
    have := hl h4
    cases hf : firstIx (stk (opA cs) i) Blk.l (stk (opA cs) i).length with
    | none =>
      rw [lvV, lvS, hf] at this
      simp at this
    | some _ => rfl
  · rw [if_neg h4]
theorem doc_match {cs : List (Int × Int)} (hg : goodS cs = true) : thS (opA cs) cs.length cs.length = matchS cs := by
  have N := good_nest hg
  have G : GM (opA cs) cs.length (gI (thS (opA cs) cs.length cs.length)) := by
    refine ⟨th_fit N _, fun j hj e => ?_, fun j hj a b c d => ?_⟩
    · have hs := ((good_iff cs).1 hg).1 j hj
      rw [e] at hs
      obtain ⟨s, a1, a2, a3⟩ := lvS_some N (by omega : j ≤ cs.length) (by simpa [standS] using hs)
      refine ⟨s, a1, a2, a3, ?_⟩
      rw [thS_get hj, if_pos ⟨e, hj⟩, thS_get (by omega), if_neg (by omega), lvV, a2, if_neg (by omega), Int.toNat_natCast]
    · rw [thS_get hj, if_neg (fun h => d h.1)]
      exact docOth N _ (Nat.le_refl _) j hj a b c
  have U := G.uniq N (match_gm hg)
  refine List.ext_getElem (by rw [thS_len, matchS_len]) fun j h1 h2 => ?_
  rw [thS_len] at h1
  have := U j h1
  simp only [gI] at this
  rwa [List.getD_eq_getElem?_getD, List.getD_eq_getElem?_getD, List.getElem?_eq_getElem (by rw [thS_len]; exact h1), List.getElem?_eq_getElem h2] at this
end Go.Proofs.Ytodagpmcmjleaaa
