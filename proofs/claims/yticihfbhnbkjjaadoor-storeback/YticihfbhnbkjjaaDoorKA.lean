/- Layer 11: plain facts on pairs: put, delete, what two lists of pairs differ in. -/
import Derived.Test.YticihfbhnbkjjaaDoorQV
namespace Go.Proofs.YticihfbhnbkjjaaDoor
open Go.RowKit
theorem srt_cons {x : Bt × Bt} {L : Kvs} (h : SrtL (x :: L)) : SrtL L ∧ ∀ y ∈ L, klt x.1 y.1 := by
  rw [SrtL, List.pairwise_cons] at h
  exact ⟨h.2, h.1⟩
theorem getL_lt {L : Kvs} {k : Bt} (h : ∀ y ∈ L, klt k y.1) : getL L k = none := getL_none fun y hy e => klt_irr k (by have := h y hy; rwa [e] at this)
theorem mem_putL {L : Kvs} {k v : Bt} {x : Bt × Bt} : x ∈ putL L k v → x = (k, v) ∨ x ∈ L := by
  induction L with
  | nil => intro h; simp [putL] at h; exact .inl h
  | cons y L ih =>
    obtain ⟨a, b⟩ := y
    unfold putL
    split
    · intro h; rcases List.mem_cons.1 h with e | e
      · exact .inl e
      · exact .inr (by simp [e])
    · split
      · intro h; rcases List.mem_cons.1 h with e | e
        · exact .inl e
        · exact .inr e
      · intro h; rcases List.mem_cons.1 h with e | e
        · exact .inr (by simp [e])
        · rcases ih e with e | e
          · exact .inl e
          · exact .inr (by simp [e])
theorem putL_srt {L : Kvs} (h : SrtL L) (k v : Bt) : SrtL (putL L k v) := by
  induction L with
  | nil => simp [putL, SrtL]
  | cons y L ih =>
    obtain ⟨a, b⟩ := y
    obtain ⟨h1, h2⟩ := srt_cons h
    unfold putL
    split
    · rename_i e
      subst e
      rw [SrtL, List.pairwise_cons]
      exact ⟨h2, h1⟩
    · split
      · rename_i c
        rw [SrtL, List.pairwise_cons]
        refine ⟨fun y hy => ?_, h⟩
        rcases List.mem_cons.1 hy with e | e
        · rw [e]; exact c
        · exact klt_trans _ _ _ c (h2 y e)
      · rename_i e c
        rw [SrtL, List.pairwise_cons]
        refine ⟨fun y hy => ?_, ih h1⟩
        rcases mem_putL hy with e2 | e2
        · rw [e2]
          rcases klt_tot a k e with x | x
          · exact x
          · exact absurd x c
        · exact h2 y e2
theorem getL_putL {L : Kvs} (k v q : Bt) : getL (putL L k v) q = if k = q then some v else getL L q := by
  induction L with
  | nil => simp [putL, getL]
  | cons y L ih =>
    obtain ⟨a, b⟩ := y
    unfold putL
    split
    · rename_i e
      subst e
      simp only [getL]
      split <;> rfl
    · split
      · simp only [getL]
      · rename_i e c
        simp only [getL]
        rw [ih]
        by_cases h1 : a = q
        · subst h1
          rw [if_pos rfl, if_neg (Ne.symm e), if_pos rfl]
        · rw [if_neg h1, if_neg h1]
theorem delL_srt {L : Kvs} (h : SrtL L) (k : Bt) : SrtL (delL L k) := List.Pairwise.filter _ h
theorem getL_delL {L : Kvs} (k q : Bt) : getL (delL L k) q = if k = q then none else getL L q := by
  induction L with
  | nil => simp [delL, getL]
  | cons y L ih =>
    obtain ⟨a, b⟩ := y
    unfold delL at ih ⊢
    rw [List.filter_cons]
    by_cases e : a = k
    · subst e
      simp only [ne_eq, not_true_eq_false, decide_false, Bool.false_eq_true, if_false]
      rw [ih, getL]
      by_cases h : a = q <;> simp [h]
    · simp only [ne_eq, e, not_false_eq_true, decide_true, if_true, getL]
      rw [ih]
      by_cases h1 : a = q
      · subst h1
        rw [if_pos rfl, if_neg (Ne.symm e), if_pos rfl]
      · rw [if_neg h1, if_neg h1]
theorem kvs_ext : ∀ {A B : Kvs}, SrtL A → SrtL B → (∀ k, getL A k = getL B k) → A = B
  | [], [], _, _, _ => rfl
  | [], (k, v) :: B, _, _, h => by have := h k; simp [getL] at this
  | (k, v) :: A, [], _, _, h => by have := h k; simp [getL] at this
  | (a, b) :: A, (c, d) :: B, ha, hb, h => by
    obtain ⟨a1, a2⟩ := srt_cons ha
    obtain ⟨b1, b2⟩ := srt_cons hb
    have hac : a = c := by
      by_cases e : a = c
      · exact e
      · exfalso
        rcases klt_tot a c e with x | x
        · have := h a
          rw [getL, if_pos rfl, getL, if_neg (Ne.symm e), getL_lt fun y hy => klt_trans _ _ _ x (b2 y hy)] at this
          cases this
        · have := h c
          rw [getL, if_neg e, getL, if_pos rfl, getL_lt fun y hy => klt_trans _ _ _ x (a2 y hy)] at this
          cases this
    subst hac
    have hbd : b = d := by
      have := h a
      rw [getL, if_pos rfl, getL, if_pos rfl] at this
      injection this
    subst hbd
    rw [kvs_ext a1 b1 fun k => ?_]
    by_cases e : a = k
    · subst e
      rw [getL_lt a2, getL_lt b2]
    · have := h k
      rw [getL, if_neg e, getL, if_neg e] at this
      exact this
theorem putL_len {L : Kvs} (h : SrtL L) (k v : Bt) : (putL L k v).length = L.length + if getL L k = none then 1 else 0 := by
  induction L with
  | nil => simp [putL, getL]
  | cons y L ih =>
    obtain ⟨a, b⟩ := y
    obtain ⟨h1, h2⟩ := srt_cons h
    unfold putL
    split
    · rename_i e
      simp [getL, e]
    · rename_i e
      split
      · rename_i c
        have : getL ((a, b) :: L) k = none := getL_lt fun y hy => by
          rcases List.mem_cons.1 hy with e | e
          · rw [e]; exact c
          · exact klt_trans _ _ _ c (h2 y e)
        rw [if_pos this]
        rfl
      · rw [getL, if_neg e, List.length_cons, ih h1, List.length_cons]
        omega
theorem delL_noneK {L : Kvs} {k : Bt} (h : getL L k = none) : delL L k = L := by
  unfold delL
  rw [List.filter_eq_self]
  intro x hx
  simp only [ne_eq, decide_not, Bool.not_eq_eq_eq_not, Bool.not_true, decide_eq_false_iff_not]
  intro e
  induction L with
  | nil => cases hx
  | cons y L ih =>
    obtain ⟨a, b⟩ := y
    rw [getL] at h
    split at h
    · cases h
    · rename_i ne
      rcases List.mem_cons.1 hx with e2 | e2
      · rw [e2] at e; exact ne e
      · exact ih h e2
theorem delL_len {L : Kvs} (h : SrtL L) (k : Bt) : (delL L k).length + (if getL L k = none then 0 else 1) = L.length := by
  induction L with
  | nil => simp [delL, getL]
  | cons y L ih =>
    obtain ⟨a, b⟩ := y
    obtain ⟨h1, h2⟩ := srt_cons h
    by_cases e : a = k
    · subst e
      have := delL_noneK (getL_lt h2)
      unfold delL at this ⊢
      rw [List.filter_cons]
      simp only [ne_eq, not_true_eq_false, decide_false, Bool.false_eq_true, if_false, getL, if_true]
      rw [this]
      simp
    · have := ih h1
      unfold delL at this ⊢
      rw [List.filter_cons]
      simp only [ne_eq, e, not_false_eq_true, decide_true, if_true, getL, if_false, List.length_cons]
      simp only [ne_eq] at this
      omega
/-- What a transaction of a store shows. -/
structure Shows (L S D M : Kvs) : Prop where
  srt : SrtL M
  get : ∀ k, getL M k = loadL L S D k
  ap : ∀ k, (getL S k).isSome → getL D k = none
theorem Shows.start {L : Kvs} (h : SrtL L) : Shows L [] [] L := ⟨h, fun k => by simp [loadL, getL], fun k e => by simp [getL] at e⟩
theorem Shows.save {L S D M : Kvs} (h : Shows L S D M) (k v : Bt) : Shows L (putL S k v) (delL D k) (putL M k v) := by
  refine ⟨putL_srt h.srt k v, fun q => ?_, fun q => ?_⟩
  · have := h.get q
    unfold loadL at this ⊢
    rw [getL_putL, getL_delL, getL_putL]
    by_cases e : k = q
    · simp [e]
    · simp only [if_neg e]
      exact this
  · rw [getL_putL, getL_delL]
    by_cases e : k = q
    · simp [e]
    · rw [if_neg e, if_neg e]
      exact h.ap q
theorem Shows.wipe {L S D M : Kvs} (h : Shows L S D M) (k : Bt) : Shows L (delL S k) (putL D k []) (delL M k) := by
  refine ⟨delL_srt h.srt k, fun q => ?_, fun q => ?_⟩
  · have := h.get q
    unfold loadL at this ⊢
    rw [getL_delL, getL_putL, getL_delL]
    by_cases e : k = q
    · simp [e]
    · simp only [if_neg e]
      exact this
  · rw [getL_delL, getL_putL]
    by_cases e : k = q
    · simp [e]
    · rw [if_neg e, if_neg e]
      exact h.ap q
/-- What two stores differ in. -/
def dif (L M : Kvs) (k : Bt) : Option Bt := if getL L k = getL M k then none else some ((getL M k).getD [])
structure Difs (L M C : Kvs) : Prop where
  srt : SrtL C
  get : ∀ k, getL C k = dif L M k
theorem mem_chgA {L S : Kvs} (hs : SrtL S) {x : Bt × Bt} : x ∈ chgA L S ↔ getL S x.1 = some x.2 ∧ getL L x.1 ≠ some x.2 := by
  unfold chgA
  rw [List.mem_filter]
  constructor
  · rintro ⟨a, b⟩
    exact ⟨getL_some hs a, by simpa using b⟩
  · rintro ⟨a, b⟩
    exact ⟨getL_mem a, by simpa using b⟩
theorem mem_chgB {L D : Kvs} (hs : SrtL D) {x : Bt × Bt} : x ∈ chgB L D ↔ x.2 = [] ∧ (getL D x.1).isSome ∧ (getL L x.1).isSome := by
  unfold chgB
  rw [List.mem_map]
  constructor
  · rintro ⟨y, hy, rfl⟩
    rw [List.mem_filter] at hy
    exact ⟨rfl, by rw [getL_some hs hy.1]; rfl, hy.2⟩
  · rintro ⟨a, b, c⟩
    obtain ⟨v, hv⟩ := Option.isSome_iff_exists.1 b
    exact ⟨(x.1, v), List.mem_filter.2 ⟨getL_mem hv, c⟩, by rw [← a]⟩
/-- The changes, sorted, are what the store and what is shown differ in. -/
theorem difs_of {L S D M C : Kvs} (h : Shows L S D M) (hS : SrtL S) (hD : SrtL D) (hp : C.Perm (chgA L S ++ chgB L D)) (hc : C.Pairwise fun x y => ¬ klt y.1 x.1) : Difs L M C := by
  have hkd : (chgA L S ++ chgB L D).Pairwise fun x y => x.1 ≠ y.1 := by
    rw [List.pairwise_append]
    refine ⟨(List.Pairwise.filter _ hS).imp fun e => klt_ne e, ?_, fun x hx y hy e => ?_⟩
    · unfold chgB
      rw [List.pairwise_map]
      exact (List.Pairwise.filter _ hD).imp fun e => klt_ne e
    · have h1 := ((mem_chgA hS).1 hx).1
      have h2 := ((mem_chgB hD).1 hy).2.1
      rw [← e, h.ap x.1 (by rw [h1]; rfl)] at h2
      cases h2
  have hkd2 : C.Pairwise fun x y => x.1 ≠ y.1 := (hp.pairwise_iff (fun e => Ne.symm e)).2 hkd
  have hs : SrtL C := by
    have := hkd2.and hc
    refine this.imp fun ⟨a, b⟩ => ?_
    rcases klt_tot _ _ a with x | x
    · exact x
    · exact absurd x b
  refine ⟨hs, fun k => ?_⟩
  have hM := h.get k
  unfold dif
  have key : ∀ v, (k, v) ∈ C ↔ (getL S k = some v ∧ getL L k ≠ some v) ∨ (v = [] ∧ (getL D k).isSome ∧ (getL L k).isSome) := fun v => by
    rw [hp.mem_iff, List.mem_append, mem_chgA hS, mem_chgB hD]
  cases hd : getL D k with
  | some u =>
    have hsn : getL S k = none := by
      cases e : getL S k with
      | none => rfl
      | some v => have := h.ap k (by rw [e]; rfl); rw [hd] at this; cases this
    have hm : getL M k = none := by rw [hM, loadL, hd]; rfl
    rw [hm]
    cases hl : getL L k with
    | none =>
      rw [if_pos rfl]
      refine getL_none fun x hx e => ?_
      subst e
      have := (key x.2).1 hx
      rw [hsn, hl] at this
      simp at this
    | some v =>
      rw [if_neg (by simp)]
      exact getL_some hs ((key []).2 (.inr ⟨rfl, by rw [hd]; rfl, by rw [hl]; rfl⟩))
  | none =>
    cases hsv : getL S k with
    | none =>
      have hm : getL M k = getL L k := by rw [hM, loadL, hd, hsv]; rfl
      rw [if_pos hm.symm]
      refine getL_none fun x hx e => ?_
      subst e
      have := (key x.2).1 hx
      rw [hsv, hd] at this
      simp at this
    | some v =>
      have hm : getL M k = some v := by rw [hM, loadL, hd, hsv]; rfl
      rw [hm]
      by_cases e : getL L k = some v
      · rw [if_pos e]
        refine getL_none fun x hx e2 => ?_
        subst e2
        have := (key x.2).1 hx
        rw [hsv, hd] at this
        simp at this
        exact this.2 (by rw [← this.1]; exact e)
      · rw [if_neg e]
        exact getL_some hs ((key v).2 (.inl ⟨hsv, e⟩))
/-- One change is done. -/
def ap1 (D L : Kvs) (x : Bt × Bt) : Kvs := if (getL D x.1).isSome then delL L x.1 else putL L x.1 x.2
def apL (D : Kvs) : Kvs → Kvs → Kvs
  | L, [] => L
  | L, x :: C => apL D (ap1 D L x) C
theorem ap1_srt {D L : Kvs} (h : SrtL L) (x : Bt × Bt) : SrtL (ap1 D L x) := by
  unfold ap1
  split
  · exact delL_srt h _
  · exact putL_srt h _ _
theorem apL_srt {D : Kvs} : ∀ {C L : Kvs}, SrtL L → SrtL (apL D L C)
  | [], _, h => h
  | x :: C, L, h => apL_srt (C := C) (L := ap1 D L x) (ap1_srt h x)
theorem apL_app (D : Kvs) : ∀ (L A : Kvs) (x : Bt × Bt), apL D L (A ++ [x]) = ap1 D (apL D L A) x
  | _, [], _ => rfl
  | L, y :: A, x => apL_app D (ap1 D L y) A x
theorem getL_ap1 {D L : Kvs} (x : Bt × Bt) (q : Bt) : getL (ap1 D L x) q = if x.1 = q then (if (getL D q).isSome then none else some x.2) else getL L q := by
  unfold ap1
  by_cases e : x.1 = q
  · subst e
    rw [if_pos rfl]
    split
    · rw [getL_delL, if_pos rfl]
    · rw [getL_putL, if_pos rfl]
  · rw [if_neg e]
    split
    · rw [getL_delL, if_neg e]
    · rw [getL_putL, if_neg e]
theorem getL_apL {D : Kvs} : ∀ {C L : Kvs}, SrtL C → ∀ q, getL (apL D L C) q = match getL C q with
    | none => getL L q
    | some v => if (getL D q).isSome then none else some v
  | [], L, _, q => rfl
  | x :: C, L, h, q => by
    obtain ⟨h1, h2⟩ := srt_cons h
    obtain ⟨a, b⟩ := x
    rw [apL, getL_apL h1, getL_ap1, getL]
    by_cases e : a = q
    · subst e
      rw [getL_lt h2, if_pos rfl, if_pos rfl]
    · rw [if_neg e, if_neg e]
/-- All changes are done: what was shown is there. -/
theorem apL_shown {L S D M C : Kvs} (h : Shows L S D M) (hL : SrtL L) (hC : Difs L M C) : apL D L C = M := by
  refine kvs_ext (apL_srt hL) h.srt fun k => ?_
  rw [getL_apL hC.srt, hC.get]
  unfold dif
  have hM := h.get k
  by_cases e : getL L k = getL M k
  · rw [if_pos e]
    exact e
  · rw [if_neg e]
    show (if (getL D k).isSome then none else some ((getL M k).getD [])) = getL M k
    cases hd : getL D k with
    | some u =>
      rw [hM, loadL, hd]
      rfl
    | none =>
      simp only [Option.isSome_none, Bool.false_eq_true, if_false]
      cases hm : getL M k with
      | some v => rfl
      | none =>
        exfalso
        rw [loadL, hd] at hM
        simp only [Option.isSome_none, Bool.false_eq_true, if_false] at hM
        cases hs : getL S k with
        | some v => rw [hs, hm] at hM; cases hM
        | none => rw [hs] at hM; exact e hM.symm
/-- By how many keys more. -/
def gr1 (L D : Kvs) (x : Bt × Bt) : Int := if (getL D x.1).isSome then -1 else if (getL L x.1).isSome then 0 else 1
def grN (L D : Kvs) : Kvs → Int
  | [] => 0
  | x :: C => gr1 L D x + grN L D C
theorem grN_app (L D : Kvs) : ∀ (A : Kvs) (x : Bt × Bt), grN L D (A ++ [x]) = grN L D A + gr1 L D x
  | [], x => by simp [grN]
  | y :: A, x => by rw [List.cons_append, grN, grN_app L D A x, grN]; omega
theorem gr1_bd (L D : Kvs) (x : Bt × Bt) : -1 ≤ gr1 L D x ∧ gr1 L D x ≤ 1 := by
  unfold gr1
  split
  · omega
  · split <;> omega
theorem grN_bd (L D : Kvs) : ∀ C : Kvs, -(C.length : Int) ≤ grN L D C ∧ grN L D C ≤ C.length
  | [] => by simp [grN]
  | x :: C => by
    have h1 := grN_bd L D C
    have h2 := gr1_bd L D x
    rw [grN, List.length_cons]
    omega
theorem grN_same {L L' D : Kvs} : ∀ {C : Kvs}, (∀ x ∈ C, getL L' x.1 = getL L x.1) → grN L' D C = grN L D C
  | [], _ => rfl
  | x :: C, h => by
    rw [grN, grN, grN_same fun y hy => h y (by simp [hy])]
    unfold gr1
    rw [h x (by simp)]
theorem apL_len {D : Kvs} : ∀ {C L : Kvs}, SrtL C → SrtL L → (∀ x ∈ C, (getL D x.1).isSome → (getL L x.1).isSome) → ((apL D L C).length : Int) = L.length + grN L D C
  | [], L, _, _, _ => by simp [apL, grN]
  | x :: C, L, hC, hL, hw => by
    obtain ⟨h1, h2⟩ := srt_cons hC
    have hsame : ∀ y ∈ C, getL (ap1 D L x) y.1 = getL L y.1 := fun y hy => by rw [getL_ap1, if_neg (klt_ne (h2 y hy))]
    rw [apL, apL_len h1 (ap1_srt hL x) fun y hy hd => by rw [hsame y hy]; exact hw y (by simp [hy]) hd, grN, grN_same hsame]
    have : ((ap1 D L x).length : Int) = L.length + gr1 L D x := by
      unfold ap1 gr1
      by_cases e : (getL D x.1).isSome
      · have hl := hw x (by simp) e
        have := delL_len hL x.1
        rw [if_neg (by intro h; rw [h] at hl; cases hl)] at this
        rw [if_pos e, if_pos e]
        omega
      · rw [if_neg e, if_neg e, putL_len hL]
        cases hg : getL L x.1 <;> simp
    omega
theorem difs_wiped {L S D M C : Kvs} (h : Shows L S D M) (hC : Difs L M C) : ∀ x ∈ C, (getL D x.1).isSome → (getL L x.1).isSome := by
  intro x hx hd
  have h1 := getL_some hC.srt hx
  rw [hC.get, dif] at h1
  have hm : getL M x.1 = none := by rw [h.get, loadL, if_pos hd]
  rw [hm] at h1
  cases e : getL L x.1 with
  | some v => rfl
  | none => rw [e, if_pos rfl] at h1; cases h1
theorem grow_shown {L S D M C : Kvs} (h : Shows L S D M) (hL : SrtL L) (hC : Difs L M C) : (M.length : Int) = L.length + grN L D C := by
  rw [← apL_len hC.srt hL (difs_wiped h hC), apL_shown h hL hC]
end Go.Proofs.YticihfbhnbkjjaaDoor
