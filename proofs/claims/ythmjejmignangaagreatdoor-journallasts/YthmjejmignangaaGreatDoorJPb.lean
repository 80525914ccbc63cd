/- Layer 16, plain: a journal's sectors behind a crash tell what was sure, and a beginning of what came behind. Layer 16, plain: what Append makes of a journal's sectors, and what is found when it is opened. -/
import Derived.Test.YthmjejmignangaaGreatDoorJPa
import Derived.Test.YthmjejmignangaaGreatDoorJY
import Derived.Test.YthmjejmignangaaGreatDoorJP
namespace Go.Proofs.YthmjejmignangaaGreatDoor
open Go.RowKit
def pN (cs : List Cl) : List Pb := cs.map fun c => partS c.now
def pS (cs : List Cl) : List Pb := cs.map fun c => partS c.s
/-- What a crash may make of a sector, as a part. -/
def Ch (c : Cl) (y : Pb) : Prop := y = partS c.now ∨ y = partS c.s ∨ (c.n ≠ none ∧ y.2 = false)
/-- Sector by sector. -/
def Chs (cs : List Cl) (ys : List Pb) : Prop := cs.length = ys.length ∧ ∀ j (h : j < cs.length) (h2 : j < ys.length), Ch cs[j] ys[j]
theorem Chs.drop {cs : List Cl} {ys : List Pb} (h : Chs cs ys) (k : Nat) : Chs (cs.drop k) (ys.drop k) := by
  refine ⟨by simp [h.1], fun j h1 h2 => ?_⟩
  rw [List.getElem_drop, List.getElem_drop]
  exact h.2 _ _ _
theorem prefix_mid {S M R : List Bt} (h1 : R <+: S ++ M) (h2 : S <+: R) : ∃ m, m ≤ M.length ∧ R = S ++ M.take m := by
  obtain ⟨T, rfl⟩ := h2
  have h3 := (List.prefix_append_right_inj S).1 h1
  obtain ⟨U, rfl⟩ := h3
  exact ⟨T.length, by simp, by simp⟩
theorem fol_e {p a : Prt} (h : p.fol a = true) : (a.last = true → a.e ≤ p.e) ∧ (a.last = false → p.e = a.e) := by
  unfold Prt.fol at h
  refine ⟨fun e => ?_, fun e => ?_⟩ <;> rw [e] at h <;> simp at h
  · exact h.2.2
  · exact h.2.1
/-- While a crashed row is told from a boundary on. -/
theorem kind {D : List Cl} {Y : List Pb} {s0 : TSt} {el : Int} (hY : Chs D Y)
    (olds : ∀ c ∈ D, (partS c.s).2 = true → (partS c.s).1.e < el) (news : ∀ c ∈ D, ∀ x, c.n = some x → (partS x).2 = true → el ≤ (partS x).1.e)
    (hnil : (tRun s0 (pS D)).rs = s0.rs) : ∀ k, k ≤ Y.length → tAll s0 (Y.take k) →
    (Y.take k = (pN D).take k ∧ (k = 0 ∨ el ≤ (tRun s0 (Y.take k)).ah.e)) ∨ (0 < k ∧ Y.take k = (pS D).take k ∧ (tRun s0 (Y.take k)).ah.e < el ∧ (tRun s0 (Y.take k)).ah.last = false)
  | 0, _, _ => .inl ⟨rfl, .inl rfl⟩
  | k + 1, hk, hA => by
    have hlD : D.length = Y.length := hY.1
    have hkY : k < Y.length := by omega
    have hkD : k < D.length := by omega
    have hYt : Y.take (k + 1) = Y.take k ++ [Y[k]] := by rw [List.take_add_one, List.getElem?_eq_getElem hkY]; rfl
    have hNt : (pN D).take (k + 1) = (pN D).take k ++ [partS D[k].now] := by
      rw [List.take_add_one, List.getElem?_eq_getElem (by simp [pN]; exact hkD)]; simp [pN]
    have hSt : (pS D).take (k + 1) = (pS D).take k ++ [partS D[k].s] := by
      rw [List.take_add_one, List.getElem?_eq_getElem (by simp [pS]; exact hkD)]; simp [pS]
    have hA2 := hA
    rw [hYt, tAll_append] at hA2
    obtain ⟨hAk, hok⟩ := hA2
    have hok : tOk (tRun s0 (Y.take k)) Y[k] = true := hok.1
    have hrun : tRun s0 (Y.take (k + 1)) = tNext (tRun s0 (Y.take k)) Y[k].1 := by
      rw [hYt, tRun_append _ _ _ hAk, tRun_cons, if_pos hok]; rfl
    have hah : (tRun s0 (Y.take (k + 1))).ah = Y[k].1 := by rw [hrun]; unfold tNext; split <;> rfl
    have ho2 := hok
    unfold tOk at ho2
    rw [Bool.and_eq_true] at ho2
    obtain ⟨hy2, hfo⟩ := ho2
    obtain ⟨fe1, fe2⟩ := fol_e hfo
    have hCh : Ch D[k] Y[k] := hY.2 k hkD hkY
    -- an old one, or a new one
    have hcase : (Y[k] = partS D[k].s ∧ Y[k].1.e < el) ∨ (Y[k] = partS D[k].now ∧ el ≤ Y[k].1.e) := by
      have hm : D[k] ∈ D := List.getElem_mem hkD
      have hold : Y[k] = partS D[k].s → (Y[k] = partS D[k].s ∧ Y[k].1.e < el) := fun e => ⟨e, by rw [e] at hy2 ⊢; exact olds _ hm hy2⟩
      rcases hCh with e | e | ⟨_, e⟩
      · cases hn : D[k].n with
        | none =>
          have : D[k].now = D[k].s := by unfold Cl.now; rw [hn]; rfl
          rw [this] at e
          exact .inl (hold e)
        | some x =>
          have : D[k].now = x := by unfold Cl.now; rw [hn]; rfl
          refine .inr ⟨e, ?_⟩
          rw [this] at e
          rw [e] at hy2 ⊢
          exact news _ hm x hn hy2
      · exact .inl (hold e)
      · rw [e] at hy2; cases hy2
    have hlastold : Y.take (k + 1) = (pS D).take (k + 1) → (tRun s0 (Y.take (k + 1))).ah.last = false := fun e => by
      cases hl : (tRun s0 (Y.take (k + 1))).ah.last with
      | false => rfl
      | true =>
        exfalso
        have h1 : (tRun s0 (Y.take (k + 1))).rs <+: (tRun s0 (pS D)).rs := by
          have : pS D = Y.take (k + 1) ++ (pS D).drop (k + 1) := by rw [e, List.take_append_drop]
          rw [this, tRun_append _ _ _ hA]
          exact rs_prefix _ _
        have h2 := h1.length_le
        have h3 := (rs_prefix (Y.take k) s0).length_le
        rw [hnil, hrun, tNext_rs] at h2
        rw [hah] at hl
        rw [hl] at h2
        simp at h2
        omega
    have ih := kind hY olds news hnil k (by omega) hAk
    rcases ih with ⟨e1, e2⟩ | ⟨e0, e1, e2, e3⟩
    · rcases hcase with ⟨c1, c2⟩ | ⟨c1, c2⟩
      · -- an old one: only at the beginning
        rcases e2 with e2 | e2
        · subst e2
          have e : Y.take (0 + 1) = (pS D).take (0 + 1) := by rw [hYt, hSt, c1]; rfl
          exact .inr ⟨by omega, e, by rw [hah]; exact c2, hlastold e⟩
        · exfalso
          cases hl : (tRun s0 (Y.take k)).ah.last with
          | true => have := fe1 hl; omega
          | false => have := fe2 hl; omega
      · exact .inl ⟨by rw [hYt, hNt, e1, c1], .inr (by rw [hah]; exact c2)⟩
    · have hee := fe2 e3
      rcases hcase with ⟨c1, c2⟩ | ⟨c1, c2⟩
      · have e : Y.take (k + 1) = (pS D).take (k + 1) := by rw [hYt, hSt, e1, c1]
        exact .inr ⟨by omega, e, by rw [hah]; exact c2, hlastold e⟩
      · omega
/-- A journal's cells. -/
structure JI (cs : List Cl) (g : Jn) (sure may : List Bt) (k0 : Nat) (el : Int) : Prop where
  told : (tRun tStart (pN cs)).rs = sure ++ may
  cnt : g.cnt = ((sure ++ may).length : Nat)
  en : g.en = (tRun tStart (pN cs)).en
  kc : k0 ≤ cs.length
  ke : k0 ≤ g.en.toNat
  old : ∀ j (h : j < cs.length), j < k0 → cs[j].n = none
  all : tAll tStart ((pN cs).take k0)
  sur : (tRun tStart ((pN cs).take k0)).rs = sure
  nil : (tRun (tRun tStart ((pN cs).take k0)) ((pS cs).drop k0)).rs = sure
  olds : ∀ c ∈ cs.drop k0, (partS c.s).2 = true → (partS c.s).1.e < el
  news : ∀ c ∈ cs.drop k0, ∀ x, c.n = some x → (partS x).2 = true → el ≤ (partS x).1.e
  le : ∀ c ∈ cs, (partS c.now).2 = true → (partS c.now).1.e ≤ g.ep
  lt : ∀ c ∈ cs.drop g.en.toNat, (partS c.now).2 = true → (partS c.now).1.e < g.ep
  elp : el ≤ g.ep
/-- Behind a crash. -/
theorem JI.crash {cs : List Cl} {g : Jn} {sure may : List Bt} {k0 : Nat} {el : Int} (h : JI cs g sure may k0 el) {ys : List Pb} (hy : Chs cs ys) : ∃ m, m ≤ may.length ∧ (tRun tStart ys).rs = sure ++ may.take m := by
  have hl : cs.length = ys.length := hy.1
  have h0 : ys.take k0 = (pN cs).take k0 := by
    apply List.ext_getElem
    · simp [pN]; omega
    · intro j hj1 hj2
      simp only [List.getElem_take, pN, List.getElem_map]
      have hj : j < cs.length := by simp [pN] at hj2; omega
      have hjk : j < k0 := by simp at hj1; omega
      have hn := h.old j hj hjk
      have hnow : cs[j].now = cs[j].s := by unfold Cl.now; rw [hn]; rfl
      rcases hy.2 j hj (by omega) with e | e | ⟨e, _⟩
      · exact e
      · rw [hnow]; exact e
      · exact absurd hn e
  have hsplit : tRun tStart ys = tRun (tRun tStart ((pN cs).take k0)) (ys.drop k0) := by
    conv => lhs; rw [← List.take_append_drop k0 ys, h0]
    exact tRun_append _ _ _ h.all
  have hsplitN : tRun tStart (pN cs) = tRun (tRun tStart ((pN cs).take k0)) ((pN cs).drop k0) := by
    conv => lhs; rw [← List.take_append_drop k0 (pN cs)]
    exact tRun_append _ _ _ h.all
  obtain ⟨s0, hs0⟩ : ∃ s, s = tRun tStart ((pN cs).take k0) := ⟨_, rfl⟩
  have hsu := h.sur
  have hni := h.nil
  have hto := h.told
  rw [hsplitN] at hto
  rw [← hs0] at hsplit hsu hni hto
  have hpS : (pS cs).drop k0 = pS (cs.drop k0) := by simp [pS, List.map_drop]
  have hpN : (pN cs).drop k0 = pN (cs.drop k0) := by simp [pN, List.map_drop]
  rw [hpS] at hni
  rw [hpN] at hto
  rw [hsplit]
  have hY := hy.drop k0
  obtain ⟨A, B, e1, e2, e3⟩ := eat (ys.drop k0) s0
  have hk : (ys.drop k0).take A.length = A := by rw [e1]; simp
  have hkl : A.length ≤ (ys.drop k0).length := by rw [e1]; simp
  rw [e3]
  rcases kind hY h.olds h.news (by rw [hni, hsu]) A.length hkl (by rw [hk]; exact e2) with ⟨q1, _⟩ | ⟨_, q1, _, q3⟩
  · rw [hk] at q1
    apply prefix_mid
    · rw [← hto]
      have : pN (cs.drop k0) = A ++ (pN (cs.drop k0)).drop A.length := by
        conv => rhs; rw [q1]
        rw [List.length_take]
        conv => lhs; rw [← List.take_append_drop A.length (pN (cs.drop k0))]
        congr 1
        by_cases hh : A.length ≤ (pN (cs.drop k0)).length
        · rw [Nat.min_eq_left hh]
        · rw [Nat.min_eq_right (by omega), List.drop_of_length_le (by omega), List.drop_of_length_le (by omega)]
      rw [this, tRun_append _ _ _ e2]
      exact rs_prefix _ _
    · rw [← hsu]; exact rs_prefix _ _
  · rw [hk] at q1 q3
    refine ⟨0, Nat.zero_le _, ?_⟩
    rw [List.take_zero, List.append_nil]
    have h1 : (tRun s0 A).rs <+: sure := by
      rw [← hni]
      have : pS (cs.drop k0) = A ++ (pS (cs.drop k0)).drop A.length := by
        conv => lhs; rw [← List.take_append_drop A.length (pS (cs.drop k0)), ← q1]
      rw [this, tRun_append _ _ _ e2]
      exact rs_prefix _ _
    have h2 : sure <+: (tRun s0 A).rs := by rw [← hsu]; exact rs_prefix _ _
    exact h1.eq_of_length_le h2.length_le
/-- Cells that are all sure. -/
theorem JI.flat {cs : List Cl} {g : Jn} {rs : List Bt} {el : Int} (hn : ∀ c ∈ cs, c.n = none) (ht : (tRun tStart (pN cs)).rs = rs) (hc : g.cnt = (rs.length : Nat)) (he : g.en = (tRun tStart (pN cs)).en) (hle : ∀ c ∈ cs, (partS c.now).2 = true → (partS c.now).1.e ≤ g.ep) (hlt : ∀ c ∈ cs.drop g.en.toNat, (partS c.now).2 = true → (partS c.now).1.e < el) (hel : el ≤ g.ep) : JI cs g rs [] g.en.toNat el := by
  obtain ⟨k, k1, k2, k3, k4, k5, k6, k7⟩ := tell_split (l := pN cs)
  have hS : pS cs = pN cs := by
    apply List.map_congr_left
    intro c hcm
    have : c.now = c.s := by unfold Cl.now; rw [hn c hcm]; rfl
    rw [this]
  have hk : g.en.toNat = k := by rw [he, k4]; simp
  have hlen : (pN cs).length = cs.length := by simp [pN]
  refine ⟨by rw [ht]; simp, by rw [hc]; simp, he, by omega, Nat.le_refl _, fun j h _ => hn _ (List.getElem_mem h), by rw [hk]; exact k2, by rw [hk, k3, ht], ?_, fun c hcm h2 => ?_, fun c hcm x e => ?_, hle, fun c hcm h2 => ?_, hel⟩
  · rw [hk, hS, k7, ht]
  · have hm : c ∈ cs := List.mem_of_mem_drop hcm
    have : c.now = c.s := by unfold Cl.now; rw [hn c hm]; rfl
    rw [← this] at h2 ⊢
    exact hlt c hcm h2
  · rw [hn c (List.mem_of_mem_drop hcm)] at e; cases e
  · exact Int.lt_of_lt_of_le (hlt c hcm h2) hel
/-- Behind a Sync. -/
theorem JI.sync {cs : List Cl} {g : Jn} {sure may : List Bt} {k0 : Nat} {el : Int} (h : JI cs g sure may k0 el) : JI (syncC cs) g (sure ++ may) [] g.en.toNat g.ep := by
  have hN : pN (syncC cs) = pN cs := by
    unfold pN syncC
    rw [List.map_map]
    rfl
  have hnow : ∀ c ∈ syncC cs, ∃ d ∈ cs, c = ⟨d.now, none⟩ := fun c hc => by
    obtain ⟨d, h1, h2⟩ := List.mem_map.1 hc
    exact ⟨d, h1, h2.symm⟩
  refine JI.flat (fun c hc => ?_) (by rw [hN]; exact h.told) h.cnt (by rw [hN]; exact h.en) (fun c hc h2 => ?_) (fun c hc h2 => ?_) (Int.le_refl _)
  · obtain ⟨d, _, e⟩ := hnow c hc; rw [e]
  · obtain ⟨d, hd, e⟩ := hnow c hc
    rw [e] at h2 ⊢
    exact h.le d hd h2
  · unfold syncC at hc
    rw [← List.map_drop] at hc
    obtain ⟨d, h1, e⟩ := List.mem_map.1 hc
    rw [← e] at h2 ⊢
    exact h.lt d h1 h2
/-- Sectors are written from a place on. -/
def putC (cs : List Cl) (at_ : Nat) : List Bt → List Cl
  | [] => cs
  | b :: r => putC (wrC cs at_ (fillS b)) (at_ + 1) r
theorem wrC_length (cs : List Cl) (at_ : Nat) (x : Sec) : (wrC cs at_ x).length = max cs.length (if at_ ≤ cs.length then at_ + 1 else cs.length + 1) := by
  unfold wrC
  split
  · rw [List.length_set]; split <;> omega
  · rw [List.length_append]; simp; split <;> omega
theorem wrC_get {cs : List Cl} {at_ : Nat} (x : Sec) (h : at_ ≤ cs.length) (j : Nat) : (wrC cs at_ x)[j]? = if j = at_ then some ⟨((cs[j]?).map Cl.s).getD noSec, some x⟩ else cs[j]? := by
  unfold wrC
  split
  · rename_i hl
    rw [List.getElem?_set]
    by_cases e : j = at_
    · subst e
      rw [if_pos rfl, if_pos rfl, if_pos hl, List.getElem?_eq_getElem hl]
      rfl
    · rw [if_neg (fun q => e q.symm), if_neg e]
  · have hl : at_ = cs.length := by omega
    subst hl
    by_cases e : j = cs.length
    · subst e
      rw [if_pos rfl, List.getElem?_append_right (Nat.le_refl _), Nat.sub_self, List.getElem?_eq_none (Nat.le_refl _)]
      rfl
    · rw [if_neg e]
      by_cases q : j < cs.length
      · rw [List.getElem?_append_left q]
      · rw [List.getElem?_append_right (by omega), List.getElem?_eq_none (by omega : cs.length ≤ j), List.getElem?_eq_none (by simp; omega)]
theorem putC_get : ∀ (L : List Bt) (cs : List Cl) (at_ : Nat), at_ ≤ cs.length → ∀ j, (putC cs at_ L)[j]? = if at_ ≤ j ∧ j < at_ + L.length then some ⟨((cs[j]?).map Cl.s).getD noSec, some (fillS (L.getD (j - at_) []))⟩ else cs[j]?
  | [], cs, at_, h, j => by
    rw [if_neg (by simp)]; rfl
  | b :: r, cs, at_, h, j => by
    have hl := wrC_length cs at_ (fillS b)
    rw [if_pos h] at hl
    show (putC (wrC cs at_ (fillS b)) (at_ + 1) r)[j]? = _
    rw [putC_get r _ (at_ + 1) (by omega) j, wrC_get _ h j]
    rw [List.length_cons]
    by_cases e : j = at_
    · subst e
      rw [if_neg (by omega), if_pos rfl, if_pos (by omega), Nat.sub_self]
      rfl
    · rw [if_neg e]
      by_cases q : at_ + 1 ≤ j ∧ j < at_ + 1 + r.length
      · rw [if_pos q, if_pos (by omega)]
        rw [show j - at_ = (j - (at_ + 1)) + 1 by omega, List.getD_cons_succ]
      · rw [if_neg q, if_neg (by omega)]
theorem putC_length (L : List Bt) : ∀ (cs : List Cl) (at_ : Nat), at_ ≤ cs.length → (putC cs at_ L).length = max cs.length (at_ + L.length) := by
  induction L with
  | nil => intro cs at_ h; show cs.length = _; simp; omega
  | cons b r ih =>
    intro cs at_ h
    have hl := wrC_length cs at_ (fillS b)
    rw [if_pos h] at hl
    show (putC (wrC cs at_ (fillS b)) (at_ + 1) r).length = _
    rw [ih _ _ (by omega), hl, List.length_cons]
    omega
theorem putC_now {cs : List Cl} {at_ : Nat} (L : List Bt) (h : at_ ≤ cs.length) : pN (putC cs at_ L) = (pN cs).take at_ ++ (L.map (fun x => partS (fillS x)) ++ (pN cs).drop (at_ + L.length)) := by
  apply List.ext_getElem?
  intro j
  unfold pN
  rw [List.getElem?_map, putC_get L cs at_ h j]
  by_cases q1 : j < at_
  · rw [if_neg (by omega), List.getElem?_append_left (by simp; omega), List.getElem?_take_of_lt q1, List.getElem?_map]
  · rw [List.getElem?_append_right (by simp; omega)]
    have hl : ((cs.map fun c => partS c.now).take at_).length = at_ := by simp; omega
    rw [hl]
    by_cases q2 : j < at_ + L.length
    · rw [if_pos (by omega), List.getElem?_append_left (by simp; omega), List.getElem?_map]
      have : j - at_ < L.length := by omega
      rw [List.getElem?_eq_getElem this]
      simp only [Option.map_some]
      congr 2
      show fillS (L.getD (j - at_) []) = fillS L[j - at_]
      rw [List.getD_eq_getElem?_getD, List.getElem?_eq_getElem this]
      rfl
    · rw [if_neg (by omega), List.getElem?_append_right (by simp; omega), List.getElem?_drop, List.getElem?_map]
      congr 2
      simp
      omega
end Go.Proofs.YthmjejmignangaaGreatDoor
namespace Go.Proofs.YthmjejmignangaaGreatDoor
open Go.RowKit
theorem tRun_none {l : List Pb} {s : TSt} (h : ∀ x r, l = x :: r → tOk s x = false) : tRun s l = s := by
  cases l with
  | nil => rfl
  | cons x r => rw [tRun_cons, h x r rfl]; rfl
theorem ah_mem : ∀ (l : List Pb) (s : TSt), tAll s l → (tRun s l).ah = s.ah ∨ ∃ x ∈ l, x.2 = true ∧ (tRun s l).ah = x.1
  | [], s, _ => .inl rfl
  | x :: l, s, h => by
    rw [tRun_cons, if_pos h.1]
    have ha : (tNext s x.1).ah = x.1 := by unfold tNext; split <;> rfl
    have h1 := h.1
    unfold tOk at h1
    rw [Bool.and_eq_true] at h1
    rcases ah_mem l _ h.2 with e | ⟨y, hy, e1, e2⟩
    · exact .inr ⟨x, by simp, h1.1, by rw [e, ha]⟩
    · exact .inr ⟨y, by simp [hy], e1, e2⟩
theorem mem_dropE {α : Type} {l : List α} {k : Nat} {c : α} : c ∈ l.drop k ↔ ∃ j, k ≤ j ∧ l[j]? = some c := by
  rw [List.mem_iff_getElem?]
  constructor
  · rintro ⟨i, h⟩
    rw [List.getElem?_drop] at h
    exact ⟨k + i, by omega, h⟩
  · rintro ⟨j, h1, h2⟩
    exact ⟨j - k, by rw [List.getElem?_drop, show k + (j - k) = j by omega]; exact h2⟩
theorem part_no : partS noSec = (noPrt, false) := by decide +kernel
theorem putC_sure {cs : List Cl} {at_ : Nat} (L : List Bt) (h : at_ ≤ cs.length) : pS (putC cs at_ L) = pS cs ++ List.replicate ((putC cs at_ L).length - cs.length) (partS noSec) := by
  have hl := putC_length L cs at_ h
  apply List.ext_getElem?
  intro j
  unfold pS
  rw [List.getElem?_map, putC_get L cs at_ h j]
  by_cases q : j < cs.length
  · rw [List.getElem?_append_left (by simp; exact q), List.getElem?_map, List.getElem?_eq_getElem q]
    split <;> rfl
  · rw [List.getElem?_append_right (by simp; omega), List.length_map, List.getElem?_replicate, List.getElem?_eq_none (by omega : cs.length ≤ j)]
    by_cases q2 : at_ ≤ j ∧ j < at_ + L.length
    · rw [if_pos q2, if_pos (by omega)]; rfl
    · rw [if_neg q2, if_neg (by omega)]; rfl
set_option maxHeartbeats 1000000 in
theorem JI.put {cs : List Cl} {g : Jn} {sure may : List Bt} {k0 : Nat} {el : Int} (h : JI cs g sure may k0 el) (b : Bt) (hb : b.length ≤ 176128) (he : stmpB g.ep = true) (hn : stmpB (g.cnt + 1) = true) (k : Nat) (hk : k ≤ cntS b) (wt : Bool) :
    g.en.toNat ≤ cs.length ∧ (k = cntS b → JI (putC cs g.en.toNat ((splitL g.ep (g.cnt + 1) b).take k)) ⟨g.cnt + 1, g.en + cntS b, g.ep, wt⟩ sure (may ++ [b]) k0 el) ∧
    (k < cntS b → JI (putC cs g.en.toNat ((splitL g.ep (g.cnt + 1) b).take k)) ⟨g.cnt, g.en, g.ep + 1, wt⟩ sure may k0 el) := by
  obtain ⟨e, k1, k2, k3, k4, k5, k6, k7⟩ := tell_split (l := pN cs)
  have hlen : (pN cs).length = cs.length := by simp [pN]
  have hge : g.en = (e : Int) := h.en.trans k4
  have hgt : g.en.toNat = e := by rw [hge]; simp
  have hec : e ≤ cs.length := by omega
  have hke := h.ke
  rw [hgt] at hke ⊢
  refine ⟨hec, ?_⟩
  obtain ⟨s1, hs1⟩ : ∃ s, s = tRun tStart ((pN cs).take e) := ⟨_, rfl⟩
  have hrs : s1.rs = sure ++ may := by rw [hs1, k3, h.told]
  have hsl : s1.ah.last = true := by rw [hs1]; exact k5
  have hsn : g.cnt + 1 = s1.ah.n + 1 := by
    have := (Gi.run _ Gi.start k2).2
    rw [k5] at this
    simp only [if_true] at this
    rw [h.cnt, ← hrs, hs1, this]
  have he1 : 1 ≤ g.ep := by
    unfold stmpB at he
    simp only [Bool.and_eq_true, decide_eq_true_eq] at he
    exact he.1
  have hse : s1.ah.e ≤ g.ep := by
    rcases ah_mem _ _ k2 with q | ⟨x, hx, q1, q2⟩
    · rw [hs1, q]; show (0 : Int) ≤ _; omega
    · rw [hs1, q2]
      have hx2 := List.mem_of_mem_take hx
      unfold pN at hx2
      obtain ⟨c, hc, rfl⟩ := List.mem_map.1 hx2
      exact h.le c hc q1
  obtain ⟨L, hL⟩ : ∃ L, L = (splitL g.ep (g.cnt + 1) b).take k := ⟨_, rfl⟩
  have hLl : L.length = k := by rw [hL, List.length_take, splitL_length]; omega
  have hLp : L.map (fun x => partS (fillS x)) = (recP g.ep (g.cnt + 1) b).take k := by rw [hL, List.map_take, rec_parts _ _ _ he hn hb]
  have hget : ∀ i (hi : i < k), partS (fillS (L.getD i [])) = (recPt g.ep (g.cnt + 1) b i, true) := fun i hi => by
    have h1 : (L.map fun x => partS (fillS x))[i]? = some (partS (fillS (L.getD i []))) := by
      rw [List.getElem?_map, List.getD_eq_getElem?_getD, List.getElem?_eq_getElem (by omega)]; rfl
    rw [hLp, List.getElem?_take_of_lt hi] at h1
    unfold recP at h1
    rw [List.getElem?_map, List.getElem?_range (by omega)] at h1
    exact (Option.some.inj h1).symm
  rw [← hL]
  have hpn := putC_now L hec
  rw [hLp, hLl] at hpn
  obtain ⟨r1, r2⟩ := rec_run s1 g.ep (g.cnt + 1) b hsl hsn hse k hk
  -- what stands behind
  have hstop : 0 < k → tRun (recSt s1 g.ep (g.cnt + 1) b k) ((pN cs).drop (e + k)) = recSt s1 g.ep (g.cnt + 1) b k := fun h0 => tRun_none fun x r hx => by
    have hm : x ∈ (pN cs).drop (e + k) := by rw [hx]; simp
    unfold pN at hm
    rw [← List.map_drop] at hm
    obtain ⟨c, hc, rfl⟩ := List.mem_map.1 hm
    obtain ⟨j, hj1, hj2⟩ := mem_dropE.1 hc
    have hc2 : c ∈ cs.drop g.en.toNat := mem_dropE.2 ⟨j, by omega, hj2⟩
    cases ho : tOk (recSt s1 g.ep (g.cnt + 1) b k) (partS c.now) with
    | false => rfl
    | true =>
      exfalso
      unfold tOk at ho
      rw [Bool.and_eq_true] at ho
      have hlt := h.lt c hc2 ho.1
      have hae : (recSt s1 g.ep (g.cnt + 1) b k).ah.e = g.ep := by unfold recSt; rw [if_neg (by omega)]; rfl
      obtain ⟨f1, f2⟩ := fol_e ho.2
      rw [hae] at f1 f2
      cases q : (recSt s1 g.ep (g.cnt + 1) b k).ah.last with
      | true => have := f1 q; omega
      | false => have := f2 q; omega
  have hrun : tRun tStart (pN (putC cs e L)) = tRun (recSt s1 g.ep (g.cnt + 1) b k) ((pN cs).drop (e + k)) := by
    rw [hpn, tRun_append _ _ _ k2, ← hs1, tRun_append _ _ _ r1, r2]
  have hpl := putC_length L cs e hec
  have hps := putC_sure L hec
  have htk : (pN (putC cs e L)).take k0 = (pN cs).take k0 := by
    rw [hpn, List.take_append_of_le_length (by simp; omega), List.take_take, Nat.min_eq_left hke]
  have hcell : ∀ j c, (putC cs e L)[j]? = some c → (cs[j]? = some c ∧ ¬ (e ≤ j ∧ j < e + k)) ∨ ((e ≤ j ∧ j < e + k) ∧ c.s = ((cs[j]?).map Cl.s).getD noSec ∧ c.n = some (fillS (L.getD (j - e) []))) := fun j c hc => by
    rw [putC_get L cs e hec j, hLl] at hc
    by_cases q : e ≤ j ∧ j < e + k
    · rw [if_pos q] at hc
      have := Option.some.inj hc
      subst this
      exact .inr ⟨q, rfl, rfl⟩
    · rw [if_neg q] at hc
      exact .inl ⟨hc, q⟩
  have hold : ∀ j (hj : j < (putC cs e L).length), j < k0 → (putC cs e L)[j].n = none := fun j hj hjk => by
    rcases hcell j _ (List.getElem?_eq_getElem hj) with ⟨q, _⟩ | ⟨q, _⟩
    · have hj2 : j < cs.length := by omega
      rw [List.getElem?_eq_getElem hj2] at q
      rw [← Option.some.inj q]
      exact h.old j hj2 hjk
    · omega
  have hnil : (tRun (tRun tStart ((pN cs).take k0)) ((pS (putC cs e L)).drop k0)).rs = sure := by
    rw [hps, List.drop_append_of_le_length (by simp [pS]; exact h.kc), tRun_bad _ _ _ (fun x hx => by rw [List.eq_of_mem_replicate hx, part_no])]
    exact h.nil
  have holds : ∀ c ∈ (putC cs e L).drop k0, (partS c.s).2 = true → (partS c.s).1.e < el := fun c hc h2 => by
    obtain ⟨j, hj1, hj2⟩ := mem_dropE.1 hc
    rcases hcell j c hj2 with ⟨q, _⟩ | ⟨_, q, _⟩
    · exact h.olds c (mem_dropE.2 ⟨j, hj1, q⟩) h2
    · cases hcj : cs[j]? with
      | none =>
        rw [hcj] at q
        have : c.s = noSec := q
        rw [this, part_no] at h2
        cases h2
      | some c' =>
        rw [hcj] at q
        have : c.s = c'.s := q
        rw [this] at h2 ⊢
        exact h.olds c' (mem_dropE.2 ⟨j, hj1, hcj⟩) h2
  have hnews : ∀ c ∈ (putC cs e L).drop k0, ∀ x, c.n = some x → (partS x).2 = true → el ≤ (partS x).1.e := fun c hc x hx h2 => by
    obtain ⟨j, hj1, hj2⟩ := mem_dropE.1 hc
    rcases hcell j c hj2 with ⟨q, _⟩ | ⟨q0, _, q⟩
    · exact h.news c (mem_dropE.2 ⟨j, hj1, q⟩) x hx h2
    · rw [q] at hx
      rw [← Option.some.inj hx, hget _ (by omega)]
      exact h.elp
  have hle : ∀ c ∈ putC cs e L, (partS c.now).2 = true → (partS c.now).1.e ≤ g.ep := fun c hc h2 => by
    obtain ⟨j, hj2⟩ := List.mem_iff_getElem?.1 hc
    rcases hcell j c hj2 with ⟨q, _⟩ | ⟨q0, _, q⟩
    · exact h.le c (List.mem_iff_getElem?.2 ⟨j, q⟩) h2
    · have : c.now = fillS (L.getD (j - e) []) := by unfold Cl.now; rw [q]; rfl
      rw [this, hget _ (by omega)]
      exact Int.le_refl _
  have hkl : k0 ≤ (putC cs e L).length := by have := h.kc; omega
  refine ⟨fun hkc => ?_, fun hkc => ?_⟩
  · have h0 : 0 < k := by have := (cntS_pos b).1; omega
    have hfin : tRun tStart (pN (putC cs e L)) = recSt s1 g.ep (g.cnt + 1) b k := by rw [hrun, hstop h0]
    have hrr : (recSt s1 g.ep (g.cnt + 1) b k).rs = s1.rs ++ [b] ∧ (recSt s1 g.ep (g.cnt + 1) b k).en = s1.en + cntS b := by
      unfold recSt
      rw [if_neg (by omega), if_pos hkc, if_pos hkc]
      exact ⟨rfl, rfl⟩
    refine ⟨by rw [hfin, hrr.1, hrs, List.append_assoc], ?_, ?_, hkl, ?_, hold, by rw [htk]; exact h.all, by rw [htk]; exact h.sur, by rw [htk]; exact hnil, holds, hnews, hle, fun c hc h2 => ?_, h.elp⟩
    · show g.cnt + 1 = _
      rw [h.cnt]; simp; omega
    · show g.en + cntS b = _
      rw [hfin, hrr.2, hs1, k6, hge]
    · show k0 ≤ (g.en + cntS b).toNat
      omega
    · have hc' : c ∈ (putC cs e L).drop (g.en + cntS b).toNat := hc
      obtain ⟨j, hj1, hj2⟩ := mem_dropE.1 hc'
      rcases hcell j c hj2 with ⟨q, _⟩ | ⟨q0, _, q⟩
      · exact h.lt c (mem_dropE.2 ⟨j, by omega, q⟩) h2
      · omega
  · have hfin : (tRun tStart (pN (putC cs e L))).rs = s1.rs ∧ (tRun tStart (pN (putC cs e L))).en = s1.en := by
      rw [hrun]
      by_cases h0 : k = 0
      · subst h0
        have e0 : recSt s1 g.ep (g.cnt + 1) b 0 = s1 := rfl
        rw [e0, Nat.add_zero]
        refine ⟨by rw [hs1, k7, k3], ?_⟩
        rw [hs1, ← tRun_append _ _ _ k2, List.take_append_drop, k4, k6]
      · rw [hstop (by omega)]
        unfold recSt
        rw [if_neg h0, if_neg (by omega), if_neg (by omega)]
        exact ⟨rfl, rfl⟩
    refine ⟨by rw [hfin.1, hrs], h.cnt, ?_, hkl, by show k0 ≤ g.en.toNat; omega, hold, by rw [htk]; exact h.all, by rw [htk]; exact h.sur, by rw [htk]; exact hnil, holds, hnews, fun c hc h2 => ?_, fun c hc h2 => ?_, by show el ≤ g.ep + 1; have := h.elp; omega⟩
    · show g.en = _
      rw [hfin.2, hs1, k6, hge]
    · show _ ≤ g.ep + 1
      have := hle c hc h2
      omega
    · show _ < g.ep + 1
      have := hle c (List.mem_of_mem_drop hc) h2
      omega
theorem mostE_ge (l : List Pb) : ∀ x ∈ l, x.2 = true → x.1.e ≤ mostE l := by
  have key : ∀ (l : List Pb) (m : Int), m ≤ l.foldl (fun m x => if x.2 then max m x.1.e else m) m ∧ ∀ x ∈ l, x.2 = true → x.1.e ≤ l.foldl (fun m x => if x.2 then max m x.1.e else m) m := by
    intro l
    induction l with
    | nil => intro m; exact ⟨Int.le_refl _, fun x hx => by simp at hx⟩
    | cons y l ih =>
      intro m
      rw [List.foldl_cons]
      obtain ⟨h1, h2⟩ := ih (if y.2 then max m y.1.e else m)
      have h3 : m ≤ (if y.2 then max m y.1.e else m) := by split <;> omega
      refine ⟨by omega, fun x hx hx2 => ?_⟩
      rcases List.mem_cons.1 hx with rfl | hx
      · rw [if_pos hx2] at h1 ⊢
        omega
      · exact h2 x hx hx2
  exact (key l 0).2
theorem mostE_bd (l : List Pb) (E : Int) (h0 : 0 ≤ E) (h : ∀ x ∈ l, x.2 = true → x.1.e ≤ E) : mostE l ≤ E := by
  have key : ∀ (l : List Pb) (m : Int), m ≤ E → (∀ x ∈ l, x.2 = true → x.1.e ≤ E) → l.foldl (fun m x => if x.2 then max m x.1.e else m) m ≤ E := by
    intro l
    induction l with
    | nil => intro m hm _; exact hm
    | cons y l ih =>
      intro m hm hx
      rw [List.foldl_cons]
      refine ih _ ?_ fun x h2 => hx x (List.mem_cons_of_mem _ h2)
      split
      · rename_i h2
        exact Int.max_le.2 ⟨hm, hx y (by simp) h2⟩
      · exact hm
  exact key l 0 h0 h
/-- Opened: all that is told is sure. -/
theorem JI.opened {cs : List Cl} (g : Jn) (hg : g = ⟨(tRun tStart (pN cs)).rs.length, (tRun tStart (pN cs)).en, mostE (pN cs) + 1, false⟩) : JI (syncC cs) g (tRun tStart (pN cs)).rs [] g.en.toNat (mostE (pN cs) + 1) := by
  have hN : pN (syncC cs) = pN cs := by
    unfold pN syncC
    rw [List.map_map]
    rfl
  have hlt : ∀ c ∈ syncC cs, (partS c.now).2 = true → (partS c.now).1.e < mostE (pN cs) + 1 := fun c hc h2 => by
    have hm : partS c.now ∈ pN cs := by rw [← hN]; exact List.mem_map.2 ⟨c, hc, rfl⟩
    have := mostE_ge (pN cs) _ hm h2
    omega
  refine JI.flat (fun c hc => ?_) (by rw [hN]) (by rw [hg]) (by rw [hN, hg]) (fun c hc h2 => ?_) (fun c hc h2 => hlt c (List.mem_of_mem_drop hc) h2) (by rw [hg]; exact Int.le_refl _)
  · obtain ⟨d, _, e⟩ := List.mem_map.1 hc
    rw [← e]
  · have := hlt c hc h2
    rw [hg]
    show _ ≤ mostE (pN cs) + 1
    omega
end Go.Proofs.YthmjejmignangaaGreatDoor
