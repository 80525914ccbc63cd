/- Where instructions of good shape lead: plain facts. -/
import Derived.Test.YtodagpmcmjleaaaGreatSJ
namespace Go.Proofs.YtodagpmcmjleaaaGreat
theorem gset (ms : List Int) (i j : Nat) (v : Int) (hj : j < ms.length) : (ms.set i v).getD j 0 = if i = j then v else ms.getD j 0 := by
  rw [List.getD_eq_getElem?_getD, List.getElem?_set]
  split
  · rename_i h
    subst h
    rw [if_pos hj]
    rfl
  · rw [← List.getD_eq_getElem?_getD]
structure Inv (op : Nat → Int) (k : Nat) (L : List Blk) (ms : List Int) : Prop where
  blk : ∀ b ∈ L, ∃ s : Nat, b.s = s ∧ s < k ∧ op s = (if b.l = true then 51 else 48) ∧ (b.o = -1 ∨ ∃ o : Nat, b.o = o ∧ s < o ∧ o < k ∧ op o = 49 ∧ b.l = false)
  ends : ∀ j, j < k → op j = 50 → 0 ≤ ms.getD j 0 ∧ ms.getD j 0 < j
  opn : ∀ j, j < k → (op j = 48 ∨ op j = 49 ∨ op j = 51) → (∃ b ∈ L, b.s = j ∨ b.o = j) ∨ ((j : Int) < ms.getD j 0 ∧ ms.getD j 0 < k)
  lev : ∀ j, j < k → op j = 52 → ∃ s : Nat, ms.getD j 0 = s ∧ s < j ∧ op s = 51 ∧ ((∃ b ∈ L, b.s = s) ∨ (j : Int) < ms.getD s 0)
theorem Inv.more {op : Nat → Int} {k : Nat} {L L' : List Blk} {ms : List Int} (h : Inv op k L ms) (hk : op k ≠ 50 ∧ op k ≠ 52) (hb : ∀ b ∈ L', ∃ s : Nat, b.s = s ∧ s < k + 1 ∧ op s = (if b.l = true then 51 else 48) ∧ (b.o = -1 ∨ ∃ o : Nat, b.o = o ∧ s < o ∧ o < k + 1 ∧ op o = 49 ∧ b.l = false))
    (hp : ∀ b ∈ L, ∃ b' ∈ L', b'.s = b.s ∧ (b.o = -1 ∨ b'.o = b.o)) (hn : (op k = 48 ∨ op k = 49 ∨ op k = 51) → ∃ b ∈ L', b.s = k ∨ b.o = k) : Inv op (k + 1) L' ms := by
  refine ⟨hb, fun j hj e => ?_, fun j hj e => ?_, fun j hj e => ?_⟩
  · by_cases h1 : j = k
    · subst h1; exact absurd e hk.1
    · exact h.ends j (by omega) e
  · by_cases h1 : j = k
    · subst h1; exact .inl (hn e)
    · rcases h.opn j (by omega) e with ⟨b, hb1, hb2⟩ | ⟨h2, h3⟩
      · obtain ⟨b', c1, c2, c3⟩ := hp b hb1
        refine .inl ⟨b', c1, ?_⟩
        rcases hb2 with h | h
        · exact .inl (c2.trans h)
        · rcases c3 with c3 | c3
          · omega
          · exact .inr (c3.trans h)
      · exact .inr ⟨h2, by omega⟩
  · by_cases h1 : j = k
    · subst h1; exact absurd e hk.2
    · obtain ⟨s, a1, a2, a3, a4⟩ := h.lev j (by omega) e
      refine ⟨s, a1, a2, a3, ?_⟩
      rcases a4 with ⟨b, hb1, hb2⟩ | a4
      · obtain ⟨b', c1, c2, _⟩ := hp b hb1
        exact .inl ⟨b', c1, c2.trans hb2⟩
      · exact .inr a4
theorem Inv.leave {op : Nat → Int} {k i : Nat} {L : List Blk} {ms : List Int} {b : Blk} (h : Inv op k L ms) (hk : op k = 52) (hl : k < ms.length) (hb : L[i]? = some b) (hbl : b.l = true) : Inv op (k + 1) L (ms.set k b.s) := by
  obtain ⟨s, e1, e2, e3, _⟩ := h.blk b (List.mem_of_getElem? hb)
  rw [if_pos hbl] at e3
  refine ⟨fun c hc => ?_, fun j hj e => ?_, fun j hj e => ?_, fun j hj e => ?_⟩
  · obtain ⟨s, a1, a2, a3, a4⟩ := h.blk c hc
    refine ⟨s, a1, by omega, a3, ?_⟩
    rcases a4 with a4 | ⟨o, b1, b2, b3, b4, b5⟩
    · exact .inl a4
    · exact .inr ⟨o, b1, b2, by omega, b4, b5⟩
  · have h1 : j ≠ k := by rintro rfl; omega
    rw [gset _ _ _ _ (by omega), if_neg (by omega)]
    exact h.ends j (by omega) e
  · have h1 : j ≠ k := by rintro rfl; omega
    rw [gset _ _ _ _ (by omega), if_neg (by omega)]
    rcases h.opn j (by omega) e with a | ⟨a, a'⟩
    · exact .inl a
    · exact .inr ⟨a, by omega⟩
  · by_cases h1 : j = k
    · subst h1
      rw [gset _ _ _ _ hl, if_pos rfl]
      exact ⟨s, e1, e2, e3, .inl ⟨b, List.mem_of_getElem? hb, e1⟩⟩
    · obtain ⟨s', a1, a2, a3, a4⟩ := h.lev j (by omega) e
      rw [gset _ _ _ _ (by omega), if_neg (by omega)]
      refine ⟨s', a1, a2, a3, ?_⟩
      rw [gset _ _ _ _ (by omega), if_neg (by omega)]
      exact a4
theorem pair_get {ms : List Int} {s t j : Nat} {o : Option Nat} (hj : j < ms.length) (hst : s ≠ t) (ho : ∀ x, o = some x → x ≠ s ∧ x ≠ t) : (pairS ms s o t).getD j 0 = if j = t then (s : Int) else if j = s then ((o.getD t : Nat) : Int) else if some j = o then (t : Int) else ms.getD j 0 := by
  cases o with
  | none =>
    simp only [pairS]
    rw [gset _ _ _ _ (by simpa using hj), gset _ _ _ _ hj]
    by_cases h1 : j = t
    · subst h1; simp
    · rw [if_neg (fun h => h1 h.symm), if_neg h1]
      by_cases h2 : j = s
      · subst h2; simp
      · rw [if_neg (fun h => h2 h.symm), if_neg h2]; simp
  | some x =>
    obtain ⟨x1, x2⟩ := ho x rfl
    simp only [pairS]
    rw [gset _ _ _ _ (by simpa using hj), gset _ _ _ _ (by simpa using hj), gset _ _ _ _ (by simpa using hj), gset _ _ _ _ hj]
    by_cases h1 : j = t
    · subst h1
      rw [if_neg x2, if_neg hst, if_pos rfl, if_pos rfl]
    · by_cases h2 : j = s
      · subst h2
        rw [if_neg x1, if_pos rfl, if_neg h1, if_pos rfl]; rfl
      · by_cases h3 : x = j
        · subst h3
          rw [if_pos rfl, if_neg h1, if_neg h2, if_pos rfl]
        · rw [if_neg h3, if_neg (fun h => h2 h.symm), if_neg (fun h => h1 h.symm), if_neg (fun h => h2 h.symm), if_neg h1, if_neg h2, if_neg (fun h => h3 (Option.some.inj h).symm)]
theorem Inv.close {op : Nat → Int} {k : Nat} {M : List Blk} {ms : List Int} {b : Blk} (h : Inv op k (M ++ [b]) ms) (hk : op k = 50) (hl : k < ms.length) : Inv op (k + 1) M (pairS ms b.s.toNat (oOf b.o) k) := by
  obtain ⟨s, e1, e2, e3, e4⟩ := h.blk b (by simp)
  have es : b.s.toNat = s := by omega
  rw [es]
  have ho : ∀ x, oOf b.o = some x → s < x ∧ x < k ∧ op x = 49 ∧ b.l = false := by
    intro x hx
    rcases e4 with e4 | ⟨o, a1, a2, a3, a4, a5⟩
    · rw [oOf, if_pos e4] at hx; cases hx
    · rw [oOf, if_neg (by omega)] at hx
      have : o = x := by have := Option.some.inj hx; omega
      subst this
      exact ⟨a2, a3, a4, a5⟩
  clear e4
  have hg : ∀ j, j < k + 1 → (pairS ms s (oOf b.o) k).getD j 0 = if j = k then (s : Int) else if j = s then (((oOf b.o).getD k : Nat) : Int) else if some j = oOf b.o then (k : Int) else ms.getD j 0 := fun j hj => pair_get (by omega) (by omega) (fun x hx => by have := ho x hx; omega)
  have hsop : op s = 48 ∨ op s = 51 := by
    rw [e3]; split
    · exact .inr rfl
    · exact .inl rfl
  have hod : s < (oOf b.o).getD k ∧ (oOf b.o).getD k < k + 1 := by
    cases hx : oOf b.o with
    | none => exact ⟨e2, Nat.lt_succ_self _⟩
    | some x => have := ho x hx; simp; omega
  refine ⟨fun c hc => ?_, fun j hj e => ?_, fun j hj e => ?_, fun j hj e => ?_⟩
  · obtain ⟨s, a1, a2, a3, a4⟩ := h.blk c (by simp [hc])
    refine ⟨s, a1, by omega, a3, ?_⟩
    rcases a4 with a4 | ⟨o, b1, b2, b3, b4, b5⟩
    · exact .inl a4
    · exact .inr ⟨o, b1, b2, by omega, b4, b5⟩
  · rw [hg j hj]
    by_cases h1 : j = k
    · subst h1
      rw [if_pos rfl]; omega
    · have h2 : j ≠ s := by rintro rfl; omega
      have h3 : ¬ some j = oOf b.o := fun h => by have := ho j h.symm; omega
      rw [if_neg h1, if_neg h2, if_neg h3]
      exact h.ends j (by omega) e
  · have h1 : j ≠ k := by rintro rfl; omega
    rw [hg j hj, if_neg h1]
    by_cases h2 : j = s
    · subst h2
      rw [if_pos rfl]
      exact .inr ⟨by omega, by omega⟩
    · rw [if_neg h2]
      by_cases h3 : some j = oOf b.o
      · rw [if_pos h3]
        exact .inr ⟨by omega, by omega⟩
      · rw [if_neg h3]
        rcases h.opn j (by omega) e with ⟨c, c1, c2⟩ | ⟨a, a'⟩
        · rcases List.mem_append.1 c1 with c1 | c1
          · exact .inl ⟨c, c1, c2⟩
          · simp at c1
            subst c1
            rcases c2 with c2 | c2
            · exact absurd (Int.ofNat_inj.1 (c2.symm.trans e1)) h2
            · exact absurd (by rw [oOf, if_neg (by omega), c2]; simp) h3
        · exact .inr ⟨a, by omega⟩
  · have h1 : j ≠ k := by rintro rfl; omega
    have h2 : j ≠ s := by rintro rfl; omega
    have h3 : ¬ some j = oOf b.o := fun h => by have := ho j h.symm; omega
    obtain ⟨s', a1, a2, a3, a4⟩ := h.lev j (by omega) e
    rw [hg j hj, if_neg h1, if_neg h2, if_neg h3]
    refine ⟨s', a1, a2, a3, ?_⟩
    have g1 : s' ≠ k := by omega
    have g3 : ¬ some s' = oOf b.o := fun h => by have := ho s' h.symm; omega
    rw [hg s' (by omega), if_neg g1, if_neg g3]
    by_cases g2 : s' = s
    · subst g2
      rw [if_pos rfl]
      have hbl : b.l = true := by
        cases hb : b.l with
        | true => rfl
        | false => rw [hb] at e3; simp at e3; omega
      have : oOf b.o = none := by
        cases hx : oOf b.o with
        | none => rfl
        | some x => have := (ho x hx).2.2.2; rw [hbl] at this; cases this
      rw [this]
      clear a4
      exact .inr (by simp; omega)
    · rw [if_neg g2]
      rcases a4 with ⟨c, c1, c2⟩ | a4
      · rcases List.mem_append.1 c1 with c1 | c1
        · exact .inl ⟨c, c1, c2⟩
        · simp at c1
          subst c1
          exact absurd (Int.ofNat_inj.1 (c2.symm.trans e1)) g2
      · exact .inr a4
def opA (cs : List (Int × Int)) (j : Nat) : Int := (opsI cs).getD j 0
theorem Inv.blkS {op : Nat → Int} {k : Nat} {L : List Blk} {ms : List Int} (h : Inv op k L ms) : ∀ b ∈ L, ∃ s : Nat, b.s = s ∧ s < k + 1 ∧ op s = (if b.l = true then 51 else 48) ∧ (b.o = -1 ∨ ∃ o : Nat, b.o = o ∧ s < o ∧ o < k + 1 ∧ op o = 49 ∧ b.l = false) := by
  intro c hc
  obtain ⟨s, a1, a2, a3, a4⟩ := h.blk c hc
  refine ⟨s, a1, by omega, a3, ?_⟩
  rcases a4 with a4 | ⟨o, b1, b2, b3, b4, b5⟩
  · exact .inl a4
  · exact .inr ⟨o, b1, b2, by omega, b4, b5⟩
theorem Inv.next {op : Nat → Int} {k : Nat} {L : List Blk} {ms : List Int} (h : Inv op k L ms) (hs : standS (op k) L = true) (hl : k < ms.length) : Inv op (k + 1) (stepS (op k) k L) (visS (op k) k L ms) := by
  by_cases h1 : op k = 48 ∨ op k = 51
  · have e1 : stepS (op k) k L = L ++ [⟨k, -1, decide (op k = 51)⟩] := by simp only [stepS, if_pos h1]
    have e2 : visS (op k) k L ms = ms := by simp only [visS]; rw [if_neg (by omega), if_neg (by omega)]
    rw [e1, e2]
    refine h.more ⟨by omega, by omega⟩ ?_ (fun b hb => ⟨b, by simp [hb], rfl, .inr rfl⟩) (fun _ => ⟨_, List.mem_append_right _ (List.mem_singleton.2 rfl), .inl rfl⟩)
    intro b hb
    rcases List.mem_append.1 hb with hb | hb
    · exact h.blkS b hb
    · simp at hb
      subst hb
      refine ⟨k, rfl, Nat.lt_succ_self _, ?_, .inl rfl⟩
      rcases h1 with h1 | h1 <;> simp [h1]
  by_cases h2 : op k = 49
  · rcases List.eq_nil_or_concat L with rfl | ⟨M, b, rfl⟩
    · simp [standS, h2] at hs
    rw [List.concat_eq_append] at h hs ⊢
    rw [h2] at hs ⊢
    have e1 : stepS 49 k (M ++ [b]) = M ++ [⟨b.s, k, b.l⟩] := by simp [stepS]
    have e2 : visS 49 k (M ++ [b]) ms = ms := by simp [visS]
    have hb1 : b.l = false ∧ b.o = -1 := by simpa [standS] using hs
    rw [e1, e2]
    refine h.more ⟨by omega, by omega⟩ ?_ ?_ (fun _ => ⟨_, List.mem_append_right _ (List.mem_singleton.2 rfl), .inr rfl⟩)
    · intro c hc
      rcases List.mem_append.1 hc with hc | hc
      · exact h.blkS c (by simp [hc])
      · simp at hc
        subst hc
        obtain ⟨s, a1, a2, a3, _⟩ := h.blk b (by simp)
        exact ⟨s, a1, by omega, a3, .inr ⟨k, rfl, a2, Nat.lt_succ_self _, h2, hb1.1⟩⟩
    · intro c hc
      rcases List.mem_append.1 hc with hc | hc
      · exact ⟨c, by simp [hc], rfl, .inr rfl⟩
      · simp at hc
        subst hc
        exact ⟨_, List.mem_append_right _ (List.mem_singleton.2 rfl), rfl, .inl hb1.2⟩
  by_cases h3 : op k = 50
  · rcases List.eq_nil_or_concat L with rfl | ⟨M, b, rfl⟩
    · simp [standS, h3] at hs
    rw [List.concat_eq_append] at h hs ⊢
    have e1 : stepS (op k) k (M ++ [b]) = M := by rw [h3]; simp [stepS]
    have e2 : visS (op k) k (M ++ [b]) ms = pairS ms b.s.toNat (oOf b.o) k := by rw [h3]; simp [visS]
    rw [e1, e2]
    exact h.close h3 hl
  have e1 : stepS (op k) k L = L := by simp only [stepS, if_neg h1, if_neg h2, if_neg h3]
  rw [e1]
  by_cases h4 : op k = 52
  · have hsome : (firstIx L Blk.l L.length).isSome = true := by rw [h4] at hs; simpa [standS] using hs
    obtain ⟨i, hi⟩ := Option.isSome_iff_exists.1 hsome
    obtain ⟨_, b, hb, hbl⟩ := firstIx_lt hi
    have e2 : visS (op k) k L ms = ms.set k b.s := by rw [h4]; simp [visS, hi, hb]
    rw [e2]
    exact h.leave h4 hl hb hbl
  · have e2 : visS (op k) k L ms = ms := by simp only [visS, if_neg h3, if_neg h4]
    rw [e2]
    exact h.more ⟨h3, h4⟩ h.blkS (fun b hb => ⟨b, hb, rfl, .inr rfl⟩) (fun e => by omega)
theorem inv_all (cs : List (Int × Int)) : ∀ k L, k ≤ cs.length → runS (opsI (cs.take k)) 0 [] = some L → Inv (opA cs) k L (mst cs k).2
  | 0, L, _, h => by
    simp [opsI, runS] at h
    subst h
    exact ⟨fun b hb => (by cases hb), fun j h => (by omega), fun j h => (by omega), fun j h => (by omega)⟩
  | k + 1, L', hk, h => by
    obtain ⟨L, h1, hs, rfl⟩ := run_prev (by omega) h
    obtain ⟨i1, _, _⟩ := mst_inv cs k L (by omega) h1
    have hop := ops_at (cs := cs) (k := k) (by omega)
    have hop2 : opA cs k = cs[k].1 := hop
    have := (inv_all cs k L (by omega) h1).next (by rw [hop2]; exact hs) (by rw [mst_len]; omega)
    simp only [mst]
    rw [i1]
    rw [hop2] at this
    rw [hop]
    exact this
theorem lead_get (ops ms : List Int) (hm : ∀ j, ops[j]? = some 52 → ops[(ms.getD j 0).toNat]? ≠ some 52) (hlen : ms.length = ops.length) : ∀ k j, k ≤ ops.length → (leadS ops ms k).getD j 0 = if j < k ∧ ops[j]? = some 52 then ms.getD (ms.getD j 0).toNat 0 else ms.getD j 0
  | 0, j, _ => by rw [if_neg (by omega)]; rfl
  | k + 1, j, hk => by
    have ih := lead_get ops ms hm hlen k
    simp only [leadS]
    split
    · rename_i hop
      by_cases h1 : j = k
      · subst h1
        rw [gset _ _ _ _ (by rw [leadS_len]; omega), if_pos rfl, if_pos ⟨Nat.lt_succ_self _, hop⟩]
        rw [leadS_same ops ms j j (Nat.le_refl _), ih _ (by omega), if_neg (fun h => hm j hop h.2)]
      · rw [List.getD_eq_getElem?_getD, List.getElem?_set_ne (by omega), ← List.getD_eq_getElem?_getD, ih j (by omega)]
        by_cases h2 : j < k
        · by_cases h3 : ops[j]? = some 52
          · rw [if_pos ⟨h2, h3⟩, if_pos ⟨by omega, h3⟩]
          · rw [if_neg (fun h => h3 h.2), if_neg (fun h => h3 h.2)]
        · rw [if_neg (by omega), if_neg (by omega)]
    · rename_i hop
      rw [ih j (by omega)]
      by_cases h3 : ops[j]? = some 52
      · have : j ≠ k := by rintro rfl; exact hop h3
        by_cases h2 : j < k
        · rw [if_pos ⟨h2, h3⟩, if_pos ⟨by omega, h3⟩]
        · rw [if_neg (by omega), if_neg (by omega)]
      · rw [if_neg (fun h => h3 h.2), if_neg (fun h => h3 h.2)]
theorem opsI_len (cs : List (Int × Int)) : (opsI cs).length = cs.length := by simp [opsI]
theorem ops_some {cs : List (Int × Int)} {j : Nat} (hj : j < cs.length) : (opsI cs)[j]? = some (opA cs j) := by
  rw [opA, List.getD_eq_getElem?_getD, List.getElem?_eq_getElem (by rw [opsI_len]; exact hj)]
  rfl
/-- Where an instruction of good shape leads. -/
theorem match_facts {cs : List (Int × Int)} (hg : goodS cs = true) {j : Nat} (hj : j < cs.length) :
    (opA cs j = 50 → 0 ≤ (matchS cs).getD j 0 ∧ (matchS cs).getD j 0 < j) ∧ ((opA cs j = 48 ∨ opA cs j = 49 ∨ opA cs j = 51 ∨ opA cs j = 52) → (j : Int) < (matchS cs).getD j 0 ∧ (matchS cs).getD j 0 < cs.length) := by
  have hrun : runS (opsI (cs.take cs.length)) 0 [] = some [] := by rw [List.take_length]; exact of_decide_eq_true hg
  have I := inv_all cs cs.length [] (Nat.le_refl _) hrun
  have hfwd : ∀ i, i < cs.length → (opA cs i = 48 ∨ opA cs i = 49 ∨ opA cs i = 51) → (i : Int) < (mst cs cs.length).2.getD i 0 ∧ (mst cs cs.length).2.getD i 0 < cs.length := by
    intro i hi e
    rcases I.opn i hi e with ⟨b, hb, _⟩ | h
    · cases hb
    · exact h
  have hlev : ∀ i, i < cs.length → opA cs i = 52 → ∃ s : Nat, (mst cs cs.length).2.getD i 0 = s ∧ s < i ∧ opA cs s = 51 ∧ (i : Int) < (mst cs cs.length).2.getD s 0 := by
    intro i hi e
    obtain ⟨s, a1, a2, a3, a4⟩ := I.lev i hi e
    rcases a4 with ⟨b, hb, _⟩ | h
    · cases hb
    · exact ⟨s, a1, a2, a3, h⟩
  have hl := lead_get (opsI cs) (mst cs cs.length).2 (by
    intro i hi h2
    have hil : i < cs.length := by
      have := (List.getElem?_eq_some_iff.1 hi).1
      rwa [opsI_len] at this
    rw [ops_some hil] at hi
    obtain ⟨s, a1, a2, a3, _⟩ := hlev i hil (Option.some.inj hi)
    rw [a1, Int.toNat_natCast, ops_some (by omega)] at h2
    have := Option.some.inj h2
    omega) (by rw [mst_len, opsI_len]) cs.length j (by rw [opsI_len]; exact Nat.le_refl _)
  rw [ops_some hj] at hl
  change (matchS cs).getD j 0 = _ at hl
  rw [hl]
  constructor
  · intro e
    rw [if_neg (fun h => by have := Option.some.inj h.2; omega)]
    exact I.ends j hj e
  · intro e
    by_cases h52 : opA cs j = 52
    · rw [if_pos ⟨hj, by rw [h52]⟩]
      obtain ⟨s, a1, a2, a3, a4⟩ := hlev j hj h52
      rw [a1, Int.toNat_natCast]
      exact ⟨a4, (hfwd s (by omega) (.inr (.inr a3))).2⟩
    · rw [if_neg (fun h => h52 (Option.some.inj h.2))]
      exact hfwd j hj (by omega)
theorem matchS_len (cs : List (Int × Int)) : (matchS cs).length = cs.length := by rw [matchS, leadS_len, mst_len]
end Go.Proofs.YtodagpmcmjleaaaGreat
