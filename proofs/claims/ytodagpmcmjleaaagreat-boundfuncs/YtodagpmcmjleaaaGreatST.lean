/- Where all lead, by the document and by the program; the blocks that the document finds open: plain facts. -/
import Derived.Test.YtodagpmcmjleaaaGreatSR
namespace Go.Proofs.YtodagpmcmjleaaaGreat
/-- The start of the innermost loop; -1: none. -/
def lvS (L : List Blk) : Int := match firstIx L Blk.l L.length with | none => -1 | some i => (L[i]?.map Blk.s).getD 0
structure MI (op : Nat → Int) (n k : Nat) (ms : List Int) : Prop where
  len : ms.length = n
  fit : Fit op n (fun _ e => e < k) (fun j => ms.getD j 0)
  lev : ∀ j, j < k → op j = 52 → ms.getD j 0 = lvS (stk op j)
  oth : ∀ j, j < n → ¬ Opn op j → op j ≠ 49 → op j ≠ 50 → (op j = 52 → k ≤ j) → ms.getD j 0 = -1
theorem MI.next {op : Nat → Int} {n k : Nat} {ms : List Int} (N : Nest op n) (hk : k < n) (h : MI op n k ms) : MI op n (k + 1) (visS (op k) k (stk op k) ms) := by
  have hlen := h.len
  by_cases h3 : op k = 50
  · have C := N.ci k (by omega)
    rcases List.eq_nil_or_concat (stk op k) with hL | ⟨M, b0, hL⟩
    · have := N.nst k hk
      rw [hL] at this; simp [standN, h3] at this
    rw [List.concat_eq_append] at hL
    obtain ⟨i0, p1, p2, p3, p4, p5, p6, p7⟩ := C.blk M b0 [] hL
    have hC0 : Closed op n i0 b0.o k := by
      refine ⟨p3, ?_, p2, h3, ⟨_, _, hL, p1⟩, p6⟩
      have h1 : ¬ (op k = 48 ∨ op k = 51) := by omega
      have h2 : ¬ op k = 49 := by omega
      rw [p7, closeS_succ hk, if_neg h1, if_neg h2, if_pos h3, if_pos (by rfl)]
    have e2 : visS (op k) k (stk op k) ms = pairS ms i0 (oOf b0.o) k := by
      rw [hL, h3]
      simp only [visS, if_true, List.getLast?_append, List.getLast?_singleton, Option.some_or]
      rw [show b0.s.toNat = i0 by omega]
    have ho : ∀ x, oOf b0.o = some x → b0.o = x ∧ i0 < x ∧ x < k ∧ op x = 49 ∧ Top op x i0 := by
      intro x hx
      rcases p6 with p6 | ⟨y, a1, a2, a3, a4, a5, _⟩
      · rw [oOf, if_pos p6] at hx; cases hx
      · rw [oOf, if_neg (by omega)] at hx
        have : y = x := by have := Option.some.inj hx; omega
        subst this
        exact ⟨a1, a2, a3, a4, a5⟩
    rw [e2]
    have hg : ∀ j, j < n → (pairS ms i0 (oOf b0.o) k).getD j 0 = _ := fun j hj => pair_get (j := j) (by omega) (by omega) (fun x hx => by have := ho x hx; omega)
    have hol : ∀ j, j < n → j ≠ k → j ≠ i0 → (∀ x, oOf b0.o = some x → j ≠ x) → (pairS ms i0 (oOf b0.o) k).getD j 0 = ms.getD j 0 := by
      intro j hj a b c
      rw [hg j hj, if_neg a, if_neg b, if_neg (fun h => c j h.symm rfl)]
    refine ⟨?_, ?_, ?_, ?_⟩
    · cases oOf b0.o <;> simp [pairS, hlen]
    · intro s o e hC he hen
      have q1 := hC.end'
      have q2 := hC.lt
      by_cases hek : e = k
      · subst hek
        have := hC.top.uniq hC0.top
        subst this
        obtain ⟨rfl, _⟩ := hC.uniq hC0
        refine ⟨?_, ?_, fun x ex => ?_⟩
        · show (pairS ms s (oOf b0.o) e).getD e 0 = _
          rw [hg e hen, if_pos rfl]
        · show (pairS ms s (oOf b0.o) e).getD s 0 = _
          rw [hg s (by omega), if_neg (by omega), if_pos rfl]
          by_cases hm : b0.o = -1
          · rw [if_pos hm, oOf, if_pos hm]; rfl
          · rw [if_neg hm, oOf, if_neg hm]
            rcases p6 with p6 | ⟨y, p6, _⟩
            · omega
            · simp; omega
        · show (pairS ms s (oOf b0.o) e).getD x 0 = _
          have := hC.els' ex
          rw [hg x (by omega), if_neg (by omega), if_neg (by omega), if_pos (by rw [oOf, if_neg (by omega), ex]; simp)]
      · have hne : s ≠ i0 := by rintro rfl; exact hek (hC.uniq hC0).2
        obtain ⟨i1, i2, i3⟩ := h.fit s o e hC (by show e < k; have : e < k + 1 := he; omega) hen
        have hek' : e < k := by have : e < k + 1 := he; omega
        have q3 := hC.opn
        unfold Opn at q3 p3
        refine ⟨?_, ?_, fun x ex => ?_⟩
        · show (pairS ms i0 (oOf b0.o) k).getD e 0 = _
          rw [hol e hen hek (by rintro rfl; omega) (fun x hx => by have := ho x hx; rintro rfl; omega)]; exact i1
        · show (pairS ms i0 (oOf b0.o) k).getD s 0 = _
          rw [hol s (by omega) (by omega) hne (fun x hx => by have := ho x hx; rintro rfl; omega)]; exact i2
        · show (pairS ms i0 (oOf b0.o) k).getD x 0 = _
          obtain ⟨c1, c2, c3, c4⟩ := hC.els' ex
          rw [hol x (by omega) (by omega) (by rintro rfl; omega) (fun y hy => by
            obtain ⟨_, _, _, _, d5⟩ := ho y hy
            rintro rfl
            exact hne (c4.uniq d5))]
          exact i3 x ex
    · intro j hj e
      have hjk : j ≠ k := by rintro rfl; omega
      unfold Opn at p3
      rw [hol j (by omega) hjk (by rintro rfl; omega) (fun x hx => by have := ho x hx; rintro rfl; omega)]
      exact h.lev j (by omega) e
    · intro j hj a b c d
      rw [hol j hj (by rintro rfl; exact c h3) (by rintro rfl; exact a p3) (fun x hx => by have := ho x hx; rintro rfl; omega)]
      exact h.oth j hj a b c (fun e => by have := d e; omega)
  by_cases h4 : op k = 52
  · have e2 : (visS (op k) k (stk op k) ms).length = n ∧ ∀ j, j < n → (visS (op k) k (stk op k) ms).getD j 0 = if j = k then lvS (stk op k) else ms.getD j 0 := by
      have e : visS (op k) k (stk op k) ms = (match firstIx (stk op k) Blk.l (stk op k).length with | none => ms | some i => ms.set k (((stk op k)[i]?.map Blk.s).getD 0)) := by
        rw [h4]
        unfold visS
        rw [if_neg (by decide), if_pos rfl]
        cases firstIx (stk op k) Blk.l (stk op k).length <;> rfl
      rw [e, lvS]
      cases hf : firstIx (stk op k) Blk.l (stk op k).length with
      | none =>
        refine ⟨hlen, fun j hj => ?_⟩
        show ms.getD j 0 = if j = k then -1 else ms.getD j 0
        by_cases hjk : j = k
        · subst hjk
          rw [if_pos rfl]
          exact h.oth j hj (by unfold Opn; omega) (by omega) (by omega) (fun _ => Nat.le_refl _)
        · rw [if_neg hjk]
      | some i =>
        refine ⟨by simp [hlen], fun j hj => ?_⟩
        show (ms.set k _).getD j 0 = _
        rw [gset _ _ _ _ (by omega)]
        by_cases hjk : j = k
        · rw [if_pos hjk, if_pos hjk.symm]
        · rw [if_neg hjk, if_neg (fun h => hjk h.symm)]
    obtain ⟨g1, hg⟩ := e2
    refine ⟨g1, ?_, ?_, ?_⟩
    · intro s o e hC he hen
      have q1 := hC.end'
      have q2 := hC.lt
      have q3 := hC.opn
      unfold Opn at q3
      have hek : e ≠ k := by rintro rfl; omega
      obtain ⟨i1, i2, i3⟩ := h.fit s o e hC (by show e < k; have : e < k + 1 := he; omega) hen
      refine ⟨?_, ?_, fun x ex => ?_⟩
      · show (visS (op k) k (stk op k) ms).getD e 0 = _
        rw [hg e hen, if_neg hek]; exact i1
      · show (visS (op k) k (stk op k) ms).getD s 0 = _
        rw [hg s (by omega), if_neg (by rintro rfl; omega)]; exact i2
      · show (visS (op k) k (stk op k) ms).getD x 0 = _
        obtain ⟨c1, c2, c3, c4⟩ := hC.els' ex
        rw [hg x (by omega), if_neg (by rintro rfl; omega)]; exact i3 x ex
    · intro j hj e
      rw [hg j (by omega)]
      split
      · rename_i hjk; subst hjk; rfl
      · exact h.lev j (by omega) e
    · intro j hj a b c d
      have : j ≠ k := by rintro rfl; have := d h4; omega
      rw [hg j hj, if_neg this]
      exact h.oth j hj a b c (fun e => by have := d e; omega)
  · have e2 : visS (op k) k (stk op k) ms = ms := by simp only [visS, if_neg h3, if_neg h4]
    rw [e2]
    refine ⟨hlen, ?_, ?_, ?_⟩
    · intro s o e hC he hen
      have q1 := hC.end'
      have hek : e ≠ k := by rintro rfl; omega
      exact h.fit s o e hC (by show e < k; have : e < k + 1 := he; omega) hen
    · intro j hj e
      exact h.lev j (by have : j ≠ k := by rintro rfl; exact h4 e
                        omega) e
    · intro j hj a b c d
      exact h.oth j hj a b c (fun e => by have := d e; omega)
theorem mst_stk (cs : List (Int × Int)) : ∀ k, (mst cs k).1 = stk (opA cs) k
  | 0 => rfl
  | k + 1 => by rw [mst, stk, mst_stk cs k]; rfl
theorem mi_all {cs : List (Int × Int)} (N : Nest (opA cs) cs.length) : ∀ k, k ≤ cs.length → MI (opA cs) cs.length k (mst cs k).2
  | 0, _ => ⟨by simp [mst], fun s o e _ h => by omega, fun j h => by omega, fun j hj _ _ _ _ => by simp [mst, List.getD_eq_getElem?_getD, hj]⟩
  | k + 1, hk => by
    have := (mi_all N k (by omega)).next N (by omega)
    rw [← mst_stk] at this
    exact this
/-- Where all lead. -/
structure GM (op : Nat → Int) (n : Nat) (m : Nat → Int) : Prop where
  fit : Fit op n (fun _ _ => True) m
  lev : ∀ j, j < n → op j = 52 → ∃ s : Nat, s < j ∧ lvS (stk op j) = s ∧ op s = 51 ∧ m j = m s
  oth : ∀ j, j < n → ¬ Opn op j → op j ≠ 49 → op j ≠ 50 → op j ≠ 52 → m j = -1
theorem GM.uniq {op : Nat → Int} {n : Nat} {m m' : Nat → Int} (N : Nest op n) (h : GM op n m) (h' : GM op n m') : ∀ j, j < n → m j = m' j := by
  have hO : ∀ j, j < n → Opn op j → m j = m' j := fun j hj ho => by
    obtain ⟨o, e, he, hC⟩ := N.opn hj ho
    rw [(h.fit _ _ _ hC trivial he).2.1, (h'.fit _ _ _ hC trivial he).2.1]
  intro j hj
  by_cases h1 : Opn op j
  · exact hO j hj h1
  by_cases h2 : op j = 49
  · obtain ⟨s, e, he, hC⟩ := N.els hj h2
    rw [(h.fit _ _ _ hC trivial he).2.2 j rfl, (h'.fit _ _ _ hC trivial he).2.2 j rfl]
  by_cases h3 : op j = 50
  · obtain ⟨s, o, hC⟩ := N.ends hj h3
    rw [(h.fit _ _ _ hC trivial hj).1, (h'.fit _ _ _ hC trivial hj).1]
  by_cases h4 : op j = 52
  · obtain ⟨s, a1, a2, a3, a4⟩ := h.lev j hj h4
    obtain ⟨s', b1, b2, b3, b4⟩ := h'.lev j hj h4
    have : s = s' := by omega
    subst this
    rw [a4, b4, hO s (by omega) (.inr a3)]
  · rw [h.oth j hj h1 h2 h3 h4, h'.oth j hj h1 h2 h3 h4]
/-- The innermost loop that is open is one, and stands ahead. -/
theorem lvS_some {op : Nat → Int} {n j : Nat} (N : Nest op n) (hj : j ≤ n) (hs : (firstIx (stk op j) Blk.l (stk op j).length).isSome = true) : ∃ s : Nat, s < j ∧ lvS (stk op j) = s ∧ op s = 51 := by
  obtain ⟨i, hi⟩ := Option.isSome_iff_exists.1 hs
  obtain ⟨_, b, hb, hbl⟩ := firstIx_lt hi
  obtain ⟨A, R, hA⟩ := List.append_of_mem (List.mem_of_getElem? hb)
  obtain ⟨s, p1, p2, p3, p4, _⟩ := (N.ci j hj).blk A b R hA
  refine ⟨s, p2, ?_, ?_⟩
  · rw [lvS, hi]; simp [hb, p1]
  · rw [hbl] at p4; exact of_decide_eq_true p4.symm
theorem good_iff (cs : List (Int × Int)) : goodS cs = true ↔ (∀ j, j < cs.length → standS (opA cs j) (stk (opA cs) j) = true) ∧ stk (opA cs) cs.length = [] := by
  have key : ∀ k, k ≤ cs.length → ((∀ j, j < k → standS (opA cs j) (stk (opA cs) j) = true) → runS (opsI (cs.take k)) 0 [] = some (stk (opA cs) k)) ∧ (∀ L, runS (opsI (cs.take k)) 0 [] = some L → L = stk (opA cs) k ∧ ∀ j, j < k → standS (opA cs j) (stk (opA cs) j) = true) := by
    intro k
    induction k with
    | zero => exact fun _ => ⟨fun _ => by simp [opsI, runS, stk], fun L h => ⟨by simp [opsI, runS] at h; exact h, fun j h => by omega⟩⟩
    | succ k ih =>
      intro hk
      obtain ⟨ih1, ih2⟩ := ih (by omega)
      have hop : opA cs k = cs[k].1 := ops_at (cs := cs) (k := k) (by omega)
      refine ⟨fun h => ?_, fun L h => ?_⟩
      · have := run_next (by omega) (ih1 fun j hj => h j (by omega)) (by rw [← hop]; exact h k (by omega))
        rw [this, stk, hop]
      · obtain ⟨L0, r1, r2, r3⟩ := run_prev (by omega) h
        obtain ⟨rfl, r4⟩ := ih2 L0 r1
        refine ⟨by rw [r3, stk, hop], fun j hj => ?_⟩
        by_cases hjk : j = k
        · subst hjk; rw [hop]; exact r2
        · exact r4 j (by omega)
  obtain ⟨k1, k2⟩ := key cs.length (Nat.le_refl _)
  rw [List.take_length] at k1 k2
  unfold goodS
  rw [decide_eq_true_iff]
  constructor
  · intro h
    obtain ⟨a, b⟩ := k2 [] h
    exact ⟨b, a.symm⟩
  · rintro ⟨a, b⟩
    rw [k1 a, b]
theorem standS_N {n : Int} {L : List Blk} (h : standS n L = true) : standN n L = true := by
  unfold standS at h
  unfold standN
  split
  · rename_i h2
    rwa [if_neg (by omega), if_pos h2] at h
  · rename_i h2
    split
    · rename_i h3
      rwa [if_neg (by omega), if_neg h2, if_pos h3] at h
    · rfl
theorem good_nest {cs : List (Int × Int)} (h : goodS cs = true) : Nest (opA cs) cs.length := by
  obtain ⟨a, b⟩ := (good_iff cs).1 h
  exact ⟨fun j hj => standS_N (a j hj), b⟩
/-- What the program notes. -/
theorem match_gm {cs : List (Int × Int)} (h : goodS cs = true) : GM (opA cs) cs.length (fun j => (matchS cs).getD j 0) := by
  have N := good_nest h
  have M := mi_all N cs.length (Nat.le_refl _)
  have hst := ((good_iff cs).1 h).1
  have hlv : ∀ j, j < cs.length → opA cs j = 52 → ∃ s : Nat, s < j ∧ lvS (stk (opA cs) j) = s ∧ opA cs s = 51 := by
    intro j hj e
    have hs := hst j hj
    rw [e] at hs
    exact lvS_some N (by omega) (by simpa [standS] using hs)
  have hl : ∀ j, j < cs.length → (matchS cs).getD j 0 = if opA cs j = 52 then (mst cs cs.length).2.getD ((mst cs cs.length).2.getD j 0).toNat 0 else (mst cs cs.length).2.getD j 0 := by
    intro j hj
    have := lead_get (opsI cs) (mst cs cs.length).2 (by
      intro i hi h2
      have hil : i < cs.length := by
        have := (List.getElem?_eq_some_iff.1 hi).1
        rwa [opsI_len] at this
      rw [ops_some hil] at hi
      have h52 := Option.some.inj hi
      obtain ⟨s, a1, a2, a3⟩ := hlv i hil h52
      rw [M.lev i hil h52, a2, Int.toNat_natCast, ops_some (by omega)] at h2
      have := Option.some.inj h2
      omega) (by rw [mst_len, opsI_len]) cs.length j (by rw [opsI_len]; exact Nat.le_refl _)
    rw [ops_some hj] at this
    refine this.trans ?_
    by_cases h52 : opA cs j = 52
    · rw [if_pos ⟨hj, by rw [h52]⟩, if_pos h52]
    · rw [if_neg (fun h => h52 (Option.some.inj h.2)), if_neg h52]
  refine ⟨?_, ?_, ?_⟩
  · intro s o e hC _ he
    have q1 := hC.end'
    have q2 := hC.lt
    have q3 := hC.opn
    unfold Opn at q3
    obtain ⟨i1, i2, i3⟩ := M.fit s o e hC he he
    refine ⟨?_, ?_, fun x ex => ?_⟩
    · show (matchS cs).getD e 0 = _
      rw [hl e he, if_neg (by omega)]; exact i1
    · show (matchS cs).getD s 0 = _
      rw [hl s (by omega), if_neg (by omega)]; exact i2
    · show (matchS cs).getD x 0 = _
      obtain ⟨c1, c2, c3, c4⟩ := hC.els' ex
      rw [hl x (by omega), if_neg (by omega)]; exact i3 x ex
  · intro j hj e
    obtain ⟨s, a1, a2, a3⟩ := hlv j hj e
    refine ⟨s, a1, a2, a3, ?_⟩
    show (matchS cs).getD j 0 = (matchS cs).getD s 0
    rw [hl j hj, if_pos e, M.lev j hj e, a2, Int.toNat_natCast, hl s (by omega), if_neg (by omega)]
  · intro j hj a b c d
    show (matchS cs).getD j 0 = -1
    rw [hl j hj, if_neg d]
    exact M.oth j hj a b c (fun e => absurd e d)
/-- The end of a block, by what is noted. -/
def lastS (op : Nat → Int) (m : Nat → Int) (j : Nat) : Int := if op (m j).toNat = 49 then m (m j).toNat else m j
theorem last_is {op : Nat → Int} {n s e : Nat} {o : Int} {m : Nat → Int} (hf : Fit op n (fun _ _ => True) m) (hC : Closed op n s o e) (he : e < n) : lastS op m s = e := by
  obtain ⟨i1, i2, i3⟩ := hf s o e hC trivial he
  unfold lastS
  rw [i2]
  by_cases ho : o = -1
  · rw [if_pos ho, Int.toNat_natCast, if_neg (by rw [hC.end']; decide)]
  · rw [if_neg ho]
    rcases hC.els with c | ⟨x, c1, c2, c3, c4, _⟩
    · omega
    · rw [c1, Int.toNat_natCast, if_pos c4, i3 x c1]
def openS (op : Nat → Int) (m : Nat → Int) (i : Nat) : Nat → List Nat
  | 0 => []
  | k + 1 => if Opn op k ∧ (i : Int) ≤ lastS op m k then openS op m i k ++ [k] else openS op m i k
theorem openS_mem {op : Nat → Int} {m : Nat → Int} {i : Nat} : ∀ {k j : Nat}, j ∈ openS op m i k → j < k ∧ Opn op j ∧ (i : Int) ≤ lastS op m j
  | 0, j, h => by cases h
  | k + 1, j, h => by
    rw [openS] at h
    split at h
    · rename_i hc
      rcases List.mem_append.1 h with h | h
      · obtain ⟨a, b, c⟩ := openS_mem h
        exact ⟨by omega, b, c⟩
      · rw [List.mem_singleton] at h
        subst h
        exact ⟨by omega, hc.1, hc.2⟩
    · obtain ⟨a, b, c⟩ := openS_mem h
      exact ⟨by omega, b, c⟩
/-- The blocks that begin below k and end at i or behind: those that stay of the stack at k. -/
theorem open_any {op : Nat → Int} {n : Nat} {m : Nat → Int} (N : Nest op n) (hf : Fit op n (fun _ _ => True) m) (i : Nat) : ∀ k, k ≤ n → k ≤ i → (∀ j, j < k → Opn op j → ∀ o e, Closed op n j o e → (i : Int) ≤ e → ∃ b ∈ stk op k, b.s = j) ∧ (openS op m i k).map (fun (j : Nat) => (j : Int)) = ((stk op k).filter (fun b => decide ((i : Int) ≤ lastS op m b.s.toNat))).map Blk.s
  | 0, _, _ => ⟨fun j h => by omega, by simp [openS, stk]⟩
  | k + 1, hk, hi => by
    obtain ⟨ih1, ih2⟩ := open_any N hf i k (by omega) (by omega)
    have C := N.ci (k + 1) hk
    refine ⟨fun j hj ho o e hC he => ?_, ?_⟩
    · rcases C.opn j hj ho with h | ⟨o', e', h1, h2⟩
      · exact h
      · have := (hC.uniq h2).2; omega
    by_cases h1 : op k = 48 ∨ op k = 51
    · have e1 : stk op (k + 1) = stk op k ++ [⟨k, -1, decide (op k = 51)⟩] := by simp only [stk, stepS, if_pos h1]
      rw [e1, List.filter_append, List.map_append, ← ih2, openS]
      by_cases hc : (i : Int) ≤ lastS op m k
      · rw [if_pos ⟨h1, hc⟩]
        simp [hc]
      · rw [if_neg (fun h => hc h.2)]
        simp [hc]
    rw [openS, if_neg (fun h => h1 h.1), ih2]
    by_cases h2 : op k = 49
    · rcases List.eq_nil_or_concat (stk op k) with hL | ⟨M, b0, hL⟩
      · have := N.nst k (by omega)
        rw [hL] at this; simp [standN, h2] at this
      rw [List.concat_eq_append] at hL
      have e1 : stk op (k + 1) = M ++ [⟨b0.s, k, b0.l⟩] := by rw [stk, hL, h2]; simp [stepS]
      rw [e1, hL, List.filter_append, List.filter_append, List.map_append, List.map_append]
      congr 1
      by_cases hc : (i : Int) ≤ lastS op m b0.s.toNat <;> simp [hc]
    by_cases h3 : op k = 50
    · rcases List.eq_nil_or_concat (stk op k) with hL | ⟨M, b0, hL⟩
      · have := N.nst k (by omega)
        rw [hL] at this; simp [standN, h3] at this
      rw [List.concat_eq_append] at hL
      have e1 : stk op (k + 1) = M := by rw [stk, hL, h3]; simp [stepS]
      obtain ⟨s, o, hC⟩ := N.ends (by omega : k < n) h3
      have hs : b0.s = s := by
        obtain ⟨A, b, t1, t2⟩ := hC.top
        have := (List.append_inj' (hL.symm.trans t1) rfl).2
        have e : b0 = b := by simpa using this
        rw [e, t2]
      have hlast := last_is hf hC (by omega)
      rw [e1, hL, List.filter_append, List.map_append]
      have : ¬ (i : Int) ≤ lastS op m b0.s.toNat := by rw [hs, Int.toNat_natCast, hlast]; omega
      simp [this]
    · have e1 : stk op (k + 1) = stk op k := by simp only [stk, stepS, if_neg h1, if_neg h2, if_neg h3]
      rw [e1]
theorem open_stk {op : Nat → Int} {n : Nat} {m : Nat → Int} (N : Nest op n) (hf : Fit op n (fun _ _ => True) m) {i : Nat} (hi : i ≤ n) : (openS op m i i).map (fun (j : Nat) => (j : Int)) = (stk op i).map Blk.s := by
  rw [(open_any N hf i i hi (Nat.le_refl _)).2]
  rw [List.filter_eq_self.2]
  intro b hb
  obtain ⟨A, R, hA⟩ := List.append_of_mem hb
  obtain ⟨s, p1, p2, p3, p4, p5, p6, p7⟩ := (N.ci i hi).blk A b R hA
  obtain ⟨o, e, he, hC⟩ := N.opn (by omega : s < n) p3
  rw [p1, Int.toNat_natCast, last_is hf hC he]
  apply decide_eq_true
  have r := (closeS_rng (op := op) (f := decide (op s = 48)) (n - i) i R.length b.o).1
  rw [← p7, hC.at'] at r
  simp only at r
  omega
end Go.Proofs.YtodagpmcmjleaaaGreat
