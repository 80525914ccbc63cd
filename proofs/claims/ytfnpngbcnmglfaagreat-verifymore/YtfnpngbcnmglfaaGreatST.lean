/- Where all lead, by the document and by the program; the blocks that the document finds open: plain facts. The open blocks of types go with those of shape: plain facts. What a walk through a function's instructions comes to: plain facts. types.stacks: what it keeps. The document's closes. -/
import Derived.Test.YtfnpngbcnmglfaaGreatSW
import Derived.Test.YtfnpngbcnmglfaaGreatTL
import Derived.Test.YtfnpngbcnmglfaaGreatCS
import Derived.Test.YtfnpngbcnmglfaaGreatSL
namespace Go.Proofs.YtfnpngbcnmglfaaGreat
/-- The start of the innermost loop; -1: none. -/
def lvS (L : List Blk) : Int := match firstIx L Blk.l L.length with | none => -1 | some i => (L[i]?.map Blk.s).getD 0
structure MI (op : Nat → Int) (n k : Nat) (ms : List Int) : Prop where
  len : ms.length = n
  fit : Fit op n (fun _ e => e < k) (fun j => ms.getD j 0)
  lev : ∀ j, j < k → op j = 52 → ms.getD j 0 = lvS (stk op j)
  oth : ∀ j, j < n → ¬ Opn op j → op j ≠ 49 → op j ≠ 50 → (op j = 52 → k ≤ j) → ms.getD j 0 = -1
theorem MI.next {op : Nat → Int} {n k : Nat} {ms : List Int} (N : Nest op n) (hk : k < n) (h : MI op n k ms) : MI op n (k + 1) (visS (op k) k (stk op k) ms) := by
  have hlen := h.len
  by_cases h3 : op k = 50
  · have C := N.ci k (by omega)
    rcases List.eq_nil_or_concat (stk op k) with hL | ⟨M, b0, hL⟩
    · have := N.nst k hk
      rw [hL] at this; simp [standN, h3] at this
    rw [List.concat_eq_append] at hL
    obtain ⟨i0, p1, p2, p3, p4, p5, p6, p7⟩ := C.blk M b0 [] hL
    have hC0 : Closed op n i0 b0.o k := by
      refine ⟨p3, ?_, p2, h3, ⟨_, _, hL, p1⟩, p6⟩
      have h1 : ¬ (op k = 48 ∨ op k = 51) := by omega
      have h2 : ¬ op k = 49 := by omega
      rw [p7, closeS_succ hk, if_neg h1, if_neg h2, if_pos h3, if_pos (by rfl)]
    have e2 : visS (op k) k (stk op k) ms = pairS ms i0 (oOf b0.o) k := by
      rw [hL, h3]
      simp only [visS, if_true, List.getLast?_append, List.getLast?_singleton, Option.some_or]
      rw [show b0.s.toNat = i0 by omega]
    have ho : ∀ x, oOf b0.o = some x → b0.o = x ∧ i0 < x ∧ x < k ∧ op x = 49 ∧ Top op x i0 := by
      intro x hx
      rcases p6 with p6 | ⟨y, a1, a2, a3, a4, a5, _⟩
      · rw [oOf, if_pos p6] at hx; cases hx
      · rw [oOf, if_neg (by omega)] at hx
        have : y = x := by have := Option.some.inj hx; omega
        subst this
        exact ⟨a1, a2, a3, a4, a5⟩
    rw [e2]
    have hg : ∀ j, j < n → (pairS ms i0 (oOf b0.o) k).getD j 0 = _ := fun j hj => pair_get (j := j) (by omega) (by omega) (fun x hx => by have := ho x hx; omega)
    have hol : ∀ j, j < n → j ≠ k → j ≠ i0 → (∀ x, oOf b0.o = some x → j ≠ x) → (pairS ms i0 (oOf b0.o) k).getD j 0 = ms.getD j 0 := by
      intro j hj a b c
      rw [hg j hj, if_neg a, if_neg b, if_neg (fun h => c j h.symm rfl)]
    refine ⟨?_, ?_, ?_, ?_⟩
    · cases oOf b0.o <;> simp [pairS, hlen]
    · intro s o e hC he hen
      have q1 := hC.end'
      have q2 := hC.lt
      by_cases hek : e = k
      · subst hek
        have := hC.top.uniq hC0.top
        subst this
        obtain ⟨rfl, _⟩ := hC.uniq hC0
        refine ⟨?_, ?_, fun x ex => ?_⟩
        · show (pairS ms s (oOf b0.o) e).getD e 0 = _
          rw [hg e hen, if_pos rfl]
        · show (pairS ms s (oOf b0.o) e).getD s 0 = _
          rw [hg s (by omega), if_neg (by omega), if_pos rfl]
          by_cases hm : b0.o = -1
          · rw [if_pos hm, oOf, if_pos hm]; rfl
          · rw [if_neg hm, oOf, if_neg hm]
            rcases p6 with p6 | ⟨y, p6, _⟩
            · omega
            · simp; omega
        · show (pairS ms s (oOf b0.o) e).getD x 0 = _
          have := hC.els' ex
          rw [hg x (by omega), if_neg (by omega), if_neg (by omega), if_pos (by rw [oOf, if_neg (by omega), ex]; simp)]
      · have hne : s ≠ i0 := by rintro rfl; exact hek (hC.uniq hC0).2
        obtain ⟨i1, i2, i3⟩ := h.fit s o e hC (by show e < k; have : e < k + 1 := he; omega) hen
        have hek' : e < k := by have : e < k + 1 := he; omega
        have q3 := hC.opn
        unfold Opn at q3 p3
        refine ⟨?_, ?_, fun x ex => ?_⟩
        · show (pairS ms i0 (oOf b0.o) k).getD e 0 = _
          rw [hol e hen hek (by rintro rfl; omega) (fun x hx => by have := ho x hx; rintro rfl; omega)]; exact i1
        · show (pairS ms i0 (oOf b0.o) k).getD s 0 = _
          rw [hol s (by omega) (by omega) hne (fun x hx => by have := ho x hx; rintro rfl; omega)]; exact i2
        · show (pairS ms i0 (oOf b0.o) k).getD x 0 = _
          obtain ⟨c1, c2, c3, c4⟩ := hC.els' ex
          rw [hol x (by omega) (by omega) (by rintro rfl; omega) (fun y hy => by
            obtain ⟨_, _, _, _, d5⟩ := ho y hy
            rintro rfl
            exact hne (c4.uniq d5))]
          exact i3 x ex
    · intro j hj e
      have hjk : j ≠ k := by rintro rfl; omega
      unfold Opn at p3
      rw [hol j (by omega) hjk (by rintro rfl; omega) (fun x hx => by have := ho x hx; rintro rfl; omega)]
      exact h.lev j (by omega) e
    · intro j hj a b c d
      rw [hol j hj (by rintro rfl; exact c h3) (by rintro rfl; exact a p3) (fun x hx => by have := ho x hx; rintro rfl; omega)]
      exact h.oth j hj a b c (fun e => by have := d e; omega)
  by_cases h4 : op k = 52
  · have e2 : (visS (op k) k (stk op k) ms).length = n ∧ ∀ j, j < n → (visS (op k) k (stk op k) ms).getD j 0 = if j = k then lvS (stk op k) else ms.getD j 0 := by
      have e : visS (op k) k (stk op k) ms = (match firstIx (stk op k) Blk.l (stk op k).length with | none => ms | some i => ms.set k (((stk op k)[i]?.map Blk.s).getD 0)) := by
        rw [h4]
        unfold visS
        rw [if_neg (by decide), if_pos rfl]
        cases firstIx (stk op k) Blk.l (stk op k).length <;> rfl
      rw [e, lvS]
      cases hf : firstIx (stk op k) Blk.l (stk op k).length with
      | none =>
        refine ⟨hlen, fun j hj => ?_⟩
        show ms.getD j 0 = if j = k then -1 else ms.getD j 0
        by_cases hjk : j = k
        · subst hjk
          rw [if_pos rfl]
          exact h.oth j hj (by unfold Opn; omega) (by omega) (by omega) (fun _ => Nat.le_refl _)
        · rw [if_neg hjk]
      | some i =>
        refine ⟨by simp [hlen], fun j hj => ?_⟩
        show (ms.set k _).getD j 0 = _
        rw [gset _ _ _ _ (by omega)]
        by_cases hjk : j = k
        · rw [if_pos hjk, if_pos hjk.symm]
        · rw [if_neg hjk, if_neg (fun h => hjk h.symm)]
    obtain ⟨g1, hg⟩ := e2
    refine ⟨g1, ?_, ?_, ?_⟩
    · intro s o e hC he hen
      have q1 := hC.end'
      have q2 := hC.lt
      have q3 := hC.opn
      unfold Opn at q3
      have hek : e ≠ k := by rintro rfl; omega
      obtain ⟨i1, i2, i3⟩ := h.fit s o e hC (by show e < k; have : e < k + 1 := he; omega) hen
      refine ⟨?_, ?_, fun x ex => ?_⟩
      · show (visS (op k) k (stk op k) ms).getD e 0 = _
        rw [hg e hen, if_neg hek]; exact i1
      · show (visS (op k) k (stk op k) ms).getD s 0 = _
        rw [hg s (by omega), if_neg (by rintro rfl; omega)]; exact i2
      · show (visS (op k) k (stk op k) ms).getD x 0 = _
        obtain ⟨c1, c2, c3, c4⟩ := hC.els' ex
        rw [hg x (by omega), if_neg (by rintro rfl; omega)]; exact i3 x ex
    · intro j hj e
      rw [hg j (by omega)]
      split
      · rename_i hjk; subst hjk; rfl
      · exact h.lev j (by omega) e
    · intro j hj a b c d
      have : j ≠ k := by rintro rfl; have := d h4; omega
      rw [hg j hj, if_neg this]
      exact h.oth j hj a b c (fun e => by have := d e; omega)
  · have e2 : visS (op k) k (stk op k) ms = ms := by simp only [visS, if_neg h3, if_neg h4]
    rw [e2]
    refine ⟨hlen, ?_, ?_, ?_⟩
    · intro s o e hC he hen
      have q1 := hC.end'
      have hek : e ≠ k := by rintro rfl; omega
      exact h.fit s o e hC (by show e < k; have : e < k + 1 := he; omega) hen
    · intro j hj e
      exact h.lev j (by have : j ≠ k := by rintro rfl; exact h4 e
                        omega) e
    · intro j hj a b c d
      exact h.oth j hj a b c (fun e => by have := d e; omega)
theorem mst_stk (cs : List (Int × Int)) : ∀ k, (mst cs k).1 = stk (opA cs) k
  | 0 => rfl
  | k + 1 => by rw [mst, stk, mst_stk cs k]; rfl
theorem mi_all {cs : List (Int × Int)} (N : Nest (opA cs) cs.length) : ∀ k, k ≤ cs.length → MI (opA cs) cs.length k (mst cs k).2
  | 0, _ => ⟨by simp [mst], fun s o e _ h => by omega, fun j h => by omega, fun j hj _ _ _ _ => by simp [mst, List.getD_eq_getElem?_getD, hj]⟩
  | k + 1, hk => by
    have := (mi_all N k (by omega)).next N (by omega)
    rw [← mst_stk] at this
    exact this
/-- Where all lead. -/
structure GM (op : Nat → Int) (n : Nat) (m : Nat → Int) : Prop where
  fit : Fit op n (fun _ _ => True) m
  lev : ∀ j, j < n → op j = 52 → ∃ s : Nat, s < j ∧ lvS (stk op j) = s ∧ op s = 51 ∧ m j = m s
  oth : ∀ j, j < n → ¬ Opn op j → op j ≠ 49 → op j ≠ 50 → op j ≠ 52 → m j = -1
theorem GM.uniq {op : Nat → Int} {n : Nat} {m m' : Nat → Int} (N : Nest op n) (h : GM op n m) (h' : GM op n m') : ∀ j, j < n → m j = m' j := by
  have hO : ∀ j, j < n → Opn op j → m j = m' j := fun j hj ho => by
    obtain ⟨o, e, he, hC⟩ := N.opn hj ho
    rw [(h.fit _ _ _ hC trivial he).2.1, (h'.fit _ _ _ hC trivial he).2.1]
  intro j hj
  by_cases h1 : Opn op j
  · exact hO j hj h1
  by_cases h2 : op j = 49
  · obtain ⟨s, e, he, hC⟩ := N.els hj h2
    rw [(h.fit _ _ _ hC trivial he).2.2 j rfl, (h'.fit _ _ _ hC trivial he).2.2 j rfl]
  by_cases h3 : op j = 50
  · obtain ⟨s, o, hC⟩ := N.ends hj h3
    rw [(h.fit _ _ _ hC trivial hj).1, (h'.fit _ _ _ hC trivial hj).1]
  by_cases h4 : op j = 52
  · obtain ⟨s, a1, a2, a3, a4⟩ := h.lev j hj h4
    obtain ⟨s', b1, b2, b3, b4⟩ := h'.lev j hj h4
    have : s = s' := by omega
    subst this
    rw [a4, b4, hO s (by omega) (.inr a3)]
  · rw [h.oth j hj h1 h2 h3 h4, h'.oth j hj h1 h2 h3 h4]
/-- The innermost loop that is open is one, and stands ahead. -/
theorem lvS_some {op : Nat → Int} {n j : Nat} (N : Nest op n) (hj : j ≤ n) (hs : (firstIx (stk op j) Blk.l (stk op j).length).isSome = true) : ∃ s : Nat, s < j ∧ lvS (stk op j) = s ∧ op s = 51 := by
  obtain ⟨i, hi⟩ := Option.isSome_iff_exists.1 hs
  obtain ⟨_, b, hb, hbl⟩ := firstIx_lt hi
  obtain ⟨A, R, hA⟩ := List.append_of_mem (List.mem_of_getElem? hb)
  obtain ⟨s, p1, p2, p3, p4, _⟩ := (N.ci j hj).blk A b R hA
  refine ⟨s, p2, ?_, ?_⟩
  · rw [lvS, hi]; simp [hb, p1]
  · rw [hbl] at p4; exact of_decide_eq_true p4.symm
theorem good_iff (cs : List (Int × Int)) : goodS cs = true ↔ (∀ j, j < cs.length → standS (opA cs j) (stk (opA cs) j) = true) ∧ stk (opA cs) cs.length = [] := by
  have key : ∀ k, k ≤ cs.length → ((∀ j, j < k → standS (opA cs j) (stk (opA cs) j) = true) → runS (opsI (cs.take k)) 0 [] = some (stk (opA cs) k)) ∧ (∀ L, runS (opsI (cs.take k)) 0 [] = some L → L = stk (opA cs) k ∧ ∀ j, j < k → standS (opA cs j) (stk (opA cs) j) = true) := by
    intro k
    induction k with
    | zero => exact fun _ => ⟨fun _ => by simp [opsI, runS, stk], fun L h => ⟨by simp [opsI, runS] at h; exact h, fun j h => by omega⟩⟩
    | succ k ih =>
      intro hk
      obtain ⟨ih1, ih2⟩ := ih (by omega)
      have hop : opA cs k = cs[k].1 := ops_at (cs := cs) (k := k) (by omega)
      refine ⟨fun h => ?_, fun L h => ?_⟩
      · have := run_next (by omega) (ih1 fun j hj => h j (by omega)) (by rw [← hop]; exact h k (by omega))
        rw [this, stk, hop]
      · obtain ⟨L0, r1, r2, r3⟩ := run_prev (by omega) h
        obtain ⟨rfl, r4⟩ := ih2 L0 r1
        refine ⟨by rw [r3, stk, hop], fun j hj => ?_⟩
        by_cases hjk : j = k
        · subst hjk; rw [hop]; exact r2
        · exact r4 j (by omega)
  obtain ⟨k1, k2⟩ := key cs.length (Nat.le_refl _)
  rw [List.take_length] at k1 k2
  unfold goodS
  rw [decide_eq_true_iff]
  constructor
  · intro h
    obtain ⟨a, b⟩ := k2 [] h
    exact ⟨b, a.symm⟩
  · rintro ⟨a, b⟩
    rw [k1 a, b]
theorem standS_N {n : Int} {L : List Blk} (h : standS n L = true) : standN n L = true := by
  unfold standS at h
  unfold standN
  split
  · rename_i h2
    rwa [if_neg (by omega), if_pos h2] at h
  · rename_i h2
    split
    · rename_i h3
      rwa [if_neg (by omega), if_neg h2, if_pos h3] at h
    · rfl
theorem good_nest {cs : List (Int × Int)} (h : goodS cs = true) : Nest (opA cs) cs.length := by
  obtain ⟨a, b⟩ := (good_iff cs).1 h
  exact ⟨fun j hj => standS_N (a j hj), b⟩
/-- What the program notes. -/
theorem match_gm {cs : List (Int × Int)} (h : goodS cs = true) : GM (opA cs) cs.length (fun j => (matchS cs).getD j 0) := by
  have N := good_nest h
  have M := mi_all N cs.length (Nat.le_refl _)
  have hst := ((good_iff cs).1 h).1
  have hlv : ∀ j, j < cs.length → opA cs j = 52 → ∃ s : Nat, s < j ∧ lvS (stk (opA cs) j) = s ∧ opA cs s = 51 := by
    intro j hj e
    have hs := hst j hj
    rw [e] at hs
    exact lvS_some N (by omega) (by simpa [standS] using hs)
  have hl : ∀ j, j < cs.length → (matchS cs).getD j 0 = if opA cs j = 52 then (mst cs cs.length).2.getD ((mst cs cs.length).2.getD j 0).toNat 0 else (mst cs cs.length).2.getD j 0 := by
    intro j hj
    have := lead_get (opsI cs) (mst cs cs.length).2 (by
      intro i hi h2
      have hil : i < cs.length := by
        have := (List.getElem?_eq_some_iff.1 hi).1
        rwa [opsI_len] at this
      rw [ops_some hil] at hi
      have h52 := Option.some.inj hi
      obtain ⟨s, a1, a2, a3⟩ := hlv i hil h52
      rw [M.lev i hil h52, a2, Int.toNat_natCast, ops_some (by omega)] at h2
      have := Option.some.inj h2
      omega) (by rw [mst_len, opsI_len]) cs.length j (by rw [opsI_len]; exact Nat.le_refl _)
    rw [ops_some hj] at this
    refine this.trans ?_
    by_cases h52 : opA cs j = 52
    · rw [if_pos ⟨hj, by rw [h52]⟩, if_pos h52]
    · rw [if_neg (fun h => h52 (Option.some.inj h.2)), if_neg h52]
  refine ⟨?_, ?_, ?_⟩
  · intro s o e hC _ he
    have q1 := hC.end'
    have q2 := hC.lt
    have q3 := hC.opn
    unfold Opn at q3
    obtain ⟨i1, i2, i3⟩ := M.fit s o e hC he he
    refine ⟨?_, ?_, fun x ex => ?_⟩
    · show (matchS cs).getD e 0 = _
      rw [hl e he, if_neg (by omega)]; exact i1
    · show (matchS cs).getD s 0 = _
      rw [hl s (by omega), if_neg (by omega)]; exact i2
    · show (matchS cs).getD x 0 = _
      obtain ⟨c1, c2, c3, c4⟩ := hC.els' ex
      rw [hl x (by omega), if_neg (by omega)]; exact i3 x ex
  · intro j hj e
    obtain ⟨s, a1, a2, a3⟩ := hlv j hj e
    refine ⟨s, a1, a2, a3, ?_⟩
    show (matchS cs).getD j 0 = (matchS cs).getD s 0
    rw [hl j hj, if_pos e, M.lev j hj e, a2, Int.toNat_natCast, hl s (by omega), if_neg (by omega)]
  · intro j hj a b c d
    show (matchS cs).getD j 0 = -1
    rw [hl j hj, if_neg d]
    exact M.oth j hj a b c (fun e => absurd e d)
/-- The end of a block, by what is noted. -/
def lastS (op : Nat → Int) (m : Nat → Int) (j : Nat) : Int := if op (m j).toNat = 49 then m (m j).toNat else m j
theorem last_is {op : Nat → Int} {n s e : Nat} {o : Int} {m : Nat → Int} (hf : Fit op n (fun _ _ => True) m) (hC : Closed op n s o e) (he : e < n) : lastS op m s = e := by
  obtain ⟨i1, i2, i3⟩ := hf s o e hC trivial he
  unfold lastS
  rw [i2]
  by_cases ho : o = -1
  · rw [if_pos ho, Int.toNat_natCast, if_neg (by rw [hC.end']; decide)]
  · rw [if_neg ho]
    rcases hC.els with c | ⟨x, c1, c2, c3, c4, _⟩
    · omega
    · rw [c1, Int.toNat_natCast, if_pos c4, i3 x c1]
def openS (op : Nat → Int) (m : Nat → Int) (i : Nat) : Nat → List Nat
  | 0 => []
  | k + 1 => if Opn op k ∧ (i : Int) ≤ lastS op m k then openS op m i k ++ [k] else openS op m i k
theorem openS_mem {op : Nat → Int} {m : Nat → Int} {i : Nat} : ∀ {k j : Nat}, j ∈ openS op m i k → j < k ∧ Opn op j ∧ (i : Int) ≤ lastS op m j
  | 0, j, h => by cases h
  | k + 1, j, h => by
    rw [openS] at h
    split at h
    · rename_i hc
      rcases List.mem_append.1 h with h | h
      · obtain ⟨a, b, c⟩ := openS_mem h
        exact ⟨by omega, b, c⟩
      · rw [List.mem_singleton] at h
        subst h
        exact ⟨by omega, hc.1, hc.2⟩
    · obtain ⟨a, b, c⟩ := openS_mem h
      exact ⟨by omega, b, c⟩
/-- The blocks that begin below k and end at i or behind: those that stay of the stack at k. -/
theorem open_any {op : Nat → Int} {n : Nat} {m : Nat → Int} (N : Nest op n) (hf : Fit op n (fun _ _ => True) m) (i : Nat) : ∀ k, k ≤ n → k ≤ i → (∀ j, j < k → Opn op j → ∀ o e, Closed op n j o e → (i : Int) ≤ e → ∃ b ∈ stk op k, b.s = j) ∧ (openS op m i k).map (fun (j : Nat) => (j : Int)) = ((stk op k).filter (fun b => decide ((i : Int) ≤ lastS op m b.s.toNat))).map Blk.s
  | 0, _, _ => ⟨fun j h => by omega, by simp [openS, stk]⟩
  | k + 1, hk, hi => by
    obtain ⟨ih1, ih2⟩ := open_any N hf i k (by omega) (by omega)
    have C := N.ci (k + 1) hk
    refine ⟨fun j hj ho o e hC he => ?_, ?_⟩
    · rcases C.opn j hj ho with h | ⟨o', e', h1, h2⟩
      · exact h
      · have := (hC.uniq h2).2; omega
    by_cases h1 : op k = 48 ∨ op k = 51
    · have e1 : stk op (k + 1) = stk op k ++ [⟨k, -1, decide (op k = 51)⟩] := by simp only [stk, stepS, if_pos h1]
      rw [e1, List.filter_append, List.map_append, ← ih2, openS]
      by_cases hc : (i : Int) ≤ lastS op m k
      · rw [if_pos ⟨h1, hc⟩]
        simp [hc]
      · rw [if_neg (fun h => hc h.2)]
        simp [hc]
    rw [openS, if_neg (fun h => h1 h.1), ih2]
    by_cases h2 : op k = 49
    · rcases List.eq_nil_or_concat (stk op k) with hL | ⟨M, b0, hL⟩
      · have := N.nst k (by omega)
        rw [hL] at this; simp [standN, h2] at this
      rw [List.concat_eq_append] at hL
      have e1 : stk op (k + 1) = M ++ [⟨b0.s, k, b0.l⟩] := by rw [stk, hL, h2]; simp [stepS]
      rw [e1, hL, List.filter_append, List.filter_append, List.map_append, List.map_append]
      congr 1
      by_cases hc : (i : Int) ≤ lastS op m b0.s.toNat <;> simp [hc]
    by_cases h3 : op k = 50
    · rcases List.eq_nil_or_concat (stk op k) with hL | ⟨M, b0, hL⟩
      · have := N.nst k (by omega)
        rw [hL] at this; simp [standN, h3] at this
      rw [List.concat_eq_append] at hL
      have e1 : stk op (k + 1) = M := by rw [stk, hL, h3]; simp [stepS]
      obtain ⟨s, o, hC⟩ := N.ends (by omega : k < n) h3
      have hs : b0.s = s := by
        obtain ⟨A, b, t1, t2⟩ := hC.top
        have := (List.append_inj' (hL.symm.trans t1) rfl).2
        have e : b0 = b := by simpa using this
        rw [e, t2]
      have hlast := last_is hf hC (by omega)
      rw [e1, hL, List.filter_append, List.map_append]
      have : ¬ (i : Int) ≤ lastS op m b0.s.toNat := by rw [hs, Int.toNat_natCast, hlast]; omega
      simp [this]
    · have e1 : stk op (k + 1) = stk op k := by simp only [stk, stepS, if_neg h1, if_neg h2, if_neg h3]
      rw [e1]
theorem open_stk {op : Nat → Int} {n : Nat} {m : Nat → Int} (N : Nest op n) (hf : Fit op n (fun _ _ => True) m) {i : Nat} (hi : i ≤ n) : (openS op m i i).map (fun (j : Nat) => (j : Int)) = (stk op i).map Blk.s := by
  rw [(open_any N hf i i hi (Nat.le_refl _)).2]
  rw [List.filter_eq_self.2]
  intro b hb
  obtain ⟨A, R, hA⟩ := List.append_of_mem hb
  obtain ⟨s, p1, p2, p3, p4, p5, p6, p7⟩ := (N.ci i hi).blk A b R hA
  obtain ⟨o, e, he, hC⟩ := N.opn (by omega : s < n) p3
  rw [p1, Int.toNat_natCast, last_is hf hC he]
  apply decide_eq_true
  have r := (closeS_rng (op := op) (f := decide (op s = 48)) (n - i) i R.length b.o).1
  rw [← p7, hC.at'] at r
  simp only at r
  omega
end Go.Proofs.YtfnpngbcnmglfaaGreat
namespace Go.Proofs.YtfnpngbcnmglfaaGreat
/-- Alike: loops at the same places. -/
def Goes (L : List OB) (S : List Blk) : Prop := L.map OB.lo = S.map Blk.l
theorem Goes.len {L : List OB} {S : List Blk} (h : Goes L S) : L.length = S.length := by have := congrArg List.length h; simpa using this
theorem Goes.at' {L : List OB} {S : List Blk} (h : Goes L S) (i : Nat) : L[i]?.map OB.lo = S[i]?.map Blk.l := by rw [← List.getElem?_map, ← List.getElem?_map, h]
theorem Goes.first {L : List OB} {S : List Blk} (h : Goes L S) : ∀ k, k ≤ S.length → fstIx (fun i => (L[i]?.map OB.lo).getD false) k = firstIx S Blk.l k
  | 0, _ => rfl
  | k + 1, hk => by
    rw [fstIx, firstIx, h.at' k, List.getElem?_eq_getElem (by omega : k < S.length)]
    simp only [Option.map_some, Option.getD_some]
    rw [h.first k (by omega)]
theorem Goes.lp {L : List OB} {S : List Blk} (h : Goes L S) : lpIx L = firstIx S Blk.l S.length := by rw [lpIx, h.len, h.first _ (Nat.le_refl _)]
theorem Goes.ok {L : List OB} {S : List Blk} (h : Goes L S) {n : Int} (hs : standS n S = true) : TurnOk n L := by
  unfold standS at hs
  refine ⟨fun hn hL => ?_, fun hn => ?_⟩
  · have h0 : S = [] := by have := h.len; rw [hL] at this; exact List.eq_nil_of_length_eq_zero this.symm
    subst h0
    rcases hn with rfl | rfl <;> simp at hs
  · subst hn
    rw [h.lp]
    simpa using hs
theorem Goes.next {L : List OB} {S : List Blk} (h : Goes L S) (n x : Int) (p : List Int) (hs : standS n S = true) : Goes (turnW n p L).2.2 (stepS n x S) := by
  unfold turnW stepS
  by_cases h1 : n = 48 ∨ n = 51
  · rw [if_pos h1, if_pos h1]
    show (L ++ [_]).map OB.lo = (S ++ [_]).map Blk.l
    rw [List.map_append, List.map_append, show L.map OB.lo = S.map Blk.l from h]
    rfl
  rw [if_neg h1, if_neg h1]
  by_cases h2 : n = 49
  · rw [if_pos h2, if_pos h2]
    rcases List.eq_nil_or_concat L with rfl | ⟨M, b, rfl⟩
    · have : S = [] := by have := h.len; exact List.eq_nil_of_length_eq_zero this.symm
      subst this
      exact h
    rcases List.eq_nil_or_concat S with rfl | ⟨T, c, rfl⟩
    · have := h.len; simp at this
    rw [List.concat_eq_append, List.concat_eq_append] at h ⊢
    have h' : M.map OB.lo ++ [b.lo] = T.map Blk.l ++ [c.l] := by simpa [Goes] using h
    obtain ⟨q1, q2⟩ := List.append_inj' h' rfl
    have q3 : b.lo = c.l := by simpa using q2
    simp only [List.getLast?_append, List.getLast?_singleton, Option.some_or, List.dropLast_concat]
    show (M ++ [_]).map OB.lo = (T ++ [_]).map Blk.l
    simp [q1, q3]
  rw [if_neg h2, if_neg h2]
  by_cases h3 : n = 50
  · rw [if_pos h3, if_pos h3]
    rcases List.eq_nil_or_concat L with rfl | ⟨M, b, rfl⟩
    · have : S = [] := by have := h.len; exact List.eq_nil_of_length_eq_zero this.symm
      subst this
      exact h
    rcases List.eq_nil_or_concat S with rfl | ⟨T, c, rfl⟩
    · have := h.len; simp at this
    rw [List.concat_eq_append, List.concat_eq_append] at h ⊢
    have h' : M.map OB.lo ++ [b.lo] = T.map Blk.l ++ [c.l] := by simpa [Goes] using h
    obtain ⟨q1, _⟩ := List.append_inj' h' rfl
    simp only [List.getLast?_append, List.getLast?_singleton, Option.some_or, List.dropLast_concat]
    exact q1
  rw [if_neg h3, if_neg h3]
  by_cases h4 : n = 52
  · rw [if_pos h4]
    cases (lpIx L).bind (fun i => L[i]?) with
    | none => exact h
    | some b => exact h
  · rw [if_neg h4]; exact h
end Go.Proofs.YtfnpngbcnmglfaaGreat
namespace Go.Proofs.YtfnpngbcnmglfaaGreat
/-- From here on: the error, and the stacks. -/
def chkFrom (fs : List Fn) (sl res : List Int) : List (Int × Int) → List Int → List OB → List (List Int) → Int × List (List Int)
  | [], p, _, R => if alikeS p res = 0 then (0, R ++ [p]) else (alikeS p res, [])
  | x :: r, p, L, R => if (passW fs sl x p L).1 = 0 then chkFrom fs sl res r (passW fs sl x p L).2.1 (passW fs sl x p L).2.2 (R ++ [p]) else ((passW fs sl x p L).1, [])
theorem tab_le : (∀ k : Fin 54, (inTab.getD k.1 []).length ≤ 10) ∧ ∀ k : Fin 54, (outTab.getD k.1 []).length ≤ 10 := by decide
theorem inT_le (n : Int) : (inT n).length ≤ 10 := by
  unfold inT rowOf
  split
  · exact tab_le.1 ⟨n.toNat, by omega⟩
  · exact Nat.zero_le _
theorem outT_le (n : Int) : (outT n).length ≤ 10 := by
  unfold outT rowOf
  split
  · exact tab_le.2 ⟨n.toNat, by omega⟩
  · exact Nat.zero_le _
/-- Heads of functions that may be. -/
def HeadsR (fs : List Fn) : Prop := ∀ f ∈ fs, f.p.length ≤ 8 ∧ f.r.length ≤ 8
theorem fnAt_le {fs : List Fn} (h : HeadsR fs) (k : Int) : (fnAt fs k).p.length ≤ 8 ∧ (fnAt fs k).r.length ≤ 8 := by
  unfold fnAt
  rw [List.getD_eq_getElem?_getD]
  cases hk : fs[k.toNat]? with
  | none => exact ⟨Nat.zero_le _, Nat.zero_le _⟩
  | some f => exact h f (List.mem_of_getElem? hk)
theorem takenS_le {fs : List Fn} (h : HeadsR fs) (sl : List Int) (x : Int × Int) : (takenS fs sl x).length ≤ 10 := by
  unfold takenS
  split
  · simp
  split
  · have := (fnAt_le h x.2).1; omega
  · exact inT_le _
theorem givenS_le {fs : List Fn} (h : HeadsR fs) (sl : List Int) (x : Int × Int) (had : List Int) : (givenS fs sl x had).length ≤ 2 * had.length + 10 := by
  unfold givenS
  split
  · rw [List.length_append]; omega
  split
  · rw [List.length_append, List.length_drop, List.length_singleton]; omega
  split
  · rw [List.length_append, List.length_singleton]; omega
  split
  · simp
  split
  · have := (fnAt_le h x.2).2; omega
  · have := outT_le x.1; omega
theorem stepW_le {fs : List Fn} (h : HeadsR fs) (sl : List Int) (x : Int × Int) (p : List Int) (hp : p.length ≤ 32) : (stepW fs sl x p).2.length ≤ 200 := by
  unfold stepW
  split
  · have := givenS_le h sl x (p.drop (takeS p (takenS fs sl x)).2)
    rw [List.length_drop] at this
    simp only [List.length_append, List.length_take]
    omega
  · show p.length ≤ 200; omega
/-- The blocks' stacks are short. -/
def OBs (L : List OB) : Prop := ∀ b ∈ L, b.en.length ≤ 1000 ∧ b.la.length ≤ 1000
theorem turnW_obs {n : Int} {p : List Int} {L : List OB} (h : OBs L) (hp : p.length ≤ 1000) : OBs (turnW n p L).2.2 := by
  unfold turnW
  split
  · intro b hb
    rcases List.mem_append.1 hb with hb | hb
    · exact h b hb
    · rw [List.mem_singleton] at hb; subst hb; exact ⟨hp, hp⟩
  split
  · cases hl : L.getLast? with
    | none => exact h
    | some c =>
      intro b hb
      rcases List.mem_append.1 hb with hb | hb
      · exact h b (List.dropLast_subset _ hb)
      · rw [List.mem_singleton] at hb; subst hb; exact ⟨(h c (List.mem_of_getLast? hl)).1, hp⟩
  split
  · cases L.getLast? with
    | none => exact h
    | some c => exact fun b hb => h b (List.dropLast_subset _ hb)
  split
  · cases (lpIx L).bind (fun i => L[i]?) with
    | none => exact h
    | some c => exact h
  · exact h
/-- One instruction that is passed. -/
theorem pass_ok {fs : List Fn} (hh : HeadsR fs) {sl : List Int} {x : Int × Int} {p : List Int} {L : List OB} {S : List Blk} (hp : p.length ≤ 32) (hL : OBs L) (hg : Goes L S) (hs : standS x.1 S = true) (k : Int) (h0 : (passW fs sl x p L).1 = 0) :
    (passW fs sl x p L).2.1.length ≤ 32 ∧ OBs (passW fs sl x p L).2.2 ∧ Goes (passW fs sl x p L).2.2 (stepS x.1 k S) := by
  have hst := stepW_le hh sl x p hp
  have h1 : OBs (turnW x.1 (stepW fs sl x p).2 L).2.2 := turnW_obs hL (by omega)
  have h2 := hg.next x.1 k (stepW fs sl x p).2 hs
  unfold passW at h0 ⊢
  split at h0
  · exact absurd h0 (by assumption)
  rename_i g1
  rw [if_neg g1]
  split at h0
  · exact absurd h0 (by assumption)
  rename_i g2
  rw [if_neg g2]
  split at h0
  · simp at h0
  rename_i g3
  rw [if_neg g3]
  exact ⟨by show (turnW x.1 (stepW fs sl x p).2 L).2.1.length ≤ 32; omega, h1, h2⟩
end Go.Proofs.YtfnpngbcnmglfaaGreat
namespace Go.Proofs.YtfnpngbcnmglfaaGreat
open Go.RowKit Go.Shelf
theorem elemN_sli : ElemN Tryz.prog 60 28 1 24 := by
  refine ⟨Tryz.underlying60, ?_, by decide⟩
  obtain ⟨i, hi, h1, h2, h3⟩ := info_parts (show (Tryz.prog.info? 28).map (fun i => (i.zero, i.size, i.bytes)) = some (some (.slice none 0 0), 1, 24) by kernel_rfl)
  exact ⟨i, _, hi, h1, h2, h3, rfl⟩
theorem match7 (cs : List (Int × Int)) (a : Option Addr) (c n : Nat) (hn : cs.length = n) (bn : n ≤ 1000000000) (w : World) (h : IsAt w.cell? a cs) : Calls Tryz.prog 81 #[.slice a n c] w (MatchEnd cs w) := by
  subst hn
  rcases h with rfl | ⟨b, off, rfl, hh⟩
  · exact match_any [] a c 0 0 (.inl rfl) (by omega) w (fun j h => by cases h)
  · exact match_any cs _ c b off (.inr rfl) (by omega) w hh
/-- Rows of stacks alone have turned. -/
def Mr (W W' : World) : Prop := W.heap.size ≤ W'.heap.size ∧ ∀ (k : Nat) (cur : Array Value) (t : TypeId) (z : Nat × Nat), t ≠ 28 → W.heap[k]? = some (.cells cur t z) → W'.heap[k]? = some (.cells cur t z)
theorem Mr.below {W W' : World} (h : Below W.heap.size W W') : Mr W W' := ⟨h.size, fun k _ _ _ _ hk => (h.block k (blk_lt hk)).trans hk⟩
theorem Mr.trans {A B C : World} (h : Mr A B) (g : Mr B C) : Mr A C := ⟨Nat.le_trans h.1 g.1, fun k cur t z h1 hk => g.2 k cur t z h1 (h.2 k cur t z h1 hk)⟩
theorem Mr.step {W W' : World} {base n : Nat} {v v' : Value} {xs : List Value} (hr : W.ownsRow base 28 1 v n xs) (hs : Step W v W' v') : Mr W W' := by
  refine ⟨hs.1.size, fun k cur t z h1 hk => (hs.1.block k (blk_lt hk) fun h => ?_).trans hk⟩
  rcases hr.2 with ⟨rfl, _⟩ | ⟨g, cap, cur', rfl, _, hh, _⟩
  · cases h
  · cases h
    rw [hk] at hh
    cases hh
    exact h1 rfl
theorem NsIn.mr {B : Nat} {W W' : World} {a : Option Addr} {ns : List Int} (h : NsIn B W a ns) (m : Mr W W') : NsIn B W' a ns := by
  rcases h with h | ⟨b, off, cur, e, hB, hb, hc⟩
  · exact .inl h
  · have hb' := m.2 b cur 3 (0, 0) (by decide) hb
    exact .inr ⟨b, off, cur, e, hB, hb', fun j hj => (cell_heap7 (hb'.trans hb.symm)).trans (hc j hj)⟩
theorem OBat.mr {B : Nat} {x : OB} {b : Nat} {W W' : World} (h : OBat B x b W) (m : Mr W W') : OBat B x b W' := by
  obtain ⟨a1, c1, a2, c2, h1, h2, h3, h4, h5⟩ := h
  exact ⟨a1, c1, a2, c2, m.2 _ _ _ _ (by decide) h1, h2, h3, h4.mr m, h5.mr m⟩
theorem WStA.mr {wb : Nat} {fv sv : Value} {p : List Int} {L : List OB} {a : Option Addr} {c : Nat} {la : Option Addr} {lc : Nat} {bs : List Nat} {W W' : World} (h : WStA wb fv sv p L a c la lc bs W) (m : Mr W W') : WStA wb fv sv p L a c la lc bs W' := by
  refine ⟨m.2 _ _ _ _ (by decide) h.box, h.cap, h.stk.mr m, ?_, h.len, h.nod, h.gt, fun i hi => (h.blk i hi).mr m⟩
  refine ⟨h.row.1, ?_⟩
  rcases h.row.2 with h2 | ⟨g, cap, cur, e, hg, hh, r⟩
  · exact .inl h2
  · exact .inr ⟨g, cap, cur, e, hg, m.2 _ _ _ _ (by decide) hh, r⟩
/-- The slices' values of stacks. -/
def RwI (B : Nat) (W : World) (vs : List Value) (R : List (List Int)) : Prop := vs.length = R.length ∧ ∀ j (h : j < R.length), ∃ a c, vs[j]? = some (.slice a R[j].length c) ∧ R[j].length ≤ c ∧ NsIn B W a R[j]
theorem RwI.mv {B : Nat} {W W' : World} {vs : List Value} {R : List (List Int)} (h : RwI B W vs R) (hm : ∀ a ns, NsIn B W a ns → NsIn B W' a ns) : RwI B W' vs R := ⟨h.1, fun j hj => by
  obtain ⟨a, c, h1, h2, h3⟩ := h.2 j hj
  exact ⟨a, c, h1, h2, hm _ _ h3⟩⟩
theorem RwI.snoc {B : Nat} {W : World} {vs : List Value} {R : List (List Int)} {p : List Int} {a : Option Addr} {c : Nat} (h : RwI B W vs R) (hc : p.length ≤ c) (hN : NsIn B W a p) : RwI B W (vs ++ [.slice a p.length c]) (R ++ [p]) := by
  refine ⟨by simp [h.1], fun j hj => ?_⟩
  rw [List.length_append, List.length_singleton] at hj
  by_cases hjr : j < R.length
  · obtain ⟨a', c', h1, h2, h3⟩ := h.2 j hjr
    refine ⟨a', c', ?_, ?_, ?_⟩
    · rw [List.getElem?_append_left (by rw [h.1]; exact hjr), List.getElem_append_left hjr]; exact h1
    · rw [List.getElem_append_left hjr]; exact h2
    · rw [List.getElem_append_left hjr]; exact h3
  · have hjr : j = R.length := by omega
    subst hjr
    rw [List.getElem_append_right (Nat.le_refl _)]
    simp only [Nat.sub_self, List.getElem_cons_zero]
    exact ⟨a, c, by rw [← h.1, List.getElem?_append_right (Nat.le_refl _)]; simp, hc, hN⟩
theorem RwI.one {B : Nat} {W : World} {vs : List Value} {R : List (List Int)} (h : RwI B W vs R) : ∀ u ∈ vs, u.oneCell' = true := by
  intro u hu
  obtain ⟨j, hj, rfl⟩ := List.getElem_of_mem hu
  obtain ⟨a, c, h1, _⟩ := h.2 j (by rw [← h.1]; exact hj)
  rw [List.getElem?_eq_getElem hj] at h1
  rw [Option.some.inj h1]
  rfl
theorem row_mv7 {W W' : World} {base n : Nat} {v : Value} {xs : List Value} (h : W.ownsRow base 28 1 v n xs) (m : Mv7 W W') : W'.ownsRow base 28 1 v n xs := by
  refine ⟨h.1, ?_⟩
  rcases h.2 with h2 | ⟨g, cap, cur, e, hg, hh, r⟩
  · exact .inl h2
  · exact .inr ⟨g, cap, cur, e, hg, m.2 _ _ _ _ (by decide) (by decide) (by decide) hh, r⟩
end Go.Proofs.YtfnpngbcnmglfaaGreat
namespace Go.Proofs.YtfnpngbcnmglfaaGreat
open Go.RowKit
theorem cell_op {w : World} {cb co : Nat} {cs : List (Int × Int)} (h : IsAt w.cell? (some ⟨cb, co, none⟩) cs) (j : Nat) (hj : j < cs.length) : w.cell? ⟨cb, co + j * 2, none⟩ = some (.int .i64 (opA cs j)) := is_at h j hj
set_option maxRecDepth 100000 in
set_option maxHeartbeats 1000000 in
theorem closes_any (cs : List (Int × Int)) (cb co cc n : Nat) (hn : cs.length = n) (bn : n ≤ 1000000000) (i : Nat) (hi : i < n) (w : World) (hc : IsAt w.cell? (some ⟨cb, co, none⟩) cs) :
    Calls Tryz.prog 157 #[.slice (some ⟨cb, co, none⟩) n cc, .int .i64 i] w fun e w' => e = .returned (.tuple #[.int .i64 (closeAt (opA cs) n i).1, .int .i64 (closeAt (opA cs) n i).2]) ∧ w' = w := by
  obtain ⟨r, hr⟩ : ∃ r, r = closeAt (opA cs) n i := ⟨_, rfl⟩
  rw [← hr]
  have HC : Hid (∀ j, j < n → w.cell? ⟨cb, co + j * 2, none⟩ = some (.int .i64 (opA cs j))) := hid6 fun j hj => cell_op hc j (by omega)
  have HR := hid6 hr
  clear hr hc hn
  go_enter Tryz.func157, Tryz.ntmps157
  go_wp2
  go_loopw [6, 7, 8] (fun dv ov jv wr => ∃ (d j : Nat) (o : Int), dv = .int .i64 d ∧ ov = .int .i64 o ∧ jv = .int .i64 j ∧ i < j ∧ j ≤ n ∧ d ≤ j ∧ -1 ≤ o ∧ Hid (r = closeS (opA cs) (decide (opA cs i = 48)) (n - j) j d o) ∧ wr = w) (fun _ _ jv _ => n - (intOf jv).toNat)
  case atStart => exact ⟨0, i + 1, -1, rfl, rfl, by go_num, by omega, by omega, by omega, by omega, HR, rfl⟩
  case round =>
    obtain ⟨d, j, o, rfl, rfl, rfl, h1, h2, h3, h4, H5, rfl⟩ := hrel
    by_cases hj : j < n
    · have c0 := HC.out j hj
      have c1 := HC.out i hi
      have H6 := hid6 (H5.out.trans (closeS_succ hj))
      clear H5 HR
      generalize opA cs j = o1 at c0 H6
      generalize hfo : opA cs i = o2 at c1 H6
      clear hfo
      by_cases e1 : o1 = 48
      · subst e1
        have H7 := hid6 (H6.out.trans (if_pos (.inl rfl)))
        go_wp2
        refine ⟨⟨d + 1, j + 1, o, by go_num, rfl, by go_num, by omega, by omega, by omega, h4, H7, by trivial⟩, by simp [intOf]; omega⟩
      by_cases e2 : o1 = 51
      · subst e2
        have H7 := hid6 (H6.out.trans (if_pos (.inr rfl)))
        go_wp2
        refine ⟨⟨d + 1, j + 1, o, by go_num, rfl, by go_num, by omega, by omega, by omega, h4, H7, by trivial⟩, by simp [intOf]; omega⟩
      have H7 := hid6 (H6.out.trans (if_neg (by omega)))
      clear H6
      by_cases e3 : o1 = 49
      · subst e3
        have H8 := hid6 (H7.out.trans (if_pos rfl))
        clear H7
        by_cases e4 : d = 0
        · subst e4
          have H9 := hid6 (H8.out.trans (if_pos rfl))
          clear H8
          by_cases e5 : 0 ≤ o
          · have H10 := hid6 (H9.out.trans (if_pos (.inl e5)))
            clear H9
            go_wp2
            go_ret2
            exact ⟨by rw [H10.out]; rfl, rfl⟩
          · by_cases e6 : o2 = 48
            · subst e6
              have H10 := hid6 (H9.out.trans (if_neg (by simp; omega)))
              clear H9
              go_wp2
              refine ⟨⟨0, j + 1, j, rfl, rfl, by go_num, by omega, by omega, by omega, by omega, H10, by trivial⟩, by simp [intOf]; omega⟩
            · have H10 := hid6 (H9.out.trans (if_pos (.inr (by simp [e6]))))
              clear H9
              go_wp2
              go_ret2
              exact ⟨by rw [H10.out]; rfl, rfl⟩
        · have H9 := hid6 (H8.out.trans (if_neg e4))
          clear H8
          go_wp2
          refine ⟨⟨d, j + 1, o, rfl, rfl, by go_num, by omega, by omega, by omega, h4, H9, by trivial⟩, by simp [intOf]; omega⟩
      have H8 := hid6 (H7.out.trans (if_neg e3))
      clear H7
      by_cases e7 : o1 = 50
      · subst e7
        have H9 := hid6 (H8.out.trans (if_pos rfl))
        clear H8
        by_cases e4 : d = 0
        · subst e4
          have H10 := hid6 (H9.out.trans (if_pos rfl))
          clear H9
          go_wp2
          go_ret2
          exact ⟨by rw [H10.out]; rfl, rfl⟩
        · have H10 := hid6 (H9.out.trans (if_neg e4))
          clear H9
          go_wp2
          refine ⟨⟨d - 1, j + 1, o, by go_num, rfl, by go_num, by omega, by omega, by omega, h4, H10, by trivial⟩, by simp [intOf]; omega⟩
      have H9 := hid6 (H8.out.trans (if_neg e7))
      clear H8
      go_wp2
      refine ⟨⟨d, j + 1, o, rfl, rfl, by go_num, by omega, by omega, by omega, h4, H9, by trivial⟩, by simp [intOf]; omega⟩
    · have : j = n := by omega
      subst this
      have H6 : Hid (r = (o, -1)) := hid6 (by rw [H5.out, Nat.sub_self, closeS])
      clear H5 HR
      go_wp2
      go_ret2
      exact ⟨by rw [H6.out]; rfl, rfl⟩
end Go.Proofs.YtfnpngbcnmglfaaGreat
