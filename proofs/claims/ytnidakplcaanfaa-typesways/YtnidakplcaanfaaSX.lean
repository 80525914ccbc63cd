/- What stands between an opener and its end, its leaves struck, is of good shape: plain facts. -/
import Derived.Test.YtnidakplcaanfaaDE
namespace Go.Proofs.Ytnidakplcaanfaa
theorem lvS_mem {L : List Blk} (h : (firstIx L Blk.l L.length).isSome = true) : ∃ b ∈ L, b.s = lvS L := by
  obtain ⟨i, hi⟩ := Option.isSome_iff_exists.1 h
  obtain ⟨_, b, hb, _⟩ := firstIx_lt hi
  exact ⟨b, List.mem_of_getElem? hb, by rw [lvS, hi]; simp [hb]⟩
/-- A block that is open at j ends at j or behind. -/
theorem open_end {op : Nat → Int} {n j s e : Nat} {o : Int} (N : Nest op n) (hj : j ≤ n) {b : Blk} (hb : b ∈ stk op j) (hs : b.s = s) (hC : Closed op n s o e) : j ≤ e := by
  obtain ⟨A, R, hA⟩ := List.append_of_mem hb
  obtain ⟨i, p1, p2, p3, p4, p5, p6, p7⟩ := (N.ci j hj).blk A b R hA
  have : i = s := by omega
  subst this
  have r := (closeS_rng (op := op) (f := decide (op i = 48)) (n - j) j R.length b.o).1
  rw [← p7, hC.at'] at r
  simp only at r
  omega
theorem pair_leave {cs : List (Int × Int)} (hg : goodS cs = true) {j : Nat} (hj : j < cs.length) (ho : opA cs j = 52) : ∃ e : Nat, gI (matchS cs) j = e ∧ j < e ∧ e < cs.length ∧ opA cs e = 50 := by
  have N := good_nest hg
  have G := match_gm hg
  obtain ⟨s, a1, a2, a3, a4⟩ := G.lev j hj ho
  obtain ⟨o, e, he, hC⟩ := N.opn (by omega : s < cs.length) (.inr a3)
  have ho1 : o = -1 := by
    rcases hC.els with c | ⟨x, _, _, _, _, _, c⟩
    · exact c
    · omega
  have hs := ((good_iff cs).1 hg).1 j hj
  rw [ho] at hs
  obtain ⟨b, hb, hbs⟩ := lvS_mem (L := stk (opA cs) j) (by simpa [standS] using hs)
  have h1 := open_end N (by omega) hb (hbs.trans a2) hC
  have h2 := hC.end'
  have h3 : j ≠ e := by rintro rfl; omega
  refine ⟨e, ?_, by omega, he, h2⟩
  have := (G.fit _ _ _ hC trivial he).2.1
  rw [if_pos ho1] at this
  exact a4.trans this
theorem pair_rng {cs : List (Int × Int)} (hg : goodS cs = true) {j : Nat} (hj : j < cs.length) : -1 ≤ gI (matchS cs) j ∧ gI (matchS cs) j < cs.length := by
  have N := good_nest hg
  have G := match_gm hg
  by_cases h1 : Opn (opA cs) j
  · have := (fit_noted N (matchS_len cs) G.fit).rng j hj h1
    omega
  by_cases h2 : opA cs j = 49
  · obtain ⟨s, e, he, hC⟩ := N.els hj h2
    have : gI (matchS cs) j = e := (G.fit _ _ _ hC trivial he).2.2 j rfl
    omega
  by_cases h3 : opA cs j = 50
  · obtain ⟨s, o, hC⟩ := N.ends hj h3
    have : gI (matchS cs) j = s := (G.fit _ _ _ hC trivial hj).1
    have := hC.lt
    omega
  by_cases h4 : opA cs j = 52
  · obtain ⟨e, a, b, c, d⟩ := pair_leave hg hj h4
    omega
  · have : gI (matchS cs) j = -1 := G.oth j hj h1 h2 h3 h4
    omega
/-- Two stacks alike, but for places. -/
def likeB (b : Blk) : Bool × Bool := (b.l, decide (b.o = -1))
theorem like_last {L L' : List Blk} (h : L.map likeB = L'.map likeB) : L.getLast?.map likeB = L'.getLast?.map likeB := by rw [← List.getLast?_map, ← List.getLast?_map, h]
theorem stand_like {L L' : List Blk} (h : L.map likeB = L'.map likeB) {n : Int} (hn : n ≠ 52) : standS n L = standS n L' := by
  have hl : L.length = L'.length := by have := congrArg List.length h; simpa using this
  have ha := like_last h
  unfold standS
  rw [hl]
  split
  · rfl
  split
  · cases h1 : L.getLast? <;> cases h2 : L'.getLast? <;> rw [h1, h2] at ha <;> simp [likeB] at ha ⊢
    simp [ha.1, ha.2]
  split
  · rfl
  · first | rw [if_neg hn, if_neg hn] | rfl
theorem step_like {L L' : List Blk} (h : L.map likeB = L'.map likeB) {n x x' : Int} (hx : 0 ≤ x) (hx' : 0 ≤ x') : (stepS n x L).map likeB = (stepS n x' L').map likeB := by
  have ha := like_last h
  have hd : L.dropLast.map likeB = L'.dropLast.map likeB := by rw [List.map_dropLast, List.map_dropLast, h]
  unfold stepS
  split
  · rw [List.map_append, List.map_append, h]; rfl
  split
  · cases h1 : L.getLast? <;> cases h2 : L'.getLast? <;> rw [h1, h2] at ha <;> simp [likeB] at ha
    · exact h
    · simp only [List.map_append, hd, List.map_cons, List.map_nil, likeB]
      rw [ha.1, show decide (x = -1) = false by simp; omega, show decide (x' = -1) = false by simp; omega]
  split
  · exact hd
  · exact h
theorem drop_step {L : List Blk} {h : Nat} {n x : Int} (hl : h ≤ L.length) (hs : n = 49 ∨ n = 50 → h < L.length) : (stepS n x L).drop h = stepS n x (L.drop h) := by
  unfold stepS
  split
  · rw [List.drop_append_of_le_length hl]
  rcases List.eq_nil_or_concat L with rfl | ⟨M, b, rfl⟩
  · simp
  rw [List.concat_eq_append] at hl hs ⊢
  simp only [List.length_append, List.length_singleton] at hl hs
  split
  · have hm : h ≤ M.length := by have := hs (.inl (by assumption)); omega
    rw [List.drop_append_of_le_length hm]
    simp [List.drop_append_of_le_length hm]
  split
  · have hm : h ≤ M.length := by have := hs (.inr (by assumption)); omega
    rw [List.drop_append_of_le_length hm]
    simp
  · rfl
theorem stand_drop {L : List Blk} {h : Nat} {n : Int} (hn : n ≠ 52) (hs : n = 49 ∨ n = 50 → h < L.length) (hst : standS n L = true) : standS n (L.drop h) = true := by
  unfold standS at hst ⊢
  split
  · rename_i h1
    rw [if_pos h1] at hst
    have := of_decide_eq_true hst
    exact decide_eq_true (by rw [List.length_drop]; omega)
  rename_i h1
  rw [if_neg h1] at hst
  split
  · rename_i h2
    rw [if_pos h2] at hst
    have := hs (.inl h2)
    rw [List.getLast?_drop, if_neg (by omega)]
    exact hst
  rename_i h2
  rw [if_neg h2] at hst
  split
  · rename_i h3
    have := hs (.inr h3)
    exact decide_eq_true (by rw [List.length_drop]; omega)
  · first | rw [if_neg hn] | rfl
/-- What stands from f on and ahead of k, its leaves struck. -/
def inS (cs : List (Int × Int)) (f k : Nat) : List (Int × Int) := ((cs.take k).drop f).filter (fun x => decide (x.1 ≠ 52))
theorem inS_next {cs : List (Int × Int)} {f k : Nat} (hf : f ≤ k) (hk : k < cs.length) : inS cs f (k + 1) = if cs[k].1 = 52 then inS cs f k else inS cs f k ++ [cs[k]] := by
  unfold inS
  rw [List.take_succ_eq_append_getElem hk, List.drop_append_of_le_length (by rw [List.length_take]; omega), List.filter_append]
  by_cases h : cs[k].1 = 52
  · rw [if_pos h]; simp [h]
  · rw [if_neg h]; simp [h]
theorem inS_start (cs : List (Int × Int)) (f : Nat) : inS cs f f = [] := by
  unfold inS
  rw [List.drop_eq_nil_of_le (by rw [List.length_take]; omega)]
  rfl
theorem inS_len (cs : List (Int × Int)) (f k : Nat) : (inS cs f k).length ≤ k := by
  unfold inS
  refine Nat.le_trans (List.length_filter_le _ _) ?_
  rw [List.length_drop, List.length_take]
  omega
theorem between_good {cs : List (Int × Int)} (hg : goodS cs = true) {i s f : Nat} {o : Int} (hi : i < cs.length) (hC : Closed (opA cs) cs.length s o i) (hf : (o = -1 ∧ f = s + 1) ∨ ∃ x : Nat, o = x ∧ f = x + 1) : goodS (inS cs f i) = true := by
  have N := good_nest hg
  have hst := ((good_iff cs).1 hg).1
  have hlt := hC.lt
  have hfs : s < f ∧ f ≤ i := by
    rcases hf with ⟨h1, h2⟩ | ⟨x, h1, h2⟩
    · omega
    · have := hC.els' h1; omega
  -- block s is open from s + 1 on till i
  have hopen : ∀ k, s < k → k ≤ i → ∃ (b : Blk) (R : List Blk), stk (opA cs) k = stk (opA cs) s ++ b :: R ∧ b.s = s := by
    intro k h1 h2
    rcases (N.ci k (by omega)).opn s h1 hC.opn with ⟨b, hb, hbs⟩ | ⟨o', e', h3, h4⟩
    · obtain ⟨A, R, hA⟩ := List.append_of_mem hb
      obtain ⟨i', p1, p2, p3, p4, p5, _⟩ := (N.ci k (by omega)).blk A b R hA
      have : i' = s := by omega
      subst this
      rw [← p5] at hA
      exact ⟨b, R, hA, hbs⟩
    · have := (hC.uniq h4).2; omega
  obtain ⟨h, hh⟩ : ∃ h, h = (stk (opA cs) s).length + 1 := ⟨_, rfl⟩
  have hlen : ∀ k, s < k → k ≤ i → h ≤ (stk (opA cs) k).length := by
    intro k h1 h2
    obtain ⟨b, R, e1, _⟩ := hopen k h1 h2
    rw [e1, hh, List.length_append]
    simp
  have htop : ∀ k, s < k → k ≤ i → (stk (opA cs) k).length = h → Top (opA cs) k s := by
    intro k h1 h2 h3
    obtain ⟨b, R, e1, e2⟩ := hopen k h1 h2
    rw [e1, hh, List.length_append] at h3
    have : R = [] := by
      cases R with
      | nil => rfl
      | cons => simp at h3
    subst this
    exact ⟨_, b, e1, e2⟩
  have hno : ∀ k, f ≤ k → k < i → (opA cs k = 49 ∨ opA cs k = 50) → h < (stk (opA cs) k).length := by
    intro k h1 h2 h3
    have h4 := hlen k (by omega) (by omega)
    by_cases h5 : (stk (opA cs) k).length = h
    · exfalso
      have ht := htop k (by omega) (by omega) h5
      rcases h3 with h3 | h3
      · obtain ⟨s', e', _, hC'⟩ := N.els (by omega : k < cs.length) h3
        have := ht.uniq (hC'.els' rfl).2.2.2
        subst this
        obtain ⟨r1, r2⟩ := hC.uniq hC'
        rcases hf with ⟨g1, g2⟩ | ⟨x, g1, g2⟩ <;> omega
      · obtain ⟨s', o', hC'⟩ := N.ends (by omega : k < cs.length) h3
        have := ht.uniq hC'.top
        subst this
        have := (hC.uniq hC').2
        omega
    · omega
  have key : ∀ k, f ≤ k → k ≤ i → ∃ L', runS (opsI (inS cs f k)) 0 [] = some L' ∧ L'.map likeB = ((stk (opA cs) k).drop h).map likeB := by
    intro k h1
    induction k with
    | zero => intro _; omega
    | succ k ih =>
      intro h2
      by_cases h3 : f = k + 1
      · refine ⟨[], by rw [← h3, inS_start]; rfl, ?_⟩
        have : (stk (opA cs) (k + 1)).length = h := by
          rcases hf with ⟨g1, g2⟩ | ⟨x, g1, g2⟩
          · have hk : k = s := by omega
            subst hk
            have ho : opA cs k = 48 ∨ opA cs k = 51 := hC.opn
            rw [stk, stepS, if_pos ho, hh, List.length_append]; rfl
          · have hk : k = x := by omega
            subst hk
            obtain ⟨c1, c2, c3, A, b, t1, t2⟩ := hC.els' g1
            obtain ⟨b', R, e1, e2⟩ := hopen k c1 (by omega)
            have hR : R = [] := by
              rcases List.eq_nil_or_concat R with rfl | ⟨R', r, rfl⟩
              · rfl
              · exfalso
                rw [List.concat_eq_append] at e1
                have q : (stk (opA cs) s ++ b' :: R') ++ [r] = A ++ [b] := by rw [← t1, e1]; simp
                obtain ⟨q1, q2⟩ := List.append_inj' q rfl
                have q3 : r = b := by simpa using q2
                subst q3
                obtain ⟨i', p1, p2, p3, p4, p5, _⟩ := (N.ci k (by omega)).blk A r [] t1
                have : i' = s := by omega
                subst this
                have := congrArg List.length (q1.trans p5.symm)
                simp at this
            subst hR
            rw [stk, e1, c3]
            simp [stepS, hh]
        rw [List.drop_eq_nil_of_le (by omega)]
      · obtain ⟨L', r1, r2⟩ := ih (by omega) (by omega)
        have hop : opA cs k = cs[k].1 := ops_at (cs := cs) (k := k) (by omega)
        have hs := hst k (by omega)
        rw [inS_next (by omega) (by omega), ← hop]
        have e1 : (stk (opA cs) (k + 1)).drop h = stepS (opA cs k) k ((stk (opA cs) k).drop h) := drop_step (hlen k (by omega) (by omega)) (hno k (by omega) (by omega))
        by_cases h52 : opA cs k = 52
        · rw [if_pos h52]
          refine ⟨L', r1, ?_⟩
          rw [r2, e1, h52]
          simp [stepS]
        · rw [if_neg h52]
          have hs2 : standS (opA cs k) L' = true := by
            rw [stand_like r2 h52]
            exact stand_drop h52 (hno k (by omega) (by omega)) hs
          refine ⟨stepS (opA cs k) ((inS cs f k).length : Int) L', ?_, ?_⟩
          · rw [opsI, List.map_append, runS_append, show List.map Prod.fst (inS cs f k) = opsI (inS cs f k) from rfl, r1]
            simp only [Option.bind, List.map_cons, List.map_nil, runS, ← hop, if_pos hs2]
            simp [opsI]
          · rw [e1]
            exact step_like r2 (by omega) (by omega)
  obtain ⟨L', r1, r2⟩ := key i (by omega) (Nat.le_refl _)
  have hend : (stk (opA cs) i).length = h := by
    obtain ⟨A, b, t1, t2⟩ := hC.top
    obtain ⟨i', p1, p2, p3, p4, p5, _⟩ := (N.ci i (by omega)).blk A b [] t1
    have : i' = s := by omega
    subst this
    rw [t1, hh, p5]; simp
  rw [List.drop_eq_nil_of_le (by omega)] at r2
  have : L' = [] := by simpa using r2
  subst this
  exact decide_eq_true r1
end Go.Proofs.Ytnidakplcaanfaa
