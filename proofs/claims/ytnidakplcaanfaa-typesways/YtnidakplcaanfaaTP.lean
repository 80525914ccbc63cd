/- The open blocks of types go with those of shape: plain facts. What a walk through a function's instructions comes to: plain facts. types.stacks: what it keeps. The document's closes. -/
import Derived.Test.YtnidakplcaanfaaTM
import Derived.Test.YtnidakplcaanfaaST
import Derived.Test.YtnidakplcaanfaaCL
import Derived.Test.YtnidakplcaanfaaSL
namespace Go.Proofs.Ytnidakplcaanfaa
/-- Alike: loops at the same places. -/
def Goes (L : List OB) (S : List Blk) : Prop := L.map OB.lo = S.map Blk.l
theorem Goes.len {L : List OB} {S : List Blk} (h : Goes L S) : L.length = S.length := by have := congrArg List.length h; simpa using this
theorem Goes.at' {L : List OB} {S : List Blk} (h : Goes L S) (i : Nat) : L[i]?.map OB.lo = S[i]?.map Blk.l := by rw [← List.getElem?_map, ← List.getElem?_map, h]
theorem Goes.first {L : List OB} {S : List Blk} (h : Goes L S) : ∀ k, k ≤ S.length → fstIx (fun i => (L[i]?.map OB.lo).getD false) k = firstIx S Blk.l k
  | 0, _ => rfl
  | k + 1, hk => by
    rw [fstIx, firstIx, h.at' k, List.getElem?_eq_getElem (by omega : k < S.length)]
    simp only [Option.map_some, Option.getD_some]
    rw [h.first k (by omega)]
theorem Goes.lp {L : List OB} {S : List Blk} (h : Goes L S) : lpIx L = firstIx S Blk.l S.length := by rw [lpIx, h.len, h.first _ (Nat.le_refl _)]
theorem Goes.ok {L : List OB} {S : List Blk} (h : Goes L S) {n : Int} (hs : standS n S = true) : TurnOk n L := by
  unfold standS at hs
  refine ⟨fun hn hL => ?_, fun hn => ?_⟩
  · have h0 : S = [] := by have := h.len; rw [hL] at this; exact List.eq_nil_of_length_eq_zero this.symm
    subst h0
    rcases hn with rfl | rfl <;> simp at hs
  · subst hn
    rw [h.lp]
    simpa using hs
theorem Goes.next {L : List OB} {S : List Blk} (h : Goes L S) (n x : Int) (p : List Int) (hs : standS n S = true) : Goes (turnW n p L).2.2 (stepS n x S) := by
  unfold turnW stepS
  by_cases h1 : n = 48 ∨ n = 51
  · rw [if_pos h1, if_pos h1]
    show (L ++ [_]).map OB.lo = (S ++ [_]).map Blk.l
    rw [List.map_append, List.map_append, show L.map OB.lo = S.map Blk.l from h]
    rfl
  rw [if_neg h1, if_neg h1]
  by_cases h2 : n = 49
  · rw [if_pos h2, if_pos h2]
    rcases List.eq_nil_or_concat L with rfl | ⟨M, b, rfl⟩
    · have : S = [] := by have := h.len; exact List.eq_nil_of_length_eq_zero this.symm
      subst this
      exact h
    rcases List.eq_nil_or_concat S with rfl | ⟨T, c, rfl⟩
    · have := h.len; simp at this
    rw [List.concat_eq_append, List.concat_eq_append] at h ⊢
    have h' : M.map OB.lo ++ [b.lo] = T.map Blk.l ++ [c.l] := by simpa [Goes] using h
    obtain ⟨q1, q2⟩ := List.append_inj' h' rfl
    have q3 : b.lo = c.l := by simpa using q2
    simp only [List.getLast?_append, List.getLast?_singleton, Option.some_or, List.dropLast_concat]
    show (M ++ [_]).map OB.lo = (T ++ [_]).map Blk.l
    simp [q1, q3]
  rw [if_neg h2, if_neg h2]
  by_cases h3 : n = 50
  · rw [if_pos h3, if_pos h3]
    rcases List.eq_nil_or_concat L with rfl | ⟨M, b, rfl⟩
    · have : S = [] := by have := h.len; exact List.eq_nil_of_length_eq_zero this.symm
      subst this
      exact h
    rcases List.eq_nil_or_concat S with rfl | ⟨T, c, rfl⟩
    · have := h.len; simp at this
    rw [List.concat_eq_append, List.concat_eq_append] at h ⊢
    have h' : M.map OB.lo ++ [b.lo] = T.map Blk.l ++ [c.l] := by simpa [Goes] using h
    obtain ⟨q1, _⟩ := List.append_inj' h' rfl
    simp only [List.getLast?_append, List.getLast?_singleton, Option.some_or, List.dropLast_concat]
    exact q1
  rw [if_neg h3, if_neg h3]
  by_cases h4 : n = 52
  · rw [if_pos h4]
    cases (lpIx L).bind (fun i => L[i]?) with
    | none => exact h
    | some b => exact h
  · rw [if_neg h4]; exact h
end Go.Proofs.Ytnidakplcaanfaa
namespace Go.Proofs.Ytnidakplcaanfaa
/-- From here on: the error, and the stacks. -/
def chkFrom (fs : List Fn) (sl res : List Int) : List (Int × Int) → List Int → List OB → List (List Int) → Int × List (List Int)
  | [], p, _, R => if alikeS p res = 0 then (0, R ++ [p]) else (alikeS p res, [])
  | x :: r, p, L, R => if (passW fs sl x p L).1 = 0 then chkFrom fs sl res r (passW fs sl x p L).2.1 (passW fs sl x p L).2.2 (R ++ [p]) else ((passW fs sl x p L).1, [])
theorem tab_le : (∀ k : Fin 54, (inTab.getD k.1 []).length ≤ 10) ∧ ∀ k : Fin 54, (outTab.getD k.1 []).length ≤ 10 := by decide
theorem inT_le (n : Int) : (inT n).length ≤ 10 := by
  unfold inT rowOf
  split
  · exact tab_le.1 ⟨n.toNat, by omega⟩
  · exact Nat.zero_le _
theorem outT_le (n : Int) : (outT n).length ≤ 10 := by
  unfold outT rowOf
  split
  · exact tab_le.2 ⟨n.toNat, by omega⟩
  · exact Nat.zero_le _
/-- Heads of functions that may be. -/
def HeadsR (fs : List Fn) : Prop := ∀ f ∈ fs, f.p.length ≤ 8 ∧ f.r.length ≤ 8
theorem fnAt_le {fs : List Fn} (h : HeadsR fs) (k : Int) : (fnAt fs k).p.length ≤ 8 ∧ (fnAt fs k).r.length ≤ 8 := by
  unfold fnAt
  rw [List.getD_eq_getElem?_getD]
  cases hk : fs[k.toNat]? with
  | none => exact ⟨Nat.zero_le _, Nat.zero_le _⟩
  | some f => exact h f (List.mem_of_getElem? hk)
theorem takenS_le {fs : List Fn} (h : HeadsR fs) (sl : List Int) (x : Int × Int) : (takenS fs sl x).length ≤ 10 := by
  unfold takenS
  split
  · simp
  split
  · have := (fnAt_le h x.2).1; omega
  · exact inT_le _
theorem givenS_le {fs : List Fn} (h : HeadsR fs) (sl : List Int) (x : Int × Int) (had : List Int) : (givenS fs sl x had).length ≤ 2 * had.length + 10 := by
  unfold givenS
  split
  · rw [List.length_append]; omega
  split
  · rw [List.length_append, List.length_drop, List.length_singleton]; omega
  split
  · rw [List.length_append, List.length_singleton]; omega
  split
  · simp
  split
  · have := (fnAt_le h x.2).2; omega
  · have := outT_le x.1; omega
theorem stepW_le {fs : List Fn} (h : HeadsR fs) (sl : List Int) (x : Int × Int) (p : List Int) (hp : p.length ≤ 32) : (stepW fs sl x p).2.length ≤ 200 := by
  unfold stepW
  split
  · have := givenS_le h sl x (p.drop (takeS p (takenS fs sl x)).2)
    rw [List.length_drop] at this
    simp only [List.length_append, List.length_take]
    omega
  · show p.length ≤ 200; omega
/-- The blocks' stacks are short. -/
def OBs (L : List OB) : Prop := ∀ b ∈ L, b.en.length ≤ 1000 ∧ b.la.length ≤ 1000
theorem turnW_obs {n : Int} {p : List Int} {L : List OB} (h : OBs L) (hp : p.length ≤ 1000) : OBs (turnW n p L).2.2 := by
  unfold turnW
  split
  · intro b hb
    rcases List.mem_append.1 hb with hb | hb
    · exact h b hb
    · rw [List.mem_singleton] at hb; subst hb; exact ⟨hp, hp⟩
  split
  · cases hl : L.getLast? with
    | none => exact h
    | some c =>
      intro b hb
      rcases List.mem_append.1 hb with hb | hb
      · exact h b (List.dropLast_subset _ hb)
      · rw [List.mem_singleton] at hb; subst hb; exact ⟨(h c (List.mem_of_getLast? hl)).1, hp⟩
  split
  · cases L.getLast? with
    | none => exact h
    | some c => exact fun b hb => h b (List.dropLast_subset _ hb)
  split
  · cases (lpIx L).bind (fun i => L[i]?) with
    | none => exact h
    | some c => exact h
  · exact h
/-- One instruction that is passed. -/
theorem pass_ok {fs : List Fn} (hh : HeadsR fs) {sl : List Int} {x : Int × Int} {p : List Int} {L : List OB} {S : List Blk} (hp : p.length ≤ 32) (hL : OBs L) (hg : Goes L S) (hs : standS x.1 S = true) (k : Int) (h0 : (passW fs sl x p L).1 = 0) :
    (passW fs sl x p L).2.1.length ≤ 32 ∧ OBs (passW fs sl x p L).2.2 ∧ Goes (passW fs sl x p L).2.2 (stepS x.1 k S) := by
  have hst := stepW_le hh sl x p hp
  have h1 : OBs (turnW x.1 (stepW fs sl x p).2 L).2.2 := turnW_obs hL (by omega)
  have h2 := hg.next x.1 k (stepW fs sl x p).2 hs
  unfold passW at h0 ⊢
  split at h0
  · exact absurd h0 (by assumption)
  rename_i g1
  rw [if_neg g1]
  split at h0
  · exact absurd h0 (by assumption)
  rename_i g2
  rw [if_neg g2]
  split at h0
  · simp at h0
  rename_i g3
  rw [if_neg g3]
  exact ⟨by show (turnW x.1 (stepW fs sl x p).2 L).2.1.length ≤ 32; omega, h1, h2⟩
end Go.Proofs.Ytnidakplcaanfaa
namespace Go.Proofs.Ytnidakplcaanfaa
open Go.RowKit Go.Shelf
theorem elemN_sli : ElemN Try.prog 27 35 1 24 := by
  refine ⟨Try.underlying27, ?_, by decide⟩
  obtain ⟨i, hi, h1, h2, h3⟩ := info_parts (show (Try.prog.info? 35).map (fun i => (i.zero, i.size, i.bytes)) = some (some (.slice none 0 0), 1, 24) by kernel_rfl)
  exact ⟨i, _, hi, h1, h2, h3, rfl⟩
theorem match7 (cs : List (Int × Int)) (a : Option Addr) (c n : Nat) (hn : cs.length = n) (bn : n ≤ 1000000000) (w : World) (h : IsAt w.cell? a cs) : Calls Try.prog 21 #[.slice a n c] w (MatchEnd cs w) := by
  subst hn
  rcases h with rfl | ⟨b, off, rfl, hh⟩
  · exact match_any [] a c 0 0 (.inl rfl) bn w (fun j h => by cases h)
  · exact match_any cs _ c b off (.inr rfl) bn w hh
/-- Rows of stacks alone have turned. -/
def Mr (W W' : World) : Prop := W.heap.size ≤ W'.heap.size ∧ ∀ (k : Nat) (cur : Array Value) (t : TypeId) (z : Nat × Nat), t ≠ 35 → W.heap[k]? = some (.cells cur t z) → W'.heap[k]? = some (.cells cur t z)
theorem Mr.below {W W' : World} (h : Below W.heap.size W W') : Mr W W' := ⟨h.size, fun k _ _ _ _ hk => (h.block k (blk_lt hk)).trans hk⟩
theorem Mr.trans {A B C : World} (h : Mr A B) (g : Mr B C) : Mr A C := ⟨Nat.le_trans h.1 g.1, fun k cur t z h1 hk => g.2 k cur t z h1 (h.2 k cur t z h1 hk)⟩
theorem Mr.step {W W' : World} {base n : Nat} {v v' : Value} {xs : List Value} (hr : W.ownsRow base 35 1 v n xs) (hs : Step W v W' v') : Mr W W' := by
  refine ⟨hs.1.size, fun k cur t z h1 hk => (hs.1.block k (blk_lt hk) fun h => ?_).trans hk⟩
  rcases hr.2 with ⟨rfl, _⟩ | ⟨g, cap, cur', rfl, _, hh, _⟩
  · cases h
  · cases h
    rw [hk] at hh
    cases hh
    exact h1 rfl
theorem NsIn.mr {B : Nat} {W W' : World} {a : Option Addr} {ns : List Int} (h : NsIn B W a ns) (m : Mr W W') : NsIn B W' a ns := by
  rcases h with h | ⟨b, off, cur, e, hB, hb, hc⟩
  · exact .inl h
  · have hb' := m.2 b cur 3 (0, 0) (by decide) hb
    exact .inr ⟨b, off, cur, e, hB, hb', fun j hj => (cell_heap7 (hb'.trans hb.symm)).trans (hc j hj)⟩
theorem OBat.mr {B : Nat} {x : OB} {b : Nat} {W W' : World} (h : OBat B x b W) (m : Mr W W') : OBat B x b W' := by
  obtain ⟨a1, c1, a2, c2, h1, h2, h3, h4, h5⟩ := h
  exact ⟨a1, c1, a2, c2, m.2 _ _ _ _ (by decide) h1, h2, h3, h4.mr m, h5.mr m⟩
theorem WStA.mr {wb : Nat} {fv sv : Value} {p : List Int} {L : List OB} {a : Option Addr} {c : Nat} {la : Option Addr} {lc : Nat} {bs : List Nat} {W W' : World} (h : WStA wb fv sv p L a c la lc bs W) (m : Mr W W') : WStA wb fv sv p L a c la lc bs W' := by
  refine ⟨m.2 _ _ _ _ (by decide) h.box, h.cap, h.stk.mr m, ?_, h.len, h.nod, h.gt, fun i hi => (h.blk i hi).mr m⟩
  refine ⟨h.row.1, ?_⟩
  rcases h.row.2 with h2 | ⟨g, cap, cur, e, hg, hh, r⟩
  · exact .inl h2
  · exact .inr ⟨g, cap, cur, e, hg, m.2 _ _ _ _ (by decide) hh, r⟩
/-- The slices' values of stacks. -/
def RwI (B : Nat) (W : World) (vs : List Value) (R : List (List Int)) : Prop := vs.length = R.length ∧ ∀ j (h : j < R.length), ∃ a c, vs[j]? = some (.slice a R[j].length c) ∧ R[j].length ≤ c ∧ NsIn B W a R[j]
theorem RwI.mv {B : Nat} {W W' : World} {vs : List Value} {R : List (List Int)} (h : RwI B W vs R) (hm : ∀ a ns, NsIn B W a ns → NsIn B W' a ns) : RwI B W' vs R := ⟨h.1, fun j hj => by
  obtain ⟨a, c, h1, h2, h3⟩ := h.2 j hj
  exact ⟨a, c, h1, h2, hm _ _ h3⟩⟩
theorem RwI.snoc {B : Nat} {W : World} {vs : List Value} {R : List (List Int)} {p : List Int} {a : Option Addr} {c : Nat} (h : RwI B W vs R) (hc : p.length ≤ c) (hN : NsIn B W a p) : RwI B W (vs ++ [.slice a p.length c]) (R ++ [p]) := by
  refine ⟨by simp [h.1], fun j hj => ?_⟩
  rw [List.length_append, List.length_singleton] at hj
  by_cases hjr : j < R.length
  · obtain ⟨a', c', h1, h2, h3⟩ := h.2 j hjr
    refine ⟨a', c', ?_, ?_, ?_⟩
    · rw [List.getElem?_append_left (by rw [h.1]; exact hjr), List.getElem_append_left hjr]; exact h1
    · rw [List.getElem_append_left hjr]; exact h2
    · rw [List.getElem_append_left hjr]; exact h3
  · have hjr : j = R.length := by omega
    subst hjr
    rw [List.getElem_append_right (Nat.le_refl _)]
    simp only [Nat.sub_self, List.getElem_cons_zero]
    exact ⟨a, c, by rw [← h.1, List.getElem?_append_right (Nat.le_refl _)]; simp, hc, hN⟩
theorem RwI.one {B : Nat} {W : World} {vs : List Value} {R : List (List Int)} (h : RwI B W vs R) : ∀ u ∈ vs, u.oneCell' = true := by
  intro u hu
  obtain ⟨j, hj, rfl⟩ := List.getElem_of_mem hu
  obtain ⟨a, c, h1, _⟩ := h.2 j (by rw [← h.1]; exact hj)
  rw [List.getElem?_eq_getElem hj] at h1
  rw [Option.some.inj h1]
  rfl
theorem row_mv7 {W W' : World} {base n : Nat} {v : Value} {xs : List Value} (h : W.ownsRow base 35 1 v n xs) (m : Mv7 W W') : W'.ownsRow base 35 1 v n xs := by
  refine ⟨h.1, ?_⟩
  rcases h.2 with h2 | ⟨g, cap, cur, e, hg, hh, r⟩
  · exact .inl h2
  · exact .inr ⟨g, cap, cur, e, hg, m.2 _ _ _ _ (by decide) (by decide) (by decide) hh, r⟩
end Go.Proofs.Ytnidakplcaanfaa
namespace Go.Proofs.Ytnidakplcaanfaa
open Go.RowKit
theorem cell_op {w : World} {cb co : Nat} {cs : List (Int × Int)} (h : IsAt w.cell? (some ⟨cb, co, none⟩) cs) (j : Nat) (hj : j < cs.length) : w.cell? ⟨cb, co + j * 2, none⟩ = some (.int .i64 (opA cs j)) := is_at h j hj
set_option maxRecDepth 100000 in
set_option maxHeartbeats 1000000 in
theorem closes_any (cs : List (Int × Int)) (cb co cc n : Nat) (hn : cs.length = n) (bn : n ≤ 1000000000) (i : Nat) (hi : i < n) (w : World) (hc : IsAt w.cell? (some ⟨cb, co, none⟩) cs) :
    Calls Try.prog 49 #[.slice (some ⟨cb, co, none⟩) n cc, .int .i64 i] w fun e w' => e = .returned (.tuple #[.int .i64 (closeAt (opA cs) n i).1, .int .i64 (closeAt (opA cs) n i).2]) ∧ w' = w := by
  obtain ⟨r, hr⟩ : ∃ r, r = closeAt (opA cs) n i := ⟨_, rfl⟩
  rw [← hr]
  have HC : Hid (∀ j, j < n → w.cell? ⟨cb, co + j * 2, none⟩ = some (.int .i64 (opA cs j))) := hid6 fun j hj => cell_op hc j (by omega)
  have HR := hid6 hr
  clear hr hc hn
  go_enter Try.func49, Try.ntmps49
  go_wp2
  go_loopw [6, 7, 8] (fun dv ov jv wr => ∃ (d j : Nat) (o : Int), dv = .int .i64 d ∧ ov = .int .i64 o ∧ jv = .int .i64 j ∧ i < j ∧ j ≤ n ∧ d ≤ j ∧ -1 ≤ o ∧ Hid (r = closeS (opA cs) (decide (opA cs i = 48)) (n - j) j d o) ∧ wr = w) (fun _ _ jv _ => n - (intOf jv).toNat)
  case atStart => exact ⟨0, i + 1, -1, rfl, rfl, by go_num, by omega, by omega, by omega, by omega, HR, rfl⟩
  case round =>
    obtain ⟨d, j, o, rfl, rfl, rfl, h1, h2, h3, h4, H5, rfl⟩ := hrel
    by_cases hj : j < n
    · have c0 := HC.out j hj
      have c1 := HC.out i hi
      have H6 := hid6 (H5.out.trans (closeS_succ hj))
      clear H5 HR
      generalize opA cs j = o1 at c0 H6
      generalize hfo : opA cs i = o2 at c1 H6
      clear hfo
      by_cases e1 : o1 = 48
      · subst e1
        have H7 := hid6 (H6.out.trans (if_pos (.inl rfl)))
        go_wp2
        refine ⟨⟨d + 1, j + 1, o, by go_num, rfl, by go_num, by omega, by omega, by omega, h4, H7, by trivial⟩, by simp [intOf]; omega⟩
      by_cases e2 : o1 = 51
      · subst e2
        have H7 := hid6 (H6.out.trans (if_pos (.inr rfl)))
        go_wp2
        refine ⟨⟨d + 1, j + 1, o, by go_num, rfl, by go_num, by omega, by omega, by omega, h4, H7, by trivial⟩, by simp [intOf]; omega⟩
      have H7 := hid6 (H6.out.trans (if_neg (by omega)))
      clear H6
      by_cases e3 : o1 = 49
      · subst e3
        have H8 := hid6 (H7.out.trans (if_pos rfl))
        clear H7
        by_cases e4 : d = 0
        · subst e4
          have H9 := hid6 (H8.out.trans (if_pos rfl))
          clear H8
          by_cases e5 : 0 ≤ o
          · have H10 := hid6 (H9.out.trans (if_pos (.inl e5)))
            clear H9
            go_wp2
            go_ret2
            exact ⟨by rw [H10.out]; rfl, rfl⟩
          · by_cases e6 : o2 = 48
            · subst e6
              have H10 := hid6 (H9.out.trans (if_neg (by simp; omega)))
              clear H9
              go_wp2
              refine ⟨⟨0, j + 1, j, rfl, rfl, by go_num, by omega, by omega, by omega, by omega, H10, by trivial⟩, by simp [intOf]; omega⟩
            · have H10 := hid6 (H9.out.trans (if_pos (.inr (by simp [e6]))))
              clear H9
              go_wp2
              go_ret2
              exact ⟨by rw [H10.out]; rfl, rfl⟩
        · have H9 := hid6 (H8.out.trans (if_neg e4))
          clear H8
          go_wp2
          refine ⟨⟨d, j + 1, o, rfl, rfl, by go_num, by omega, by omega, by omega, h4, H9, by trivial⟩, by simp [intOf]; omega⟩
      have H8 := hid6 (H7.out.trans (if_neg e3))
      clear H7
      by_cases e7 : o1 = 50
      · subst e7
        have H9 := hid6 (H8.out.trans (if_pos rfl))
        clear H8
        by_cases e4 : d = 0
        · subst e4
          have H10 := hid6 (H9.out.trans (if_pos rfl))
          clear H9
          go_wp2
          go_ret2
          exact ⟨by rw [H10.out]; rfl, rfl⟩
        · have H10 := hid6 (H9.out.trans (if_neg e4))
          clear H9
          go_wp2
          refine ⟨⟨d - 1, j + 1, o, by go_num, rfl, by go_num, by omega, by omega, by omega, h4, H10, by trivial⟩, by simp [intOf]; omega⟩
      have H9 := hid6 (H8.out.trans (if_neg e7))
      clear H8
      go_wp2
      refine ⟨⟨d, j + 1, o, rfl, rfl, by go_num, by omega, by omega, by omega, h4, H9, by trivial⟩, by simp [intOf]; omega⟩
    · have : j = n := by omega
      subst this
      have H6 : Hid (r = (o, -1)) := hid6 (by rw [H5.out, Nat.sub_self, closeS])
      clear H5 HR
      go_wp2
      go_ret2
      exact ⟨by rw [H6.out]; rfl, rfl⟩
end Go.Proofs.Ytnidakplcaanfaa
