/- The document's open blocks of layer 7, and its must. The document's Check of layer 7: what a round makes of the open blocks; what is kept on the way. The document's Check of layer 7: a round of its loop. -/
import Derived.Test.YtnidakplcaanfaaUC
import Derived.Test.YtnidakplcaanfaaTP
import Derived.Test.YtnidakplcaanfaaTS
import Derived.Test.YtnidakplcaanfaaTT
import Derived.Test.YtnidakplcaanfaaCTg
namespace Go.Proofs.Ytnidakplcaanfaa
open Go.RowKit Go.Shelf
/-- An open block of the document. -/
structure DBk where
  at_ : Nat
  en : List Int
  th : List Int
  ot : Bool
def DBk.ob (op : Nat → Int) (d : DBk) : OB := ⟨d.en, if d.ot = true then d.th else d.en, decide (op d.at_ = 51)⟩
/-- The cells of a row of them. -/
def DCs (B N : Nat) (W : World) (D : List DBk) (ds : List Value) : Prop := ds.length = D.length * 4 ∧ ∀ j (h : j < D.length), ∃ a1 c1 a2 c2, ds[j * 4]? = some (.int .i64 D[j].at_) ∧ ds[j * 4 + 1]? = some (.slice a1 D[j].en.length c1) ∧ ds[j * 4 + 2]? = some (.slice a2 D[j].th.length c2) ∧ ds[j * 4 + 3]? = some (.bool D[j].ot) ∧ D[j].at_ < N ∧ D[j].en.length ≤ c1 ∧ NsIn B W a1 D[j].en ∧ NsIn B W a2 D[j].th ∧ D[j].en.length ≤ 1000 ∧ D[j].th.length ≤ 1000
theorem DCs.mv {B N : Nat} {W W' : World} {D : List DBk} {ds : List Value} (h : DCs B N W D ds) (hm : ∀ a ns, NsIn B W a ns → NsIn B W' a ns) : DCs B N W' D ds := ⟨h.1, fun j hj => by
  obtain ⟨a1, c1, a2, c2, h1, h2, h3, h4, h5, h6, h7, h8, h9⟩ := h.2 j hj
  exact ⟨a1, c1, a2, c2, h1, h2, h3, h4, h5, h6, hm _ _ h7, hm _ _ h8, h9⟩⟩
/-- The same row, as must sees it: from block b on. -/
def DAt (N : Nat) (W : World) (b : Nat) (D : List DBk) : Prop := ∀ j (h : j < D.length), ∃ a1 c1 a2 c2, W.cell? ⟨b, j * 4, none⟩ = some (.int .i64 D[j].at_) ∧ W.cell? ⟨b, j * 4 + 1, none⟩ = some (.slice a1 D[j].en.length c1) ∧ W.cell? ⟨b, j * 4 + 2, none⟩ = some (.slice a2 D[j].th.length c2) ∧ W.cell? ⟨b, j * 4 + 3, none⟩ = some (.bool D[j].ot) ∧ D[j].at_ < N ∧ NsAt W.cell? a1 D[j].en ∧ NsAt W.cell? a2 D[j].th
theorem DCs.at' {B N : Nat} {W : World} {base n b cap : Nat} {D : List DBk} {ds : List Value} (h : DCs B N W D ds) (hr : W.ownsRow base 63 4 (.slice (some ⟨b, 0, none⟩) n cap) n ds) : DAt N W b D := by
  obtain ⟨_, _, e, _, _, hx⟩ := row_form hr
  cases e
  rcases hx with ⟨e, _⟩ | ⟨g, e, _, _, hc⟩
  · cases e
  · cases e
    intro j hj
    obtain ⟨a1, c1, a2, c2, h1, h2, h3, h4, h5, h6, h7, h8, h9⟩ := h.2 j hj
    exact ⟨a1, c1, a2, c2, hc _ _ h1, hc _ _ h2, hc _ _ h3, hc _ _ h4, h5, h7.at', h8.at'⟩
theorem DAt.below {N : Nat} {W W' : World} {b : Nat} {D : List DBk} (h : DAt N W b D) (hb : Below W.heap.size W W') : DAt N W' b D := fun j hj => by
  obtain ⟨a1, c1, a2, c2, h1, h2, h3, h4, h5, h6, h7⟩ := h j hj
  have k := below_keep hb
  exact ⟨a1, c1, a2, c2, k _ _ h1, k _ _ h2, k _ _ h3, k _ _ h4, h5, h6.keep k, h7.keep k⟩
/-- What the document asks ahead of an end, and behind a leave. -/
def mustS (op : Nat → Int) (D : List DBk) (n : Int) (p : List Int) : Int :=
  if n = 50 then (match (D.map (DBk.ob op)).getLast? with | none => 0 | some b => alikeS p b.la)
  else (match (lpIx (D.map (DBk.ob op))).bind (fun i => (D.map (DBk.ob op))[i]?) with | none => 0 | some b => alikeS p b.en)
def MustEnd (v : Int) (w : World) (e : Ending) (w' : World) : Prop := e = .returned (.int .i64 v) ∧ Below w.heap.size w w'
set_option maxRecDepth 100000 in
set_option maxHeartbeats 2000000 in
theorem must_end (op : Nat → Int) (N : Nat) (M : List DBk) (d : DBk) (A : Int) (p : List Int) (cv : Value) (ob oc m : Nat) (hm : M.length + 1 = m) (bm : m ≤ 1000) (la : Option Addr) (pl lc : Nat) (hpl : p.length = pl) (bp : pl ≤ 1000) (w : World) (hD : DAt N w ob (M ++ [d])) (hp : NsAt w.cell? la p) :
    Calls Try.prog 28 #[cv, .slice (some ⟨ob, 0, none⟩) m oc, .agg #[.int .i64 50, .int .i64 A], .slice la pl lc] w (MustEnd (mustS op (M ++ [d]) 50 p) w) := by
  have e1 : mustS op (M ++ [d]) 50 p = alikeS p (if d.ot = true then d.th else d.en) := by
    rw [mustS, if_pos rfl, List.map_append]
    simp [DBk.ob]
  rw [e1]
  subst hm
  obtain ⟨a1, c1, a2, c2, h1, h2, h3, h4, h5, h6, h7⟩ := hD M.length (by simp)
  clear h5
  simp only [List.getElem_append_right (Nat.le_refl _), Nat.sub_self, List.getElem_cons_zero] at h1 h2 h3 h4 h6 h7
  have hlt := World.block_lt_of_cell? w _ h1
  obtain ⟨at_, en, th, ot⟩ := d
  simp only at h1 h2 h3 h4 h6 h7 ⊢
  have HA : Hid (∀ W, Below w.heap.size w W → Calls Try.prog 19 #[.slice la pl lc, .slice a1 en.length c1] W fun e w' => e = .returned (.int .i64 (alikeS p en)) ∧ Hid (Below w.heap.size w w')) := hid7 fun W hb => (ralike_any la a1 lc c1 pl _ p en hpl rfl (by omega) W (hp.keep (below_keep hb)) (h6.keep (below_keep hb))).mono fun e w' ⟨q1, k, q2⟩ => ⟨q1, hid7 (by rw [q2]; exact below_draws2 hb k)⟩
  have HB : Hid (∀ W, Below w.heap.size w W → Calls Try.prog 19 #[.slice la pl lc, .slice a2 th.length c2] W fun e w' => e = .returned (.int .i64 (alikeS p th)) ∧ Hid (Below w.heap.size w w')) := hid7 fun W hb => (ralike_any la a2 lc c2 pl _ p th hpl rfl (by omega) W (hp.keep (below_keep hb)) (h7.keep (below_keep hb))).mono fun e w' ⟨q1, k, q2⟩ => ⟨q1, hid7 (by rw [q2]; exact below_draws2 hb k)⟩
  clear hD hp h6 h7 e1
  generalize M.length = m at *
  have g1 : IntKind.i64.wrap (m : Int) = m := by rw [IntKind.wrap_i64]; omega
  have g2 : (0 : Int) ≤ m := by omega
  have g3 : (m : Int) < (m : Int) + 1 := by omega
  generalize en.length = el at *
  generalize th.length = tl at *
  cases ot with
  | true =>
    simp only [if_true]
    generalize alikeS p th = R at *
    go_enter Try.func28, Try.ntmps28
    go_wp2_with (first | (go_at_call 19; refine (HB.out _ (((Below.refl _ w).alloc (Nat.le_refl _) _).alloc (by simp) _)).mono ?_; clear HB; rintro e w4 ⟨rfl, B4⟩) | fail)
    go_ret
    exact ⟨rfl, B4.out⟩
  | false =>
    simp only [Bool.false_eq_true, if_false]
    generalize alikeS p en = R at *
    go_enter Try.func28, Try.ntmps28
    go_wp2_with (first | (go_at_call 19; refine (HA.out _ (((Below.refl _ w).alloc (Nat.le_refl _) _).alloc (by simp) _)).mono ?_; clear HA; rintro e w4 ⟨rfl, B4⟩) | fail)
    go_ret
    exact ⟨rfl, B4.out⟩
theorem lo_at {op : Nat → Int} {D : List DBk} {k : Nat} (h : k < D.length) : (((D.map (DBk.ob op))[k]?).map OB.lo).getD false = decide (op D[k].at_ = 51) := by
  rw [List.getElem?_map, List.getElem?_eq_getElem h]
  rfl
set_option maxRecDepth 100000 in
set_option maxHeartbeats 2000000 in
theorem must_leave (op : Nat → Int) (cs : List (Int × Int)) (hop : ∀ j (h : j < cs.length), cs[j].1 = op j) (D : List DBk) (A : Int) (p : List Int) (ca : Option Addr) (cc ob oc N m : Nat) (hN : cs.length = N) (hm : D.length = m) (bm : m ≤ 1000) (la : Option Addr) (pl lc : Nat) (hpl : p.length = pl) (bp : pl ≤ 1000) (w : World) (hC : IsAt w.cell? ca cs) (hD : DAt N w ob D) (hp : NsAt w.cell? la p) :
    Calls Try.prog 28 #[.slice ca N cc, .slice (some ⟨ob, 0, none⟩) m oc, .agg #[.int .i64 52, .int .i64 A], .slice la pl lc] w (MustEnd (mustS op D 52 p) w) := by
  obtain ⟨R, hR⟩ : ∃ R, R = mustS op D 52 p := ⟨_, rfl⟩
  rw [← hR]
  have HR : Hid (∀ k, fstIx (fun i => ((D.map (DBk.ob op))[i]?.map OB.lo).getD false) m = fstIx (fun i => ((D.map (DBk.ob op))[i]?.map OB.lo).getD false) k → (k = 0 → R = 0) ∧ ∀ q, k = q + 1 → ∀ hq : q < D.length, op D[q].at_ = 51 → R = alikeS p D[q].en) := hid7 fun k hk => by
    have e0 : lpIx (D.map (DBk.ob op)) = fstIx (fun i => ((D.map (DBk.ob op))[i]?.map OB.lo).getD false) k := by rw [lpIx, List.length_map, hm, hk]
    have e1 : R = (match (fstIx (fun i => ((D.map (DBk.ob op))[i]?.map OB.lo).getD false) k).bind (fun i => (D.map (DBk.ob op))[i]?) with | none => 0 | some b => alikeS p b.en) := by
      rw [hR, mustS, if_neg (by decide), e0]
    refine ⟨fun h0 => ?_, fun q hq hql h51 => ?_⟩
    · subst h0
      rw [e1]
      rfl
    · subst hq
      rw [e1, fstIx, lo_at hql, h51]
      simp [hql, DBk.ob]
  clear hR
  go_enter Try.func28, Try.ntmps28
  go_wp2
  have b1 := (Below.refl _ w).alloc (Nat.le_refl _) (.cells #[.int .i64 52, .int .i64 A] 53)
  have HS := hid7 (And.intro hD (And.intro hC (And.intro hp (And.intro b1 hop))))
  generalize w.alloc (.cells #[.int .i64 52, .int .i64 A] 53) = w1 at *
  clear hD hC hp b1 hop
  go_loopw [10] (fun iv wr => ∃ k t : Nat, k ≤ m ∧ iv = .int .i64 ((k : Int) - 1) ∧ Hid (fstIx (fun i => ((D.map (DBk.ob op))[i]?.map OB.lo).getD false) m = fstIx (fun i => ((D.map (DBk.ob op))[i]?.map OB.lo).getD false) k) ∧ wr = w1.drewN t) (fun iv _ => (intOf iv + 1).toNat)
  case atStart => exact ⟨m, 0, Nat.le_refl _, by go_num, hid7 rfl, rfl⟩
  case round =>
    obtain ⟨k, t, hk, rfl, hf, rfl⟩ := hrel
    cases k with
    | zero =>
      have HE := hid7 ((HR.out 0 hf.out).1 rfl)
      go_wp2
      go_ret
      exact ⟨by rw [HE.out]; rfl, below_draws2 HS.out.2.2.2.1 t⟩
    | succ q =>
      have hql : q < D.length := by omega
      have e1 : ((q + 1 : Nat) : Int) - 1 = q := by omega
      rw [e1]
      obtain ⟨a1, c1, a2, c2, h1, h2, h3, h4, h5, h6, h7⟩ := HS.out.1 q hql
      have hatl : D[q].at_ < cs.length := by omega
      obtain ⟨cb, co, rfl, hcc⟩ : ∃ cb co, ca = some ⟨cb, co, none⟩ ∧ w.cell? ⟨cb, co + D[q].at_ * 2, none⟩ = some (.int .i64 (op D[q].at_)) := by
        rcases HS.out.2.1 with h0 | ⟨b, off, e, h⟩
        · rw [h0] at hatl; cases hatl
        · exact ⟨b, off, e, by rw [(h _ hatl).1, HS.out.2.2.2.2 _ hatl]⟩
      have kk := below_keep (below_draws2 HS.out.2.2.2.1 t)
      have d1 := kk _ _ h1
      have d2 := kk _ _ h2
      have d3 := kk _ _ hcc
      have HN : Hid (op D[q].at_ ≠ 51 → fstIx (fun i => ((D.map (DBk.ob op))[i]?.map OB.lo).getD false) m = fstIx (fun i => ((D.map (DBk.ob op))[i]?.map OB.lo).getD false) q) := hid7 fun h => by
        rw [hf.out, fstIx, lo_at hql, if_neg (by simpa using h)]
      have HY : Hid (op D[q].at_ = 51 → R = alikeS p D[q].en) := hid7 ((HR.out _ hf.out).2 q rfl hql)
      have HA : Hid (∀ s, Calls Try.prog 19 #[.slice la pl lc, .slice a1 D[q].en.length c1] (w1.drewN s) fun e w' => e = .returned (.int .i64 (alikeS p D[q].en)) ∧ Hid (Below w.heap.size w w')) := hid7 fun s => (ralike_any la a1 lc c1 pl _ p D[q].en hpl rfl (by omega) _ (HS.out.2.2.1.keep (below_keep (below_draws2 HS.out.2.2.2.1 s))) (h6.keep (below_keep (below_draws2 HS.out.2.2.2.1 s)))).mono fun e w' ⟨q1, k, q2⟩ => ⟨q1, hid7 (by rw [q2]; exact below_draws2 (below_draws2 HS.out.2.2.2.1 s) k)⟩
      have hatN : (D[q].at_ : Int) < N := by omega
      have hat0 : (0 : Int) ≤ D[q].at_ := by omega
      have hqm : (q : Int) < m := by omega
      have hq0 : (0 : Int) ≤ q := by omega
      generalize D[q].at_ = at_ at *
      generalize D[q].en = en at *
      generalize hel : en.length = el at *
      clear h1 h2 h3 h4 h5 h6 h7 hcc kk hf hel hatl
      generalize op at_ = o at *
      by_cases ho : o = 51
      · subst ho
        have HY2 := hid7 (HY.out rfl)
        generalize alikeS p en = S at *
        clear HY
        go_wp2_with (first | (go_at_call 19; refine (HA.out t).mono ?_; clear HA; rintro e w4 ⟨rfl, B4⟩) | fail)
        go_ret
        exact ⟨by rw [HY2.out]; rfl, B4.out⟩
      · have hob : (o == 51) = false := by simpa using ho
        have HN2 := hid7 (HN.out ho)
        clear HA HY HN
        go_wp2
        exact ⟨⟨q, _, by omega, by go_num, HN2, rfl⟩, by simp [intOf]⟩
end Go.Proofs.Ytnidakplcaanfaa
namespace Go.Proofs.Ytnidakplcaanfaa
open Go.RowKit Go.Shelf
/-- What the document makes of the stack and the open blocks behind a step. -/
def dTurn (n : Int) (k : Nat) (q : List Int) (D : List DBk) : List Int × List DBk :=
  if n = 48 ∨ n = 51 then (q, D ++ [⟨k, q, [], false⟩])
  else if n = 49 then (match D.getLast? with | none => (q, D) | some d => (d.en, D.dropLast ++ [⟨d.at_, d.en, q, true⟩]))
  else if n = 50 then (q, D.dropLast) else (q, D)
def dMust (op : Nat → Int) (n : Int) (q : List Int) (D : List DBk) : Int := if n = 50 ∨ n = 52 then mustS op D n q else 0
theorem doc_turn {op : Nat → Int} {n : Int} {k : Nat} (hk : op k = n) (q : List Int) (D : List DBk) : (turnW n q (D.map (DBk.ob op))).1 = dMust op n q D ∧ (turnW n q (D.map (DBk.ob op))).2 = ((dTurn n k q D).1, (dTurn n k q D).2.map (DBk.ob op)) := by
  unfold turnW dTurn dMust
  by_cases h1 : n = 48 ∨ n = 51
  · rw [if_pos h1, if_pos h1, if_neg (by omega)]
    refine ⟨rfl, ?_⟩
    simp [DBk.ob, hk]
  rw [if_neg h1, if_neg h1]
  by_cases h2 : n = 49
  · rw [if_pos h2, if_pos h2, if_neg (by omega)]
    rcases List.eq_nil_or_concat D with rfl | ⟨M, d, rfl⟩
    · exact ⟨rfl, rfl⟩
    · rw [List.concat_eq_append]
      simp [DBk.ob]
  rw [if_neg h2, if_neg h2]
  by_cases h3 : n = 50
  · rw [if_pos h3, if_pos h3, if_pos (.inl h3), mustS, if_pos h3]
    cases hl : (D.map (DBk.ob op)).getLast? with
    | none =>
      have : D = [] := by simpa using hl
      subst this
      exact ⟨rfl, rfl⟩
    | some b => exact ⟨rfl, by simp [List.map_dropLast]⟩
  rw [if_neg h3, if_neg h3]
  by_cases h4 : n = 52
  · rw [if_pos h4, if_pos (.inr h4), mustS, if_neg h3]
    cases (lpIx (D.map (DBk.ob op))).bind (fun i => (D.map (DBk.ob op))[i]?) with
    | none => exact ⟨rfl, rfl⟩
    | some b => exact ⟨rfl, rfl⟩
  · rw [if_neg h4, if_neg (by omega)]
    exact ⟨rfl, rfl⟩
/-- A round as the document goes it. -/
theorem doc_pass {fs : List Fn} {sl : List Int} {op : Nat → Int} {x : Int × Int} {k : Nat} (hk : op k = x.1) (p : List Int) (D : List DBk) :
    passW fs sl x p (D.map (DBk.ob op)) = if (stepW fs sl x p).1 ≠ 0 then ((stepW fs sl x p).1, (stepW fs sl x p).2, D.map (DBk.ob op))
      else if dMust op x.1 (stepW fs sl x p).2 D ≠ 0 then (dMust op x.1 (stepW fs sl x p).2 D, (dTurn x.1 k (stepW fs sl x p).2 D).1, (dTurn x.1 k (stepW fs sl x p).2 D).2.map (DBk.ob op))
      else if 32 < (dTurn x.1 k (stepW fs sl x p).2 D).1.length then (32, (dTurn x.1 k (stepW fs sl x p).2 D).1, (dTurn x.1 k (stepW fs sl x p).2 D).2.map (DBk.ob op))
      else (0, (dTurn x.1 k (stepW fs sl x p).2 D).1, (dTurn x.1 k (stepW fs sl x p).2 D).2.map (DBk.ob op)) := by
  obtain ⟨e1, e2⟩ := doc_turn hk (stepW fs sl x p).2 D
  unfold passW
  by_cases h : (stepW fs sl x p).1 ≠ 0
  · rw [if_pos h, if_pos h]
  rw [if_neg h, if_neg h, e1, e2]
  by_cases h2 : dMust op x.1 (stepW fs sl x p).2 D ≠ 0
  · rw [if_pos h2, if_pos h2, ← e1, ← e2]
  rw [if_neg h2, if_neg h2]
/-- Rows of stacks and of the document's open blocks alone have turned. -/
def Md (W W' : World) : Prop := W.heap.size ≤ W'.heap.size ∧ ∀ (k : Nat) (cur : Array Value) (t : TypeId) (z : Nat × Nat), t ≠ 35 → t ≠ 63 → W.heap[k]? = some (.cells cur t z) → W'.heap[k]? = some (.cells cur t z)
theorem Md.below {W W' : World} (h : Below W.heap.size W W') : Md W W' := ⟨h.size, fun k _ _ _ _ _ hk => (h.block k (blk_lt hk)).trans hk⟩
theorem Md.trans {A B C : World} (h : Md A B) (g : Md B C) : Md A C := ⟨Nat.le_trans h.1 g.1, fun k cur t z h1 h2 hk => g.2 k cur t z h1 h2 (h.2 k cur t z h1 h2 hk)⟩
theorem Md.step {W W' : World} {base n size : Nat} {e : TypeId} {v v' : Value} {xs : List Value} (hr : W.ownsRow base e size v n xs) (hs : Step W v W' v') (he : e = 35 ∨ e = 63) : Md W W' := by
  refine ⟨hs.1.size, fun k cur t z h1 h2 hk => (hs.1.block k (blk_lt hk) fun h => ?_).trans hk⟩
  rcases hr.2 with ⟨rfl, _⟩ | ⟨g, cap, cur', rfl, _, hh, _⟩
  · cases h
  · cases h
    rw [hk] at hh
    cases hh
    rcases he with he | he
    · exact h1 he
    · exact h2 he
theorem Md.set {W : World} {b o : Nat} {cs : Array Value} {z : Nat × Nat} {u : Value} (hb : W.heap[b]? = some (.cells cs 63 z)) : Md W (W.setCell ⟨b, o, none⟩ u) := by
  refine ⟨by simp, fun k cur t z' h1 h2 hk => ?_⟩
  rw [Below.heap_setCell W ⟨b, o, none⟩ u k (fun e => ?_)]
  · exact hk
  · have e' : k = b := e
    rw [e', hb] at hk
    cases hk
    exact h2 rfl
theorem NsIn.md {B : Nat} {W W' : World} {a : Option Addr} {ns : List Int} (h : NsIn B W a ns) (m : Md W W') : NsIn B W' a ns := by
  rcases h with h | ⟨b, off, cur, e, hB, hb, hc⟩
  · exact .inl h
  · have hb' := m.2 b cur 3 (0, 0) (by decide) (by decide) hb
    exact .inr ⟨b, off, cur, e, hB, hb', fun j hj => (cell_heap7 (hb'.trans hb.symm)).trans (hc j hj)⟩
/-- A cell of an owned row is written. -/
theorem row_set {w : World} {base n size g cap : Nat} {e : TypeId} {xs : List Value} (h : w.ownsRow base e size (.slice (some ⟨g, 0, none⟩) n cap) n xs) (o : Nat) (u : Value) : (w.setCell ⟨g, o, none⟩ u).ownsRow base e size (.slice (some ⟨g, 0, none⟩) n cap) n (xs.set o u) := by
  refine ⟨by rw [List.length_set]; exact h.1, ?_⟩
  rcases h.2 with ⟨e, _⟩ | ⟨g', cap', cur, e, hg, hh, h1, h2, h3, h4⟩
  · cases e
  · cases e
    refine .inr ⟨g, cap, cur.setIfInBounds o u, rfl, hg, ?_, h1, h2, by simpa using h3, ?_⟩
    · simp [World.setCell, Array.getElem?_modify, hh]
    · rw [Array.toList_setIfInBounds, List.take_set, h4]
/-- A row of another type stays, where a row is written or grows. -/
theorem row_step {w w' : World} {base base' n n' size size' : Nat} {e e' : TypeId} {v v' u : Value} {xs ys : List Value} (h : w.ownsRow base e size v n xs) (hr : w.ownsRow base' e' size' u n' ys) (hs : Step w u w' v') (hne : e ≠ e') : w'.ownsRow base e size v n xs := by
  refine ⟨h.1, ?_⟩
  rcases h.2 with h2 | ⟨g, cap, cur, rfl, hg, hh, r⟩
  · exact .inl h2
  · refine .inr ⟨g, cap, cur, rfl, hg, ?_, r⟩
    rw [hs.1.block g (blk_lt hh) fun q => ?_]
    · exact hh
    · rcases hr.2 with ⟨rfl, _⟩ | ⟨g', cap', cur', rfl, _, hh', _⟩
      · cases q
      · cases q
        rw [hh] at hh'
        cases hh'
        exact hne rfl
theorem elemN_dbk : ElemN Try.prog 59 63 4 64 := by
  refine ⟨Try.underlying59, ?_, by decide⟩
  obtain ⟨i, hi, h1, h2, h3⟩ := info_parts (show (Try.prog.info? 63).map (fun i => (i.zero, i.size, i.bytes)) = some (some (.agg #[.int .i64 0, .slice none 0 0, .slice none 0 0, .bool false]), 4, 64) by kernel_rfl)
  exact ⟨i, _, hi, h1, h2, h3, rfl⟩
theorem DCs.snoc {B N : Nat} {W : World} {D : List DBk} {ds : List Value} {d : DBk} {a1 a2 : Option Addr} {c1 c2 : Nat} (h : DCs B N W D ds) (h1 : d.at_ < N) (h2 : d.en.length ≤ c1) (h3 : NsIn B W a1 d.en) (h4 : NsIn B W a2 d.th) (h5 : d.en.length ≤ 1000) (h6 : d.th.length ≤ 1000) : DCs B N W (D ++ [d]) (ds ++ [.int .i64 d.at_, .slice a1 d.en.length c1, .slice a2 d.th.length c2, .bool d.ot]) := by
  refine ⟨by simp [h.1]; omega, fun j hj => ?_⟩
  have hx := h.1
  rcases Nat.lt_or_ge j D.length with hlt | hge
  · obtain ⟨a1', c1', a2', c2', q0, q1, q2, q3, q4⟩ := h.2 j hlt
    rw [List.getElem_append_left hlt]
    refine ⟨a1', c1', a2', c2', ?_, ?_, ?_, ?_, q4⟩
    all_goals (rw [List.getElem?_append_left (by omega)]; assumption)
  · obtain rfl : j = D.length := by simp at hj; omega
    rw [List.getElem_append_right (Nat.le_refl _)]
    simp only [Nat.sub_self, List.getElem_cons_zero]
    refine ⟨a1, c1, a2, c2, ?_, ?_, ?_, ?_, h1, h2, h3, h4, h5, h6⟩
    all_goals
      rw [List.getElem?_append_right (by omega), hx]
      simp
theorem DCs.pop {B N : Nat} {W : World} {D : List DBk} {ds : List Value} {d : DBk} (h : DCs B N W (D ++ [d]) ds) : DCs B N W D (ds.take (D.length * 4)) := by
  have hx := h.1
  rw [List.length_append, List.length_singleton] at hx
  refine ⟨by rw [List.length_take]; omega, fun j hj => ?_⟩
  obtain ⟨a1', c1', a2', c2', q0, q1, q2, q3, q4⟩ := h.2 j (by simp; omega)
  rw [List.getElem_append_left hj] at q0 q1 q2 q3 q4
  refine ⟨a1', c1', a2', c2', ?_, ?_, ?_, ?_, q4⟩
  all_goals (rw [List.getElem?_take_of_lt (by omega)]; assumption)
/-- A row that is cut at its end. -/
theorem row_cut {w : World} {base n m size g cap : Nat} {e : TypeId} {xs : List Value} (h : w.ownsRow base e size (.slice (some ⟨g, 0, none⟩) n cap) n xs) (hm : m ≤ n) : w.ownsRow base e size (.slice (some ⟨g, 0, none⟩) m cap) m (xs.take (m * size)) := by
  have hl := h.1
  have hms : m * size ≤ n * size := Nat.mul_le_mul_right _ hm
  refine ⟨by rw [List.length_take]; omega, ?_⟩
  rcases h.2 with ⟨e, _⟩ | ⟨g', cap', cur, e, hg, hh, h1, h2, h3, h4⟩
  · cases e
  · cases e
    refine .inr ⟨g, cap, cur, rfl, hg, hh, by omega, h2, h3, ?_⟩
    rw [← h4, List.take_take, Nat.min_eq_left hms]
theorem DCs.els {B N : Nat} {W : World} {D : List DBk} {ds : List Value} {d : DBk} {q : List Int} {qa : Option Addr} {qc : Nat} (h : DCs B N W (D ++ [d]) ds) (hq : NsIn B W qa q) (bq : q.length ≤ 1000) : DCs B N W (D ++ [⟨d.at_, d.en, q, true⟩]) ((ds.set (D.length * 4 + 2) (.slice qa q.length qc)).set (D.length * 4 + 3) (.bool true)) := by
  have hx := h.1
  rw [List.length_append, List.length_singleton] at hx
  refine ⟨by simp [hx], fun j hj => ?_⟩
  rw [List.length_append, List.length_singleton] at hj
  obtain ⟨a1', c1', a2', c2', q0, q1, q2, q3, q4, q5, q6, q7, q8, q9⟩ := h.2 j (by simp; omega)
  rcases Nat.lt_or_ge j D.length with hlt | hge
  · rw [List.getElem_append_left hlt] at q0 q1 q2 q3 q4 q5 q6 q7 q8 q9
    rw [List.getElem_append_left hlt]
    refine ⟨a1', c1', a2', c2', ?_, ?_, ?_, ?_, q4, q5, q6, q7, q8, q9⟩
    all_goals (rw [List.getElem?_set_ne (by omega), List.getElem?_set_ne (by omega)]; assumption)
  · obtain rfl : j = D.length := by omega
    rw [List.getElem_append_right (Nat.le_refl _)] at q0 q1 q2 q3 q4 q5 q6 q7 q8 q9
    rw [List.getElem_append_right (Nat.le_refl _)]
    simp only [Nat.sub_self, List.getElem_cons_zero] at q0 q1 q2 q3 q4 q5 q6 q7 q8 q9 ⊢
    refine ⟨a1', c1', qa, qc, ?_, ?_, ?_, ?_, q4, q5, q6, hq, q8, bq⟩
    · rw [List.getElem?_set_ne (by omega), List.getElem?_set_ne (by omega)]; exact q0
    · rw [List.getElem?_set_ne (by omega), List.getElem?_set_ne (by omega)]; exact q1
    · rw [List.getElem?_set_ne (by omega), List.getElem?_set_self (by omega)]
    · rw [List.getElem?_set_self (by simp; omega)]
/-- What lies in memory on the way: the stack p at la, the open blocks D in the row ov, the stacks R in the row av. -/
structure DM (N B : Nat) (W4 : World) (av ov : Value) (p : List Int) (D : List DBk) (R : List (List Int)) (vs ds : List Value) (la : Option Addr) (lc : Nat) (W : World) : Prop where
  nl : NsIn B W la p
  cap : p.length ≤ lc
  row : W.ownsRow B 35 1 av R.length vs
  rw' : RwI B W vs R
  orow : W.ownsRow B 63 4 ov D.length ds
  dcs : DCs B N W D ds
  bel : Below B W4 W
  siz : B ≤ W.heap.size
theorem DM.below {N B : Nat} {W4 : World} {av ov : Value} {p : List Int} {D : List DBk} {R : List (List Int)} {vs ds : List Value} {la : Option Addr} {lc : Nat} {W W' : World} (h : DM N B W4 av ov p D R vs ds la lc W) (hb : Below W.heap.size W W') : DM N B W4 av ov p D R vs ds la lc W' :=
  ⟨h.nl.below hb, h.cap, row_below2 h.row hb, h.rw'.mv fun _ _ q => q.below hb, row_below2 h.orow hb, h.dcs.mv fun _ _ q => q.below hb, h.bel.trans (hb.mono h.siz), Nat.le_trans h.siz hb.size⟩
/-- Another stack. -/
theorem DM.stack {N B : Nat} {W4 : World} {av ov : Value} {p q : List Int} {D : List DBk} {R : List (List Int)} {vs ds : List Value} {la qa : Option Addr} {lc qc : Nat} {W : World} (h : DM N B W4 av ov p D R vs ds la lc W) (hq : NsIn B W qa q) (hc : q.length ≤ qc) : DM N B W4 av ov q D R vs ds qa qc W := ⟨hq, hc, h.row, h.rw', h.orow, h.dcs, h.bel, h.siz⟩
/-- The stack is noted. -/
theorem DM.note {N B : Nat} {W4 : World} {av av' ov : Value} {p : List Int} {D : List DBk} {R : List (List Int)} {vs ds : List Value} {la : Option Addr} {lc : Nat} {W W' : World} (h : DM N B W4 av ov p D R vs ds la lc W) (hr : W'.ownsRow B 35 1 av' (R.length + 1) (vs ++ [.slice la p.length lc])) (hs : Step W av W' av') : DM N B W4 av' ov p D (R ++ [p]) (vs ++ [.slice la p.length lc]) ds la lc W' := by
  have m := Md.step h.row hs (.inl rfl)
  have b := hs.below h.siz fun g e => (h.row.lt g e).1
  refine ⟨h.nl.md m, h.cap, by rw [List.length_append, List.length_singleton]; exact hr, ?_, row_step h.orow h.row hs (by decide), h.dcs.mv fun _ _ q => q.md m, h.bel.trans b, Nat.le_trans h.siz hs.1.size⟩
  exact (h.rw'.mv fun _ _ q => q.md m).snoc h.cap (h.nl.md m)
/-- A block is opened. -/
theorem DM.open' {N B : Nat} {W4 : World} {av ov ov' : Value} {p : List Int} {D : List DBk} {R : List (List Int)} {vs ds : List Value} {la : Option Addr} {lc k : Nat} {W W' : World} (h : DM N B W4 av ov p D R vs ds la lc W) (hk : k < N) (bp : p.length ≤ 1000) (hr : W'.ownsRow B 63 4 ov' (D.length + 1) (ds ++ [.int .i64 k, .slice la p.length lc, .slice none 0 0, .bool false])) (hs : Step W ov W' ov') : DM N B W4 av ov' p (D ++ [⟨k, p, [], false⟩]) R vs (ds ++ [.int .i64 k, .slice la p.length lc, .slice none 0 0, .bool false]) la lc W' := by
  have m := Md.step h.orow hs (.inr rfl)
  have b := hs.below h.siz fun g e => (h.orow.lt g e).1
  refine ⟨h.nl.md m, h.cap, row_step h.row h.orow hs (by decide), h.rw'.mv fun _ _ q => q.md m, by rw [List.length_append, List.length_singleton]; exact hr, ?_, h.bel.trans b, Nat.le_trans h.siz hs.1.size⟩
  exact (h.dcs.mv fun _ _ q => q.md m).snoc (d := ⟨k, p, [], false⟩) (a2 := none) (c2 := 0) hk h.cap (h.nl.md m) (.inl ⟨rfl, .inl rfl⟩) bp (Nat.zero_le _)
/-- A block is closed. -/
theorem DM.close {N B ob oc : Nat} {W4 : World} {av : Value} {p : List Int} {M : List DBk} {d : DBk} {R : List (List Int)} {vs ds : List Value} {la : Option Addr} {lc n : Nat} {W : World} (hn : (M ++ [d]).length = n) (h : DM N B W4 av (.slice (some ⟨ob, 0, none⟩) n oc) p (M ++ [d]) R vs ds la lc W) : DM N B W4 av (.slice (some ⟨ob, 0, none⟩) M.length oc) p M R vs (ds.take (M.length * 4)) la lc W := by
  subst hn
  exact ⟨h.nl, h.cap, h.row, h.rw', row_cut h.orow (by simp), h.dcs.pop, h.bel, h.siz⟩
theorem orow_blk {B ob oc n size : Nat} {e : TypeId} {W : World} {ds : List Value} (h : W.ownsRow B e size (.slice (some ⟨ob, 0, none⟩) n oc) n ds) : B ≤ ob ∧ ∃ cur, W.heap[ob]? = some (.cells cur e (0, 0)) := by
  rcases h.2 with ⟨e, _⟩ | ⟨g, cap, cur, e, hg, hh, _⟩
  · cases e
  · cases e
    exact ⟨hg, cur, hh⟩
/-- At an else. -/
theorem DM.els {N B ob oc : Nat} {W4 : World} {av : Value} {p : List Int} {M : List DBk} {d : DBk} {R : List (List Int)} {vs ds : List Value} {la : Option Addr} {lc n : Nat} {W : World} (hn : (M ++ [d]).length = n) (h : DM N B W4 av (.slice (some ⟨ob, 0, none⟩) n oc) p (M ++ [d]) R vs ds la lc W) (bp : p.length ≤ 1000) :
    ∃ ea ec, W.cell? ⟨ob, M.length * 4 + 1, none⟩ = some (.slice ea d.en.length ec) ∧ (∃ v, W.cell? ⟨ob, M.length * 4 + 2, none⟩ = some v) ∧ (∃ v, W.cell? ⟨ob, M.length * 4 + 3, none⟩ = some v) ∧ (∀ o, W.frozen? ⟨ob, o, none⟩ = false) ∧ d.en.length ≤ 1000 ∧
      DM N B W4 av (.slice (some ⟨ob, 0, none⟩) n oc) d.en (M ++ [⟨d.at_, d.en, p, true⟩]) R vs ((ds.set (M.length * 4 + 2) (.slice la p.length lc)).set (M.length * 4 + 3) (.bool true)) ea ec ((W.setCell ⟨ob, M.length * 4 + 2, none⟩ (.slice la p.length lc)).setCell ⟨ob, M.length * 4 + 3, none⟩ (.bool true)) := by
  subst hn
  obtain ⟨hB, cur, hcur⟩ := orow_blk h.orow
  obtain ⟨a1, c1, a2, c2, q0, q1, q2, q3, q4, q5, q6, q7, q8, q9⟩ := h.dcs.2 M.length (by simp)
  simp only [List.getElem_append_right (Nat.le_refl _), Nat.sub_self, List.getElem_cons_zero] at q0 q1 q2 q3 q4 q5 q6 q7 q8 q9
  obtain ⟨_, _, e, _, _, hx⟩ := row_form h.orow
  cases e
  rcases hx with ⟨e, _⟩ | ⟨g, e, _, _, hc⟩
  · cases e
  cases e
  have m1 : Md W (W.setCell ⟨ob, M.length * 4 + 2, none⟩ (.slice la p.length lc)) := Md.set hcur
  have hr1 := row_set h.orow (M.length * 4 + 2) (.slice la p.length lc)
  obtain ⟨_, cur1, hcur1⟩ := orow_blk hr1
  have m := m1.trans (Md.set (o := M.length * 4 + 3) (u := .bool true) hcur1)
  have hr2 := row_set hr1 (M.length * 4 + 3) (.bool true)
  have ro : ∀ {n' : Nat} {v : Value} {ys : List Value}, W.ownsRow B 35 1 v n' ys → ((W.setCell ⟨ob, M.length * 4 + 2, none⟩ (.slice la p.length lc)).setCell ⟨ob, M.length * 4 + 3, none⟩ (.bool true)).ownsRow B 35 1 v n' ys := fun hh => row_other6 (row_other6 hh hcur (by decide)) hcur1 (by decide)
  refine ⟨a1, c1, hc _ _ q1, ⟨_, hc _ _ q2⟩, ⟨_, hc _ _ q3⟩, fun o => Lib.frozen_of_heap hcur o, q8, ⟨q6.md m, q5, ro h.row, h.rw'.mv fun _ _ q => q.md m, ?_, ?_, ?_, by simpa using h.siz⟩⟩
  · have e : (M ++ [d]).length = (M ++ [(⟨d.at_, d.en, p, true⟩ : DBk)]).length := by simp
    rw [← e]
    exact hr2
  · exact (h.dcs.els h.nl bp).mv fun _ _ q => q.md m
  · exact (h.bel.setCell (p := ⟨ob, M.length * 4 + 2, none⟩) hB _).setCell (p := ⟨ob, M.length * 4 + 3, none⟩) hB _
/-- What is kept on the way. -/
structure DI (fs : List Fn) (g : Fn) (A0 : Int × List (List Int)) (B : Nat) (W4 : World) (av ov : Value) (i : Nat) (p : List Int) (D : List DBk) (R : List (List Int)) (vs ds : List Value) (la : Option Addr) (lc : Nat) (W : World) : Prop where
  m : DM g.code.length B W4 av ov p D R vs ds la lc W
  len : p.length ≤ 32
  obs : OBs (D.map (DBk.ob (opA g.code)))
  goes : Goes (D.map (DBk.ob (opA g.code))) (stk (opA g.code) i)
  cnt : R.length = i
  run : A0 = chkFrom fs (g.p ++ g.l) g.r (g.code.drop i) p (D.map (DBk.ob (opA g.code))) R
end Go.Proofs.Ytnidakplcaanfaa
namespace Go.Proofs.Ytnidakplcaanfaa
open Go.RowKit Go.Shelf
/-- What lies below the loop: the boxes of the script and of the function, and what they hold. -/
structure CkX (fs : List Fn) (g : Fn) (V0 : Value) (a1 : Option Addr) (c1 fl Sb Fb : Nat) (u0 u1 u2 u3 : Value) (w V : World) : Prop where
  s0 : V.cell? ⟨Sb, 0, none⟩ = some V0
  s1 : V.cell? ⟨Sb, 1, none⟩ = some (.slice a1 fl c1)
  f0 : V.cell? ⟨Fb, 0, none⟩ = some u0
  f1 : V.cell? ⟨Fb, 1, none⟩ = some u1
  f2 : V.cell? ⟨Fb, 2, none⟩ = some u2
  f3 : V.cell? ⟨Fb, 3, none⟩ = some u3
  fat : FsAt V.cell? a1 fs
  fn : FnIs V.cell? g u0 u1 u2 u3
  bel : Below w.heap.size w V
theorem CkX.below {fs : List Fn} {g : Fn} {V0 : Value} {a1 : Option Addr} {c1 fl Sb Fb : Nat} {u0 u1 u2 u3 : Value} {w V V' : World} (h : CkX fs g V0 a1 c1 fl Sb Fb u0 u1 u2 u3 w V) (hb : Below V.heap.size V V') : CkX fs g V0 a1 c1 fl Sb Fb u0 u1 u2 u3 w V' := by
  have k := below_keep hb
  exact ⟨k _ _ h.s0, k _ _ h.s1, k _ _ h.f0, k _ _ h.f1, k _ _ h.f2, k _ _ h.f3, h.fat.keep k, h.fn.keep k, h.bel.trans (hb.mono h.bel.size)⟩
theorem box_md {W W' : World} {b : Nat} {cs : Array Value} (h : W.heap[b]? = some (.cells cs 53 (0, 0))) (m : Md W W') : W'.heap[b]? = some (.cells cs 53 (0, 0)) := m.2 _ _ _ _ (by decide) (by decide) h
/-- The state in the midst of a round, behind the step. -/
structure DX (fs : List Fn) (g : Fn) (V0 : Value) (a1 : Option Addr) (c1 fl Sb Fb : Nat) (u0 u1 u2 u3 : Value) (w : World) (X : Nat) (x : Int × Int) (W : World) : Prop where
  k : CkX fs g V0 a1 c1 fl Sb Fb u0 u1 u2 u3 w W
  x : W.heap[X]? = some (.cells #[.int .i64 x.1, .int .i64 x.2] 53 (0, 0))
theorem DX.below {fs : List Fn} {g : Fn} {V0 : Value} {a1 : Option Addr} {c1 fl Sb Fb : Nat} {u0 u1 u2 u3 : Value} {w : World} {X : Nat} {x : Int × Int} {W W' : World} (h : DX fs g V0 a1 c1 fl Sb Fb u0 u1 u2 u3 w X x W) (hb : Below W.heap.size W W') : DX fs g V0 a1 c1 fl Sb Fb u0 u1 u2 u3 w X x W' := ⟨h.k.below hb, (hb.block _ (blk_lt h.x)).trans h.x⟩
theorem DX.xc {fs : List Fn} {g : Fn} {V0 : Value} {a1 : Option Addr} {c1 fl Sb Fb : Nat} {u0 u1 u2 u3 : Value} {w : World} {X : Nat} {x : Int × Int} {W : World} (h : DX fs g V0 a1 c1 fl Sb Fb u0 u1 u2 u3 w X x W) : W.cell? ⟨X, 0, none⟩ = some (.int .i64 x.1) ∧ W.cell? ⟨X, 1, none⟩ = some (.int .i64 x.2) := by
  rw [Lib.cell_of_heap h.x, Lib.cell_of_heap h.x]
  exact ⟨rfl, rfl⟩
/-- The step of a round, behind the note. -/
theorem round_step {fs : List Fn} {g : Fn} {V0 : Value} {a1 : Option Addr} {c1 Sb Fb : Nat} {u0 u1 u2 u3 : Value} {w W4 : World} {B X : Nat} {x : Int × Int} {av ov : Value} {p : List Int} {D : List DBk} {R : List (List Int)} {vs ds : List Value} {la : Option Addr} {lc : Nat} (hx : InsR fs (g.p ++ g.l) x) (hh : HeadsR fs) (bf : fs.length ≤ 16) (bsl : g.p.length + g.l.length ≤ 16) (hgf : g.fits) (hpl : p.length ≤ 32) (w6 : World)
    (h : DM g.code.length B W4 av ov p D R vs ds la lc w6) (hX : DX fs g V0 a1 c1 fs.length Sb Fb u0 u1 u2 u3 w X x w6) :
    Calls Try.prog 27 #[.agg #[V0, .slice a1 fs.length c1], .agg #[u0, u1, u2, u3], .agg #[.int .i64 x.1, .int .i64 x.2], .slice la p.length lc] w6 fun e w7 => ∃ qa ql qc, e = .returned (.tuple #[.slice qa ql qc, .int .i64 (stepW fs (g.p ++ g.l) x p).1]) ∧
      (w7.cell? ⟨X, 0, none⟩ = some (.int .i64 x.1) ∧ w7.cell? ⟨X, 1, none⟩ = some (.int .i64 x.2) ∧ w7.cell? ⟨Fb, 3, none⟩ = some u3) ∧ Hid (DX fs g V0 a1 c1 fs.length Sb Fb u0 u1 u2 u3 w X x w7 ∧ ((stepW fs (g.p ++ g.l) x p).1 = 0 → ql = (stepW fs (g.p ++ g.l) x p).2.length ∧ DM g.code.length B W4 av ov (stepW fs (g.p ++ g.l) x p).2 D R vs ds qa qc w7)) := by
  refine (rstep7_any x hx p V0 u0 u1 u2 u3 a1 c1 la p.length lc rfl (by omega) h.cap w6 h.nl.at' hX.k.fat hX.k.fn hgf (by rw [List.length_append]; omega) (by omega) hh).mono fun e w7 ⟨qa, ql, qc, h1, h2, h3⟩ => ?_
  have hX7 := hX.below h3
  refine ⟨qa, ql, qc, h1, ⟨hX7.xc.1, hX7.xc.2, hX7.k.f3⟩, hid7 ⟨hX7, fun h0 => ?_⟩⟩
  obtain ⟨q1, q2, q3⟩ := h2 h0
  exact ⟨q1, (h.below h3).stack ((ns_in_row q3).low h.siz) (by rw [← q1]; exact q2)⟩
/-- The must of a round. -/
theorem round_must {fs : List Fn} {g : Fn} {V0 : Value} {a1 a3 : Option Addr} {c1 c3 fl Sb Fb ob oc m : Nat} {u0 u1 u2 : Value} {w W4 : World} {B X : Nat} {n A : Int} {av : Value} {q : List Int} {D : List DBk} {R : List (List Int)} {vs ds : List Value} {qa : Option Addr} {ql qc : Nat} (hn : n = 50 ∨ n = 52) (hm : D.length = m) (bm : m ≤ 1000) (hD : D ≠ []) (hql : q.length = ql) (bq : ql ≤ 1000) (w7 : World)
    (h : DM g.code.length B W4 av (.slice (some ⟨ob, 0, none⟩) m oc) q D R vs ds qa qc w7) (hX : DX fs g V0 a1 c1 fl Sb Fb u0 u1 u2 (.slice a3 g.code.length c3) w X (n, A) w7) :
    Calls Try.prog 28 #[.slice a3 g.code.length c3, .slice (some ⟨ob, 0, none⟩) m oc, .agg #[.int .i64 n, .int .i64 A], .slice qa ql qc] w7 fun e w8 => e = .returned (.int .i64 (mustS (opA g.code) D n q)) ∧ w8.cell? ⟨X, 0, none⟩ = some (.int .i64 n) ∧ Hid (DX fs g V0 a1 c1 fl Sb Fb u0 u1 u2 (.slice a3 g.code.length c3) w X (n, A) w8 ∧ DM g.code.length B W4 av (.slice (some ⟨ob, 0, none⟩) m oc) q D R vs ds qa qc w8) := by
  subst hm
  have hat := h.dcs.at' h.orow
  have hop : ∀ j (hj : j < g.code.length), g.code[j].1 = opA g.code j := fun j hj => (ops_at hj).symm
  have hfin : ∀ e w8, MustEnd (mustS (opA g.code) D n q) w7 e w8 → e = .returned (.int .i64 (mustS (opA g.code) D n q)) ∧ w8.cell? ⟨X, 0, none⟩ = some (.int .i64 n) ∧ Hid (DX fs g V0 a1 c1 fl Sb Fb u0 u1 u2 (.slice a3 g.code.length c3) w X (n, A) w8 ∧ DM g.code.length B W4 av (.slice (some ⟨ob, 0, none⟩) D.length oc) q D R vs ds qa qc w8) := fun e w8 ⟨h1, h2⟩ => ⟨h1, (hX.below h2).xc.1, hid7 ⟨hX.below h2, h.below h2⟩⟩
  have hc : IsAt w7.cell? a3 g.code := by
    obtain ⟨_, _, _, ⟨a, c, e, hh⟩⟩ := hX.k.fn
    cases e
    exact hh
  rcases hn with rfl | rfl
  · rcases List.eq_nil_or_concat D with rfl | ⟨M, d, rfl⟩
    · exact absurd rfl hD
    rw [List.concat_eq_append] at *
    exact (must_end (opA g.code) g.code.length M d A q _ ob oc _ (by simp) bm qa ql qc hql bq w7 hat h.nl.at').mono hfin
  · exact (must_leave (opA g.code) g.code hop D A q a3 c3 ob oc g.code.length _ rfl rfl bm qa ql qc hql bq w7 hc hat h.nl.at').mono hfin
/-- What a round comes to. -/
theorem round_plain {fs : List Fn} {g : Fn} {A0 : Int × List (List Int)} {i : Nat} {x : Int × Int} {p : List Int} {D : List DBk} {R : List (List Int)} (hh : HeadsR fs) (hil : i < g.code.length) (hx : g.code[i] = x) (hs : standS x.1 (stk (opA g.code) i) = true) (hlen : p.length ≤ 32) (hobs : OBs (D.map (DBk.ob (opA g.code)))) (hgo : Goes (D.map (DBk.ob (opA g.code))) (stk (opA g.code) i)) (hcnt : R.length = i) (hrun : A0 = chkFrom fs (g.p ++ g.l) g.r (g.code.drop i) p (D.map (DBk.ob (opA g.code))) R) :
    ((stepW fs (g.p ++ g.l) x p).1 ≠ 0 → A0 = ((stepW fs (g.p ++ g.l) x p).1, [])) ∧
    ((stepW fs (g.p ++ g.l) x p).1 = 0 → dMust (opA g.code) x.1 (stepW fs (g.p ++ g.l) x p).2 D ≠ 0 → A0 = (dMust (opA g.code) x.1 (stepW fs (g.p ++ g.l) x p).2 D, [])) ∧
    ((stepW fs (g.p ++ g.l) x p).1 = 0 → dMust (opA g.code) x.1 (stepW fs (g.p ++ g.l) x p).2 D = 0 → 32 < (dTurn x.1 i (stepW fs (g.p ++ g.l) x p).2 D).1.length → A0 = (32, [])) ∧
    ((stepW fs (g.p ++ g.l) x p).1 = 0 → dMust (opA g.code) x.1 (stepW fs (g.p ++ g.l) x p).2 D = 0 → ¬ 32 < (dTurn x.1 i (stepW fs (g.p ++ g.l) x p).2 D).1.length → ∀ B W4 av ov vs ds la lc W, DM g.code.length B W4 av ov (dTurn x.1 i (stepW fs (g.p ++ g.l) x p).2 D).1 (dTurn x.1 i (stepW fs (g.p ++ g.l) x p).2 D).2 (R ++ [p]) vs ds la lc W → DI fs g A0 B W4 av ov (i + 1) (dTurn x.1 i (stepW fs (g.p ++ g.l) x p).2 D).1 (dTurn x.1 i (stepW fs (g.p ++ g.l) x p).2 D).2 (R ++ [p]) vs ds la lc W) := by
  have hop : opA g.code i = x.1 := by rw [← hx]; exact ops_at hil
  have hrun2 : A0 = if (passW fs (g.p ++ g.l) x p (D.map (DBk.ob (opA g.code)))).1 = 0 then chkFrom fs (g.p ++ g.l) g.r (g.code.drop (i + 1)) (passW fs (g.p ++ g.l) x p (D.map (DBk.ob (opA g.code)))).2.1 (passW fs (g.p ++ g.l) x p (D.map (DBk.ob (opA g.code)))).2.2 (R ++ [p]) else ((passW fs (g.p ++ g.l) x p (D.map (DBk.ob (opA g.code)))).1, []) := by
    rw [hrun, List.drop_eq_getElem_cons hil, hx, chkFrom]
  have hdp := doc_pass (fs := fs) (sl := g.p ++ g.l) (op := opA g.code) (x := x) (k := i) hop p D
  have hok := pass_ok (sl := g.p ++ g.l) hh hlen hobs hgo hs (i : Int)
  refine ⟨fun h0 => ?_, fun h0 h1 => ?_, fun h0 h1 h2 => ?_, fun h0 h1 h2 B W4 av ov vs ds la lc W hM => ?_⟩
  · rw [if_pos h0] at hdp
    rw [hrun2, hdp]
    exact if_neg h0
  · rw [if_neg (by simpa using h0), if_pos h1] at hdp
    rw [hrun2, hdp]
    exact if_neg h1
  · rw [if_neg (by simpa using h0), if_neg (by simpa using h1), if_pos h2] at hdp
    rw [hrun2, hdp]
    rfl
  · rw [if_neg (by simpa using h0), if_neg (by simpa using h1), if_neg h2] at hdp
    rw [hdp] at hrun2 hok
    obtain ⟨k1, k2, k3⟩ := hok rfl
    refine ⟨hM, k1, k2, ?_, by simp [hcnt], ?_⟩
    · rw [stk, hop]; exact k3
    · rw [hrun2]; rfl
end Go.Proofs.Ytnidakplcaanfaa
