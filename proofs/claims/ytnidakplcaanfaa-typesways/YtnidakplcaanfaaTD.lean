/- types.take. -/
import Derived.Test.YtnidakplcaanfaaSL
import Derived.Maps.AppendAt
import Derived.Maps.OwnIn
namespace Go.Proofs.Ytnidakplcaanfaa
open Go.RowKit Go.Shelf
attribute [local go_sem] Oper.semAt_some
/-- Types off a stack of which l are left: the error, and how many are left. -/
def tkS (st : List Int) : List Int → Nat → Int × Nat
  | [], l => (0, l)
  | x :: r, l => if l = 0 then (32, 0) else if x ≠ 0 ∧ x ≠ st.getD (l - 1) 0 then (33, 0) else tkS st r (l - 1)
def takeS (st ts : List Int) : Int × Nat := tkS st ts.reverse st.length
theorem bw_snd (ts : List Int) : ∀ k, k ≤ ts.length → (bw ts k).map Prod.snd = (ts.take k).reverse
  | 0, _ => rfl
  | k + 1, h => by
    rw [bw, List.map_cons, bw_snd ts k (by omega), List.take_succ_eq_append_getElem (by omega), List.reverse_append, List.getD_eq_getElem?_getD, List.getElem?_eq_getElem (by omega)]
    rfl
def TakeEnd (st ts : List Int) (a : Option Addr) (c : Nat) (w : World) (e : Ending) (w' : World) : Prop :=
  e = .returned (.tuple (if (takeS st ts).1 = 0 then #[.slice a (takeS st ts).2 c, .int .i64 0] else #[.slice none 0 0, .int .i64 (takeS st ts).1])) ∧ Below w.heap.size w w'
theorem backward_any (a : Option Addr) (n c : Nat) (w : World) : Calls Try.prog 93 #[.slice a n c] w fun e w' => e = .returned (.func (.func 98) #[] #[.pointer (some ⟨w.heap.size, 0, none⟩)]) ∧ w' = w.alloc (.cells #[.slice a n c] 35) := by
  go_enter Try.func93, Try.ntmps93
  go_wp2
  go_ret
  exact ⟨rfl, rfl⟩
theorem results_cells7 {fn : Func} {t u : Tmp} {ty uy : TypeId} (h : fn.results = #[.cell t ty, .cell u uy]) (tmps : Array Value) (P : Program) (w : World) (a b : Addr) (v x : Value) (ha : tmps[t]?.getD undef = .pointer (some a)) (hb : tmps[u]?.getD undef = .pointer (some b)) (hl : (loadVar ty a).run P w = .ok v w) (hm : (loadVar uy b).run P w = .ok x w) :
    (results fn tmps).run P w = .ok (.tuple #[v, x]) w := by
  simp [results, h, ha, hb, asAddr, hl, hm]
theorem load_ints7 {w : World} {b : Nat} {v : Value} (h : w.cell? ⟨b, 0, none⟩ = some v) : (loadVar 35 ⟨b, 0, none⟩).run Try.prog w = .ok v w := by
  simp [loadVar, go_sem, h]
theorem load_errno7 {w : World} {b : Nat} {v : Value} (h : w.cell? ⟨b, 0, none⟩ = some v) : (loadVar 28 ⟨b, 0, none⟩).run Try.prog w = .ok v w := by
  simp [loadVar, go_sem, h]
theorem box_putObj7 {W : World} {b D : Nat} {t : TypeId} {v : Value} (h : Boxed W b t v) (hne : b ≠ D) (o : Obj) : Boxed (W.putObj D o) b t v := (World.putObj_heap_other (w := W) (o := o) hne).trans h
theorem below_putObj7 {n D : Nat} {w W : World} (h : Below n w W) (hn : n ≤ D) (o : Obj) (hK : D < W.heap.size) : Below n w (W.putObj D o) := h.grown (grownBy_putObj' W D o) (by have := h.size; omega) fun j ej => by cases ej; exact hn
/-- What holds while types are taken: l are left. -/
structure TkI (st : List Int) (a : Option Addr) (c n z : Nat) (w : World) (pre : List (Nat × Int)) (W : World) : Prop where
  box : ∃ l, Boxed W z 35 (.slice a l c) ∧ l ≤ n ∧ ∀ rest, tkS st (pre.map Prod.snd ++ rest) n = tkS st rest l
  res : Boxed W (z + 1) 35 (.slice none 0 0)
  err : Boxed W (z + 2) 28 (.int .i64 0)
  bel : Below z w W
  siz : z + 4 ≤ W.heap.size
structure TkR (st ts : List Int) (z : Nat) (w : World) (W : World) : Prop where
  no : ∃ er, er ≠ 0 ∧ takeS st ts = (er, 0) ∧ Boxed W (z + 2) 28 (.int .i64 er)
  res : Boxed W (z + 1) 35 (.slice none 0 0)
  bel : Below z w W
  siz : z + 4 ≤ W.heap.size
theorem TkI.grow {st : List Int} {a : Option Addr} {c n z : Nat} {w : World} {pre : List (Nat × Int)} {W W' : World} {row : Option Nat} (h : TkI st a c n z w pre W) (hg : W.grownBy W' row) (hr : ∀ k, row = some k → z + 3 ≤ k) : TkI st a c n z w pre W' := by
  obtain ⟨l, h1, h2⟩ := h.box
  exact ⟨⟨l, h1.kept hg (fun e => by have := hr _ e.symm; omega), h2⟩, h.res.kept hg (fun e => by have := hr _ e.symm; omega), h.err.kept hg (fun e => by have := hr _ e.symm; omega), h.bel.grown hg (by have := h.siz; omega) (fun k e => by have := hr k e; omega), Nat.le_trans h.siz hg.size⟩
theorem TkR.grow {st ts : List Int} {z : Nat} {w W W' : World} {row : Option Nat} (h : TkR st ts z w W) (hg : W.grownBy W' row) (hr : ∀ k, row = some k → z + 3 ≤ k) : TkR st ts z w W' := by
  obtain ⟨er, h0, h1, h2⟩ := h.no
  exact ⟨⟨er, h0, h1, h2.kept hg (fun e => by have := hr _ e.symm; omega)⟩, h.res.kept hg (fun e => by have := hr _ e.symm; omega), h.bel.grown hg (by have := h.siz; omega) (fun k e => by have := hr k e; omega), Nat.le_trans h.siz hg.size⟩
set_option maxRecDepth 100000 in
set_option maxHeartbeats 4000000 in
theorem take_any (a b : Option Addr) (c d n m : Nat) (st ts : List Int) (hn : st.length = n) (hm : ts.length = m) (bn : n ≤ 1000000) (bm : m ≤ 1000000) (hcn : n ≤ c) (w : World) (ha : NsAt w.cell? a st) (hb : NsAt w.cell? b ts) :
    Calls Try.prog 85 #[.slice a n c, .slice b m d] w (TakeEnd st ts a c w) := by
  refine (callsIn_wide (n := 3)).1 ?_
  refine callsIn_of_wp_marks Try.func85 rfl trivial ?_ rfl
  simp only [Try.ntmps85, List.size_toArray, List.length_cons, List.length_nil, Nat.reduceAdd, Nat.reduceSub, Array.replicate_succ, Array.replicate_zero, List.push_toArray, List.append_toArray, List.nil_append, List.cons_append]
  gi_wp2_with (refine ⟨trivial, ?_⟩; gi_at_call 93; refine (callsIn_wide.2 (backward_any _ _ _ _)).mono ?_; rintro e w' ⟨rfl, rfl⟩)
  have b0 := ((((Boxed.new w 35 (.slice a n c)).alloc (.cells #[.slice none 0 0] 35)).alloc (.cells #[.int .i64 0] 28)).alloc (.cells #[.slice b m d] 35))
  have b1 := ((Boxed.new (w.alloc (.cells #[.slice a n c] 35)) 35 (.slice none 0 0)).alloc (.cells #[.int .i64 0] 28)).alloc (.cells #[.slice b m d] 35)
  have b2 := (Boxed.new ((w.alloc (.cells #[.slice a n c] 35)).alloc (.cells #[.slice none 0 0] 35)) 28 (.int .i64 0)).alloc (.cells #[.slice b m d] 35)
  have b3 := Boxed.new (((w.alloc (.cells #[.slice a n c] 35)).alloc (.cells #[.slice none 0 0] 35)).alloc (.cells #[.int .i64 0] 28)) 35 (.slice b m d)
  simp only [World.size_alloc] at b0 b1 b2 b3
  have hB0 : Below w.heap.size w ((((w.alloc (.cells #[.slice a n c] 35)).alloc (.cells #[.slice none 0 0] 35)).alloc (.cells #[.int .i64 0] 28)).alloc (.cells #[.slice b m d] 35)) :=
    ((((Below.refl _ w).alloc (Nat.le_refl _) _).alloc (by simp) _).alloc (by simp; omega) _).alloc (by simp; omega) _
  have hsz : ((((w.alloc (.cells #[.slice a n c] 35)).alloc (.cells #[.slice none 0 0] 35)).alloc (.cells #[.int .i64 0] 28)).alloc (.cells #[.slice b m d] 35)).heap.size = w.heap.size + 4 := by simp
  generalize ((((w.alloc (.cells #[.slice a n c] 35)).alloc (.cells #[.slice none 0 0] 35)).alloc (.cells #[.int .i64 0] 28)).alloc (.cells #[.slice b m d] 35)) = W0 at *
  have hT : ∀ W W', Below w.heap.size w W → KpB (w.heap.size + 3) w.heap.size W W' → NsAt W'.cell? b ts := fun W W' hW hK => hb.keep fun x v h => by
    have hlt := World.block_lt_of_cell? w x h
    exact (cell_same7 (hK x.block (.inr hlt))).trans ((hW.cell hlt).trans h)
  refine range_feeds (b := w.heap.size + 3) (Kp := KpB (w.heap.size + 3) w.heap.size) (xs := bw ts m) (encs := fun x : Nat × Int => #[.int .i64 x.1, .int .i64 x.2]) rfl (by decide) (gf := 98) (lb := #[.pointer (some ⟨w.heap.size + 3, 0, none⟩)]) rfl trivial (enters_of Try.func98 (by kernel_rfl) rfl) (by omega)
    (fun W hW => back_feeds 2 (by decide) _ (w.heap.size + 3) w.heap.size b d m ts hm bm W ((hW.cell (p := ⟨w.heap.size + 3, 0, none⟩) (by show w.heap.size + 3 < _; omega)).trans b3.cell) (fun W' hK => hT W W' (hB0.trans (hW.mono (by omega))) hK))
    (fun h k => h.trans k) (fun W l o hl k hk => World.putObj_heap_other (by omega)) (fun _ => rfl)
    (fun pre W => TkI st a c n w.heap.size w pre W) (fun _ W => TkR st ts w.heap.size w W) ?hI ?hR ?hIb ?hRb ?h0
    (fun x => { tmps := #[.slice a n c, .slice b m d, .pointer (some ⟨w.heap.size, 0, none⟩), undef, .pointer (some ⟨w.heap.size + 1, 0, none⟩), .pointer (some ⟨w.heap.size + 1 + 1, 0, none⟩), undef, .int .i64 x.2, undef, .slice b m d, .func (.func 98) #[] #[.pointer (some ⟨w.heap.size + 1 + 1 + 1, 0, none⟩)], .int .i64 x.1, .int .i64 x.2, undef, undef, undef, undef, undef, undef, undef, undef, undef, undef, undef, undef, undef, undef, undef, undef, undef, undef, undef, undef], defers := [] }) ?assign ?body ?done ?ret
  case assign =>
    intro l x W K hK
    gi_wp2
    exact hK
  case hI =>
    rintro pre X Y row h hg hrow
    exact h.grow hg (fun k e => by have := (hrow _ e).1; omega)
  case hR =>
    rintro pre X Y row h hg hrow
    exact h.grow hg (fun k e => by have := (hrow _ e).1; omega)
  case hIb =>
    rintro pre W v h
    exact h.grow (grownBy_setCell' _ _ _) (fun k e => by simp at e; omega)
  case hRb =>
    rintro pre W v h
    exact h.grow (grownBy_setCell' _ _ _) (fun k e => by simp at e; omega)
  case h0 => exact ⟨⟨n, b0, Nat.le_refl _, fun rest => rfl⟩, b1, b2, hB0, by omega⟩
  case body =>
    rintro l pre x W h hx
    obtain ⟨q, hbx, hq, htk⟩ := h.box
    obtain ⟨rest, hrest⟩ := hx
    have hts : ts.reverse = pre.map Prod.snd ++ x.2 :: rest.map Prod.snd := by
      have e := bw_snd ts m (by omega)
      rw [← hm, List.take_length, hm, ← hrest] at e
      rw [← e]
      simp
    have HTk : Hid (takeS st ts = tkS st (x.2 :: rest.map Prod.snd) q) := hid7 (by rw [takeS, hts, hn]; exact htk _)
    have HTn : Hid (∀ rr, tkS st ((pre ++ [x]).map Prod.snd ++ rr) n = tkS st (x.2 :: rr) q) := hid7 fun rr => by
      have := htk (x.2 :: rr)
      rw [← this]
      simp
    have hres := hid7 h.res
    have herr := hid7 h.err
    have hbel := hid7 h.bel
    have hsiz := h.siz
    have c0 := hbx.cell
    have z0 := hbx.frozen
    have c1 := h.res.cell
    have z1 := h.res.frozen
    have c2 := h.err.cell
    have z2 := h.err.frozen
    have hst := hid7 (ha.keep (C' := W.cell?) fun x v hh => (h.bel.cell (World.block_lt_of_cell? w x hh)).trans hh)
    have HB := hid7 hbx
    obtain ⟨x1, y⟩ := x
    simp only at HTk HTn ⊢
    clear h hbx htk hts hrest b0 b1 b2 b3 hB0 hT
    have hno : ∀ er : Int, er ≠ 0 → takeS st ts = (er, 0) → ∀ W', W' = (W.setCell ⟨w.heap.size + 1, 0, none⟩ (.slice none 0 0)).setCell ⟨w.heap.size + 1 + 1, 0, none⟩ (.int .i64 er) → KeepsFrom W0.heap.size W W' ∧ TkR st ts w.heap.size w W' := by
      rintro er h0 h1 W' rfl
      refine ⟨((KeepsOthers.setCell _ _ _).trans (KeepsOthers.setCell _ _ _)).from _, ⟨er, h0, h1, ?_⟩, ?_, ?_, ?_⟩
      · exact (herr.out.kept (grownBy_setCell' _ (w.heap.size + 1) (.slice none 0 0)) (by simp)).set _
      · exact (hres.out.set _).kept (grownBy_setCell' _ _ _) (by simp)
      · exact (hbel.out.setCell (p := ⟨w.heap.size + 1, 0, none⟩) (by show w.heap.size ≤ w.heap.size + 1; omega) _).setCell (p := ⟨w.heap.size + 1 + 1, 0, none⟩) (by show w.heap.size ≤ w.heap.size + 1 + 1; omega) _
      · simpa using hsiz
    have HNo := hid7 hno
    clear hno
    by_cases hq0 : q = 0
    · subst hq0
      have HT0 := hid7 (show takeS st ts = (32, 0) by rw [HTk.out, tkS, if_pos rfl])
      clear HTk HTn
      gi_wp2
      exact HNo.out 32 (by decide) HT0.out _ rfl
    · obtain ⟨ab, ao, rfl⟩ := ns_some hst.out (by omega)
      have s0 := ns_at hst.out (q - 1) (by omega)
      have HT0 := hid7 (show takeS st ts = if y ≠ 0 ∧ y ≠ st.getD (q - 1) 0 then (33, 0) else tkS st (rest.map Prod.snd) (q - 1) by rw [HTk.out, tkS, if_neg hq0])
      have HT1 : Hid (∀ rr, tkS st ((pre ++ [(x1, y)]).map Prod.snd ++ rr) n = if y ≠ 0 ∧ y ≠ st.getD (q - 1) 0 then (33, 0) else tkS st rr (q - 1)) := hid7 fun rr => by rw [HTn.out rr, tkS, if_neg hq0]
      clear HTk HTn
      generalize st.getD (q - 1) 0 = u at s0 HT0 HT1
      obtain ⟨q', rfl⟩ : ∃ q', q = q' + 1 := ⟨q - 1, by omega⟩
      rw [Nat.add_sub_cancel] at s0 HT0 HT1
      by_cases hbad : y ≠ 0 ∧ y ≠ u
      · have HT2 := hid7 (HT0.out.trans (if_pos hbad))
        obtain ⟨g1, g2⟩ := hbad
        have t1 : (y != 0) = true := by simpa using g1
        have t2 : (y != u) = true := by simpa using g2
        clear HT0 HT1
        gi_wp2
        exact HNo.out 33 (by decide) HT2.out _ rfl
      · have HT2 : Hid (∀ rr, tkS st ((pre ++ [(x1, y)]).map Prod.snd ++ rr) n = tkS st rr q') := hid7 fun rr => (HT1.out rr).trans (if_neg hbad)
        have HN : Hid (KeepsFrom W0.heap.size W (W.setCell ⟨w.heap.size, 0, none⟩ (.slice (some ⟨ab, ao, none⟩) q' c)) ∧ KpB (w.heap.size + 3) w.heap.size W (W.setCell ⟨w.heap.size, 0, none⟩ (.slice (some ⟨ab, ao, none⟩) q' c)) ∧ TkI st (some ⟨ab, ao, none⟩) c n w.heap.size w (pre ++ [(x1, y)]) (W.setCell ⟨w.heap.size, 0, none⟩ (.slice (some ⟨ab, ao, none⟩) q' c))) := hid7 (by
          refine ⟨(KeepsOthers.setCell _ _ _).from _, fun k hk => Below.heap_setCell _ _ _ k (by show k ≠ w.heap.size; omega), ⟨q', HB.out.set _, by omega, HT2.out⟩, ?_, ?_, ?_, ?_⟩
          · exact hres.out.kept (grownBy_setCell' _ _ _) (by simp)
          · exact herr.out.kept (grownBy_setCell' _ _ _) (by simp)
          · exact hbel.out.setCell (p := ⟨w.heap.size, 0, none⟩) (Nat.le_refl _) _
          · simpa using hsiz)
        clear HT0 HT1 HT2
        by_cases hy : y = 0
        · subst hy
          gi_wp2
          exact HN.out
        · have hyu : y = u := by
            by_cases h : y = u
            · exact h
            · exact absurd ⟨hy, h⟩ hbad
          subst hyu
          have t1 : (y != 0) = true := by simpa using hy
          clear hbad
          gi_wp2
          exact HN.out
  case done =>
    rintro D W hD h hK
    obtain ⟨q, hbx, hq, htk⟩ := h.box
    have HTk : Hid (takeS st ts = (0, q)) := hid7 (by
      have := htk []
      rw [List.append_nil, bw_snd ts m (by omega), ← hm, List.take_length] at this
      rw [takeS, hn, this]
      rfl)
    have hc := hbx.cell
    have c1 := h.res.cell
    have d1 := h.res.frozen
    have f2 := h.err.kept (grownBy_setCell' _ (w.heap.size + 1) (.slice a q c)) (by simp)
    have c2 := f2.cell
    have d2 := f2.frozen
    have H := hid7 h
    have F2 := hid7 f2
    clear hbx htk b0 b1 b2 b3 hB0 hT h f2
    gi_wp2
    have hK2 : ((W.setCell ⟨w.heap.size + 1, 0, none⟩ (.slice a q c)).setCell ⟨w.heap.size + 1 + 1, 0, none⟩ (.int .i64 0)).heap[D]? = some (.deferred (some [])) :=
      (Below.heap_setCell _ _ _ D (by show D ≠ w.heap.size + 1 + 1; omega)).trans ((Below.heap_setCell _ _ _ D (by show D ≠ w.heap.size + 1; omega)).trans hK)
    refine ⟨by simp, .inl ⟨_, _, rfl, run_takeDeferred hK2, ?_⟩⟩
    have g1 := box_putObj7 ((H.out.res.set (.slice a q c)).kept (grownBy_setCell' _ (w.heap.size + 1 + 1) (.int .i64 0)) (by simp)) (by omega) (D := D) (.deferred none)
    have g2 := box_putObj7 (F2.out.set (.int .i64 0)) (by omega) (D := D) (.deferred none)
    refine ⟨_, results_cells7 rfl _ _ _ ⟨w.heap.size + 1, 0, none⟩ ⟨w.heap.size + 1 + 1, 0, none⟩ _ _ rfl rfl (load_ints7 g1.cell) (load_errno7 g2.cell), ?_⟩
    refine ⟨?_, below_putObj7 ((H.out.bel.setCell (p := ⟨w.heap.size + 1, 0, none⟩) (by show w.heap.size ≤ w.heap.size + 1; omega) _).setCell (p := ⟨w.heap.size + 1 + 1, 0, none⟩) (by show w.heap.size ≤ w.heap.size + 1 + 1; omega) _) (by omega) _ (Array.getElem?_eq_some_iff.1 hK2).1⟩
    rw [HTk.out]
    rfl
  case ret =>
    rintro D pre W hD h hK
    obtain ⟨er, h0, h1, h2⟩ := h.no
    have HR : Hid (takeS st ts = (er, 0)) := hid7 h1
    have H := hid7 h
    have H2 := hid7 h2
    clear b0 b1 b2 b3 hB0 hT h h1 h2
    gi_wp2
    refine ⟨by simp, .inl ⟨_, _, rfl, run_takeDeferred hK, ?_⟩⟩
    have g1 := box_putObj7 H.out.res (by omega) (D := D) (.deferred none)
    have g2 := box_putObj7 H2.out (by omega) (D := D) (.deferred none)
    refine ⟨_, results_cells7 rfl _ _ _ ⟨w.heap.size + 1, 0, none⟩ ⟨w.heap.size + 1 + 1, 0, none⟩ _ _ rfl rfl (load_ints7 g1.cell) (load_errno7 g2.cell), ?_⟩
    refine ⟨?_, below_putObj7 H.out.bel (by omega) _ (Array.getElem?_eq_some_iff.1 hK).1⟩
    rw [HR.out]
    show _ = Ending.returned (.tuple (if er = 0 then _ else _))
    rw [if_neg h0]
end Go.Proofs.Ytnidakplcaanfaa
