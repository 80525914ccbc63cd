/- What value's Parse comes to, readWord given. asm.ReadHead: what it keeps on its way. -/
import Derived.Test.YtbjipcpoiiegkaaGreatDoorAY
import Derived.Test.YtbjipcpoiiegkaaGreatDoorVA
import Derived.RangeFuncBox
import Derived.Maps.AppendAt
import Derived.Maps.OwnIn
import Derived.Test.YtbjipcpoiiegkaaGreatDoorAH
namespace Go.Proofs.YtbjipcpoiiegkaaGreatDoor
open Go.RowKit Go.Shelf
attribute [local go_sem] Oper.semAt_some

theorem splitSeq_any (s : List UInt8) (w : World) : Calls Tryz.prog 62 #[.string ⟨s.toArray⟩, .string ⟨#[32]⟩, .int .i64 0] w fun e w' =>
    e = .returned (.func (.func 80) #[] #[.pointer (some ⟨w.heap.size + 1, 0, none⟩), .pointer (some ⟨w.heap.size, 0, none⟩), .pointer (some ⟨w.heap.size + 2, 0, none⟩)]) ∧
    w' = ((w.alloc (.cells #[.string ⟨s.toArray⟩] 9)).alloc (.cells #[.string ⟨#[32]⟩] 9)).alloc (.cells #[.int .i64 0] 3) := by
  go_enter Tryz.func62, Tryz.ntmps62
  go_wp2
  go_ret
  exact ⟨rfl, rfl⟩
theorem splitSeqTop_any (s : List UInt8) (w : World) : Calls Tryz.prog 38 #[.string ⟨s.toArray⟩, .string ⟨#[32]⟩] w fun e w' =>
    e = .returned (.func (.func 80) #[] #[.pointer (some ⟨w.heap.size + 1, 0, none⟩), .pointer (some ⟨w.heap.size, 0, none⟩), .pointer (some ⟨w.heap.size + 2, 0, none⟩)]) ∧
    w' = ((w.alloc (.cells #[.string ⟨s.toArray⟩] 9)).alloc (.cells #[.string ⟨#[32]⟩] 9)).alloc (.cells #[.int .i64 0] 3) := by
  go_enter Tryz.func38, Tryz.ntmps38
  go_wp2_with (go_at_call 62; refine (splitSeq_any s _).mono ?_; rintro e w' ⟨rfl, rfl⟩)
  go_ret
  exact ⟨rfl, rfl⟩

theorem results_cells {fn : Func} {t u : Tmp} {ty uy : TypeId} (h : fn.results = #[.cell t ty, .cell u uy]) (tmps : Array Value) (P : Program) (w : World) (a b : Addr) (v x : Value) (ha : tmps[t]?.getD undef = .pointer (some a)) (hb : tmps[u]?.getD undef = .pointer (some b)) (hl : (loadVar ty a).run P w = .ok v w) (hm : (loadVar uy b).run P w = .ok x w) :
    (results fn tmps).run P w = .ok (.tuple #[v, x]) w := by
  simp [results, h, ha, hb, asAddr, hl, hm]
def Val.cs (x : Val) : List Value := [.int .i64 x.t, .int .i64 x.n, .string ⟨x.b.toArray⟩]
/-- The values of words. -/
def valsOf (f : List UInt8 → Option Val) (l : List (List UInt8)) : List Val := l.map fun x => (f x).getD ⟨0, 0, []⟩
def cellsOf' (l : List Val) : List Value := l.flatMap Val.cs
theorem blind_below {β : Type} {n b : Nat} {w : World} (h : n ≤ b) : Blind (β := β) b (fun _ W => Below n w W) := fun _ _ _ hW => hW.setCell (p := ⟨b, 0, none⟩) h _

theorem row_below {w w' : World} {base k size : Nat} {e : TypeId} {v : Value} {xs : List Value} (h : w.ownsRow base e size v k xs) (hb : Below w.heap.size w w') : w'.ownsRow base e size v k xs := by
  refine ⟨h.1, ?_⟩
  rcases h.2 with h2 | ⟨g, cap, cur, rfl, hg, hh, r⟩
  · exact .inl h2
  · exact .inr ⟨g, cap, cur, rfl, hg, by rw [hb.block g (Array.getElem?_eq_some_iff.1 hh).1]; exact hh, r⟩
theorem box_below {w w' : World} {b : Nat} {t : TypeId} {v : Value} (h : Boxed w b t v) (hb : Below w.heap.size w w') : Boxed w' b t v := (hb.block _ h.lt).trans h
theorem cells_snoc (l : List Val) (x : Val) : cellsOf' (l ++ [x]) = cellsOf' l ++ x.cs := by simp [cellsOf']
theorem vals_snoc (f : List UInt8 → Option Val) (l : List (List UInt8)) (x : List UInt8) : valsOf f (l ++ [x]) = valsOf f l ++ [(f x).getD ⟨0, 0, []⟩] := by simp [valsOf]

theorem pieces_length : ∀ (n : Nat) (s : List UInt8), s.length ≤ n → (pieces s).length ≤ s.length + 1 := by
  intro n
  induction n with
  | zero =>
    intro s h
    rw [pieces, dif_neg (by omega)]
    simp
  | succ n ih =>
    intro s h
    rw [pieces]
    split
    · have := ih (s.drop ((Lib.indexByte s 32).toNat + 1)) (by rw [List.length_drop]; omega)
      rw [List.length_drop] at this
      simp only [List.length_cons]
      omega
    · simp
theorem cells_new (w : World) (xs : List Value) (t : TypeId) : ∀ j u, xs[j]? = some u → (w.alloc (.cells xs.toArray t)).cell? ((⟨w.heap.size, 0, none⟩ : Addr).add j) = some u := by
  intro j u h
  have e := World.alloc_heap_new w (.cells xs.toArray t)
  cases j with
  | zero =>
    simp only [World.cell?, Addr.add, if_pos, e]
    simpa using h
  | succ j =>
    simp only [World.cell?, Addr.add, if_neg (Nat.succ_ne_zero j), e]
    simpa using h
theorem keeps_below {W W' : World} (h : Below W.heap.size W W') : KeepsOthers W W' := ⟨h.size, fun k _o hk _ => (h.block k (Array.getElem?_eq_some_iff.1 hk).1).trans hk⟩
theorem kept_of {n : Nat} {W W' : World} (h : ∀ k, n + 3 ≤ k → k ≤ n + 5 → W'.heap[k]? = W.heap[k]?) : Kept (n + 4) (n + 3) (n + 5) W W' := ⟨h _ (by omega) (by omega), h _ (by omega) (by omega), h _ (by omega) (by omega)⟩

theorem load_slice {w : World} {b : Nat} {v : Value} (h : w.cell? ⟨b, 0, none⟩ = some v) : (loadVar 82 ⟨b, 0, none⟩).run Tryz.prog w = .ok v w := by
  simp [loadVar, go_sem, h]
theorem load_errno {w : World} {b : Nat} {v : Value} (h : w.cell? ⟨b, 0, none⟩ = some v) : (loadVar 83 ⟨b, 0, none⟩).run Tryz.prog w = .ok v w := by
  simp [loadVar, go_sem, h]
theorem box_putObj {W : World} {b D : Nat} {t : TypeId} {v : Value} (h : Boxed W b t v) (hne : b ≠ D) (o : Obj) : Boxed (W.putObj D o) b t v := by
  exact (World.putObj_heap_other (w := W) (o := o) hne).trans h
theorem below_putObj {n D : Nat} {w W : World} (h : Below n w W) (hn : n ≤ D) (o : Obj) (hK : D < W.heap.size) : Below n w (W.putObj D o) := h.grown (grownBy_putObj' W D o) (by have := h.size; omega) fun j ej => by cases ej; exact hn
/-- How Parse ends: with the values of all words, or with none. -/
def ParseEnd (s : List UInt8) (rw' : List UInt8 → Option Val) (w : World) (e : Ending) (w' : World) : Prop :=
  Below w.heap.size w w' ∧
    (((∀ x ∈ pieces s, (rw' x).isSome = true) ∧ ∃ v, e = .returned (.tuple #[v, .int .i64 0]) ∧ w'.ownsRow w.heap.size 54 3 v (pieces s).length (cellsOf' (valsOf rw' (pieces s)))) ∨
     ((∃ x ∈ pieces s, (rw' x).isSome = false) ∧ e = .returned (.tuple #[.slice none 0 0, .int .i64 21])))

set_option maxRecDepth 100000 in
set_option maxHeartbeats 4000000 in
theorem parse_any (s : List UInt8) (w : World) (hs0 : s ≠ []) (hs : s.length ≤ 1048576) (rw' : List UInt8 → Option Val)
    (hrw : ∀ x ∈ pieces s, ∀ W, Below w.heap.size w W → Calls Tryz.prog 74 #[.string ⟨x.toArray⟩] W fun e W' => e = .returned (.tuple #[Val.v ((rw' x).getD ⟨0, 0, []⟩), .bool (rw' x).isSome]) ∧ Below W.heap.size W W') :
    Calls Tryz.prog 53 #[.string ⟨s.toArray⟩] w (ParseEnd s rw' w) := by
  have hs1 : s.isEmpty = false := by
    cases s with
    | nil => exact absurd rfl hs0
    | cons a r => rfl
  obtain ⟨i0, hi, hz0, hz1, hz2⟩ := info_parts (show (Tryz.prog.info? 54).map (fun i => (i.zero, i.size, i.bytes)) = some (some (.agg #[.int .i64 0, .int .i64 0, .string ⟨#[]⟩]), 3, 32) by kernel_rfl)
  refine (callsIn_wide (n := 3)).1 ?_
  refine callsIn_of_wp_marks Tryz.func53 rfl trivial ?_ rfl
  simp only [Tryz.ntmps53, List.size_toArray, List.length_cons, List.length_nil, Nat.reduceAdd, Nat.reduceSub, Array.replicate_succ, Array.replicate_zero, List.push_toArray, List.append_toArray, List.nil_append, List.cons_append]
  gi_wp2_with (refine ⟨trivial, ?_⟩; gi_at_call 38; refine (callsIn_wide.2 (splitSeqTop_any s _)).mono ?_; rintro e w' ⟨rfl, rfl⟩)
  obtain ⟨z, hz⟩ : ∃ z, z = w.heap.size := ⟨_, rfl⟩
  have bR := Boxed.new w 82 (.slice none 0 0)
  have bE := Boxed.new (w.alloc (.cells #[.slice none 0 0] 82)) 83 (.int .i64 0)
  have bL := Boxed.new ((w.alloc (.cells #[.slice none 0 0] 82)).alloc (.cells #[.int .i64 0] 83)) 82 (.slice none 0 0)
  have bS := Boxed.new (((w.alloc (.cells #[.slice none 0 0] 82)).alloc (.cells #[.int .i64 0] 83)).alloc (.cells #[.slice none 0 0] 82)) 9 (.string ⟨s.toArray⟩)
  have bP := Boxed.new ((((w.alloc (.cells #[.slice none 0 0] 82)).alloc (.cells #[.int .i64 0] 83)).alloc (.cells #[.slice none 0 0] 82)).alloc (.cells #[.string ⟨s.toArray⟩] 9)) 9 (.string ⟨#[32]⟩)
  have bV := Boxed.new (((((w.alloc (.cells #[.slice none 0 0] 82)).alloc (.cells #[.int .i64 0] 83)).alloc (.cells #[.slice none 0 0] 82)).alloc (.cells #[.string ⟨s.toArray⟩] 9)).alloc (.cells #[.string ⟨#[32]⟩] 9)) 3 (.int .i64 0)
  simp only [World.size_alloc] at bR bE bL bS bP bV
  have hB0 : Below w.heap.size w ((((((w.alloc (.cells #[.slice none 0 0] 82)).alloc (.cells #[.int .i64 0] 83)).alloc (.cells #[.slice none 0 0] 82)).alloc (.cells #[.string ⟨s.toArray⟩] 9)).alloc (.cells #[.string ⟨#[32]⟩] 9)).alloc (.cells #[.int .i64 0] 3)) :=
    ((((((Below.refl _ w).alloc (Nat.le_refl _) _).alloc (by simp) _).alloc (by simp; omega) _).alloc (by simp; omega) _).alloc (by simp; omega) _).alloc (by simp; omega) _
  replace bR := ((((bR.alloc (.cells #[.int .i64 0] 83)).alloc (.cells #[.slice none 0 0] 82)).alloc (.cells #[.string ⟨s.toArray⟩] 9)).alloc (.cells #[.string ⟨#[32]⟩] 9)).alloc (.cells #[.int .i64 0] 3)
  replace bE := (((bE.alloc (.cells #[.slice none 0 0] 82)).alloc (.cells #[.string ⟨s.toArray⟩] 9)).alloc (.cells #[.string ⟨#[32]⟩] 9)).alloc (.cells #[.int .i64 0] 3)
  replace bL := ((bL.alloc (.cells #[.string ⟨s.toArray⟩] 9)).alloc (.cells #[.string ⟨#[32]⟩] 9)).alloc (.cells #[.int .i64 0] 3)
  replace bS := (bS.alloc (.cells #[.string ⟨#[32]⟩] 9)).alloc (.cells #[.int .i64 0] 3)
  replace bP := bP.alloc (.cells #[.int .i64 0] 3)
  have hsz : ((((((w.alloc (.cells #[.slice none 0 0] 82)).alloc (.cells #[.int .i64 0] 83)).alloc (.cells #[.slice none 0 0] 82)).alloc (.cells #[.string ⟨s.toArray⟩] 9)).alloc (.cells #[.string ⟨#[32]⟩] 9)).alloc (.cells #[.int .i64 0] 3)).heap.size = w.heap.size + 6 := by simp
  generalize ((((((w.alloc (.cells #[.slice none 0 0] 82)).alloc (.cells #[.int .i64 0] 83)).alloc (.cells #[.slice none 0 0] 82)).alloc (.cells #[.string ⟨s.toArray⟩] 9)).alloc (.cells #[.string ⟨#[32]⟩] 9)).alloc (.cells #[.int .i64 0] 3)) = W0 at *
  refine range_feeds (b := w.heap.size + 3) (Kp := Kept (w.heap.size + 4) (w.heap.size + 3) (w.heap.size + 5)) (xs := pieces s) (encs := fun x : List UInt8 => #[.string ⟨x.toArray⟩]) rfl (by decide) (gf := 80) (lb := #[.pointer (some ⟨w.heap.size + 4, 0, none⟩), .pointer (some ⟨w.heap.size + 3, 0, none⟩), .pointer (some ⟨w.heap.size + 5, 0, none⟩)]) rfl trivial (enters_of Tryz.func80 (by kernel_rfl) rfl) (by omega)
    (fun W hW => split_feeds 2 (by decide) _ _ _ s W (by omega) (by omega) ((hW.cell (p := ⟨w.heap.size + 4, 0, none⟩) (by show w.heap.size + 4 < _; omega)).trans bP.cell) ((hW.block _ (by omega)).trans bS) ((hW.cell (p := ⟨w.heap.size + 5, 0, none⟩) (by show w.heap.size + 5 < _; omega)).trans bV.cell) (by omega))
    (fun h k => ⟨k.1.trans h.1, k.2.1.trans h.2.1, k.2.2.trans h.2.2⟩) (fun W l o hl => ⟨World.putObj_heap_other (by omega), World.putObj_heap_other (by omega), World.putObj_heap_other (by omega)⟩) (fun _ => rfl)
    (fun pre W => (∃ v, Boxed W (w.heap.size + 2) 82 v ∧ W.ownsRow w.heap.size 54 3 v pre.length (cellsOf' (valsOf rw' pre)) ∧ (∀ k, v.ownBlock = some k → w.heap.size + 6 ≤ k)) ∧ (Boxed W w.heap.size 82 (.slice none 0 0) ∧ Boxed W (w.heap.size + 1) 83 (.int .i64 0) ∧ w.heap.size + 6 ≤ W.heap.size ∧ ∀ x ∈ pre, (rw' x).isSome = true) ∧ Below w.heap.size w W)
    (fun _ W => (Boxed W w.heap.size 82 (.slice none 0 0) ∧ Boxed W (w.heap.size + 1) 83 (.int .i64 21) ∧ ∃ x ∈ pieces s, (rw' x).isSome = false) ∧ Below w.heap.size w W) ?hI ?hR ?hIb ?hRb ?h0
    (fun x => { tmps := #[.string ⟨s.toArray⟩, undef, .pointer (some ⟨w.heap.size, 0, none⟩), .pointer (some ⟨w.heap.size + 1, 0, none⟩), .pointer (some ⟨w.heap.size + 2, 0, none⟩), .string ⟨x.toArray⟩, undef, undef, .string ⟨s.toArray⟩, .bool false, .string ⟨s.toArray⟩, .func (.func 80) #[] #[.pointer (some ⟨w.heap.size + 4, 0, none⟩), .pointer (some ⟨w.heap.size + 3, 0, none⟩), .pointer (some ⟨w.heap.size + 5, 0, none⟩)], .string ⟨x.toArray⟩, undef, undef, undef, undef, undef, undef, undef, undef, undef, undef, undef, undef], defers := [] }) ?assign ?body ?done ?ret
  case assign =>
    intro l x W K hK
    gi_wp2
    exact hK
  case hI =>
    refine OwnFrom.and (Own.from (holdsRow_own w.heap.size (w.heap.size + 2) _ _ 3 (fun pre => pre.length) (fun pre => cellsOf' (valsOf rw' pre)) (fun _ v => ∀ k, v.ownBlock = some k → w.heap.size + 6 ≤ k)) _) (OwnFrom.and ?_ (ownFrom_below (Nat.le_refl _) (by omega)))
    rintro pre X Y row ⟨h1, h2, h3, h4⟩ hg hrow
    exact ⟨h1.kept hg (fun e => by have := (hrow _ e.symm).1; omega), h2.kept hg (fun e => by have := (hrow _ e.symm).1; omega), Nat.le_trans h3 hg.size, h4⟩
  case hR =>
    refine OwnFrom.and ?_ (ownFrom_below (Nat.le_refl _) (by omega))
    rintro pre X Y row ⟨h1, h2, h3⟩ hg hrow
    exact ⟨h1.kept hg (fun e => by have := (hrow _ e.symm).1; omega), h2.kept hg (fun e => by have := (hrow _ e.symm).1; omega), h3⟩
  case hIb =>
    rintro pre W v ⟨⟨u, hv, hr, hG⟩, ⟨h1, h2, h3, h4⟩, h5⟩
    exact ⟨⟨u, hv.kept (grownBy_setCell' _ _ _) (by simp), hr.kept (grownBy_setCell' _ _ _) (.inr fun e => by have := hG _ e; omega), hG⟩, ⟨h1.kept (grownBy_setCell' _ _ _) (by simp), h2.kept (grownBy_setCell' _ _ _) (by simp), Nat.le_trans h3 (grownBy_setCell' _ _ _).size, h4⟩, blind_below (β := Unit) (by omega) () _ _ h5⟩
  case hRb =>
    rintro pre W v ⟨⟨h1, h2, h4⟩, h3⟩
    exact ⟨⟨h1.kept (grownBy_setCell' _ _ _) (by simp), h2.kept (grownBy_setCell' _ _ _) (by simp), h4⟩, blind_below (β := Unit) (by omega) () _ _ h3⟩
  case h0 => exact ⟨⟨_, bL, World.ownsRow_nil _ _ _ _, by simp [Value.ownBlock]⟩, ⟨bR, bE, by omega, by simp⟩, hB0⟩
  case body =>
    rintro l pre x W ⟨⟨v, hv, hrow, hG⟩, ⟨h1, h2, h3, h4⟩, hB⟩ hx
    have hxm : x ∈ pieces s := hx.subset (by simp)
    have hpl : pre.length + 1 ≤ 1048577 := by
      have := hx.length_le
      have := pieces_length _ s (Nat.le_refl _)
      simp only [List.length_append, List.length_cons, List.length_nil] at *
      omega
    have hc := hrw x hxm W hB
    generalize hX : (rw' x).getD ⟨0, 0, []⟩ = X at hc
    generalize hO : (rw' x).isSome = ok at hc
    obtain ⟨xt, xn, xb⟩ := X
    simp only [Val.v] at hc
    cases ok with
    | false =>
      gi_wp2_with (refine ⟨trivial, ?_⟩; gi_at_call 74; refine (CallsIn.inRound l (callsIn_wide.2 hc)).mono ?_; rintro e w1 ⟨rfl, hb1⟩; have f1 := (box_below h1 hb1).alloc (.cells #[.int .i64 xt, .int .i64 xn, .string ⟨xb.toArray⟩] 54); have f2 := ((box_below h2 hb1).alloc (.cells #[.int .i64 xt, .int .i64 xn, .string ⟨xb.toArray⟩] 54)).kept (grownBy_setCell' _ w.heap.size (.slice none 0 0)) (by simp); have c1 := f1.cell; have d1 := f1.frozen; have c2 := f2.cell; have d2 := f2.frozen)
      refine ⟨((keeps_below hb1).trans ((KeepsOthers.alloc _ _).trans ((KeepsOthers.setCell _ _ _).trans (KeepsOthers.setCell _ _ _)))).from _, ⟨?_, f2.set _, x, hxm, hO⟩, ?_⟩
      · exact (f1.set _).kept (grownBy_setCell' _ _ _) (by simp)
      · exact (((hB.trans (hb1.mono hB.size)).alloc (Nat.le_trans hB.size hb1.size) _).setCell (p := ⟨w.heap.size, 0, none⟩) (Nat.le_refl _) _).setCell (p := ⟨w.heap.size + 1, 0, none⟩) (by show w.heap.size ≤ w.heap.size + 1; omega) _
    | true =>
      gi_wp2_with (first | (gi_at_builtin; refine wpListIn_append_own_at _ rfl _ _ _ rfl w.heap.size 54 i0 _ 3 32 Tryz.underlying82 hi hz0 hz1 hz2 rfl (by decide) v _ _ rfl (((row_below hrow hb1).alloc _).alloc _) ⟨w1.heap.size + 1, 0, none⟩ 1 1 [.int .i64 xt, .int .i64 xn, .string ⟨xb.toArray⟩] rfl rfl hnew (by simp [Value.oneCell']) (by simp only [maxLen]; omega) (by omega) (by have := hB.size; have := hb1.size; simp; omega) ?_; intro v' w3 hown' hgrow _ hat; obtain ⟨g', cap', rfl⟩ := ownsRow_succ hown'; obtain ⟨hv1, hv2, hr2, hk2, hb2⟩ := f3.appended (by decide) ((row_below hrow hb1).alloc _) hsz1 (by omega) hown' hgrow; have hc1 := hv1.cell; have hf1 := hv1.frozen) | (refine ⟨trivial, ?_⟩; gi_at_call 74; refine (CallsIn.inRound l (callsIn_wide.2 hc)).mono ?_; rintro e w1 ⟨rfl, hb1⟩; have f3 := (box_below hv hb1).alloc (.cells #[.int .i64 xt, .int .i64 xn, .string ⟨xb.toArray⟩] 54); have c3 := f3.cell; have d3 := f3.frozen; have hsz1 : w.heap.size ≤ (w1.alloc (.cells #[.int .i64 xt, .int .i64 xn, .string ⟨xb.toArray⟩] 54)).heap.size := (by have := hB.size; have := hb1.size; simp; omega); have hnew := cells_new (w1.alloc (.cells #[.int .i64 xt, .int .i64 xn, .string ⟨xb.toArray⟩] 54)) [.int .i64 xt, .int .i64 xn, .string ⟨xb.toArray⟩] 54; rw [World.size_alloc] at hnew))
      have hz3 := hb1.size
      refine ⟨((keeps_below hb1).trans ((KeepsOthers.alloc _ _).trans hk2)).from _, kept_of fun k k1 k2 => ?_, ⟨_, hv2, ?_, ?_⟩, ⟨?_, ?_, ?_, ?_⟩, ?_⟩
      · exact (Below.heap_setCell _ _ _ k (by show k ≠ w.heap.size + 2; omega)).trans ((hgrow.block k (by simp; omega) (fun e => by have := hG _ e.symm; omega)).trans ((Below.heap_alloc _ _ k (by simp; omega)).trans ((Below.heap_alloc _ _ k (by omega)).trans (hb1.block k (by omega)))))
      · rw [vals_snoc, cells_snoc, hX]
        simpa [Val.cs] using hr2
      · intro k e
        rcases hat with h | h
        · exact hG k (h.symm.trans e)
        · have := h.symm.trans e
          simp at this
          omega
      · exact ((((box_below h1 hb1).alloc _).alloc _).kept hgrow (fun e => by have := hG _ e.symm; omega)).kept (grownBy_setCell' _ _ _) (by simp)
      · exact ((((box_below h2 hb1).alloc _).alloc _).kept hgrow (fun e => by have := hG _ e.symm; omega)).kept (grownBy_setCell' _ _ _) (by simp)
      · have := hk2.size
        simp at this ⊢
        omega
      · intro y hy
        rcases List.mem_append.1 hy with hy | hy
        · exact h4 y hy
        · obtain rfl : y = x := by simpa using hy
          exact hO
      · exact ((hB.trans (hb1.mono hB.size)).alloc (Nat.le_trans hB.size hb1.size) _).trans hb2
  case done =>
    rintro D W hD ⟨⟨v, hv, hrow, hG⟩, ⟨h1, h2, h3, h4⟩, hB⟩ hK
    obtain ⟨p, k, c, rfl⟩ : ∃ p k c, v = .slice p k c := by
      rcases hrow.2 with ⟨rfl, _⟩ | ⟨g, cap, cur, rfl, _⟩
      · exact ⟨_, _, _, rfl⟩
      · exact ⟨_, _, _, rfl⟩
    have hc := hv.cell
    have c1 := h1.cell
    have d1 := h1.frozen
    have f2 := h2.kept (grownBy_setCell' _ w.heap.size (.slice p k c)) (by simp)
    have c2 := f2.cell
    have d2 := f2.frozen
    gi_wp2
    have hKs : D < W.heap.size := (Array.getElem?_eq_some_iff.1 hK).1
    have hK2 : ((W.setCell ⟨w.heap.size, 0, none⟩ (.slice p k c)).setCell ⟨w.heap.size + 1, 0, none⟩ (.int .i64 0)).heap[D]? = some (.deferred (some [])) :=
      (Below.heap_setCell _ _ _ D (by show D ≠ w.heap.size + 1; omega)).trans ((Below.heap_setCell _ _ _ D (by show D ≠ w.heap.size; omega)).trans hK)
    refine ⟨by simp, .inl ⟨_, _, rfl, run_takeDeferred hK2, ?_⟩⟩
    have g1 := box_putObj ((h1.set (.slice p k c)).kept (grownBy_setCell' _ (w.heap.size + 1) (.int .i64 0)) (by simp)) (by omega) (D := D) (.deferred none)
    have g2 := box_putObj (f2.set (.int .i64 0)) (by omega) (D := D) (.deferred none)
    refine ⟨_, results_cells rfl _ _ _ ⟨w.heap.size, 0, none⟩ ⟨w.heap.size + 1, 0, none⟩ _ _ rfl rfl (load_slice g1.cell) (load_errno g2.cell), ?_⟩
    refine ⟨below_putObj ((hB.setCell (p := ⟨w.heap.size, 0, none⟩) (Nat.le_refl _) _).setCell (p := ⟨w.heap.size + 1, 0, none⟩) (by show w.heap.size ≤ w.heap.size + 1; omega) _) (by omega) _ (Array.getElem?_eq_some_iff.1 hK2).1, .inl ⟨h4, _, rfl, ?_⟩⟩
    exact ownsRow_putObj ((hrow.kept (grownBy_setCell' _ _ _) (.inr fun e => by have := hG _ e; omega)).kept (grownBy_setCell' _ _ _) (.inr fun e => by have := hG _ e; omega)) _ hK2 rfl
  case ret =>
    rintro D pre W hD ⟨⟨h1, h2, x, hxm, hO⟩, hB⟩ hK
    gi_wp2
    refine ⟨by simp, .inl ⟨_, _, rfl, run_takeDeferred hK, ?_⟩⟩
    have g1 := box_putObj h1 (by omega) (D := D) (.deferred none)
    have g2 := box_putObj h2 (by omega) (D := D) (.deferred none)
    refine ⟨_, results_cells rfl _ _ _ ⟨w.heap.size, 0, none⟩ ⟨w.heap.size + 1, 0, none⟩ _ _ rfl rfl (load_slice g1.cell) (load_errno g2.cell), ?_⟩
    exact ⟨below_putObj hB (by omega) _ (Array.getElem?_eq_some_iff.1 hK).1, .inr ⟨⟨x, hxm, hO⟩, rfl⟩⟩
end Go.Proofs.YtbjipcpoiiegkaaGreatDoor
namespace Go.Proofs.YtbjipcpoiiegkaaGreatDoor
open Go.RowKit Go.Shelf
theorem heap_alloc_at (w : World) (o : Obj) (k : Nat) : (w.alloc o).heap[k]? = if k = w.heap.size then some o else w.heap[k]? := by
  by_cases h : k = w.heap.size
  · subst h
    rw [if_pos rfl]
    exact heap_alloc_new w o
  · rw [if_neg h]
    by_cases h2 : k < w.heap.size
    · exact Below.heap_alloc _ _ _ h2
    · rw [Array.getElem?_eq_none (by simp; omega), Array.getElem?_eq_none (by omega)]
theorem hRun_snoc : ∀ (xs : List (List UInt8)) (h : HS) (x : List UInt8), hRun h (xs ++ [x]) = (hRun h xs).bind fun g => hStep g x
  | [], h, x => by
    simp only [List.nil_append, hRun, Option.bind_some]
    cases hStep h x <;> rfl
  | y :: xs, h, x => by
    simp only [List.cons_append, hRun]
    cases hStep h y with
    | none => rfl
    | some g => exact hRun_snoc xs g x
theorem hRun_none {xs ys : List (List UInt8)} {h : HS} (hn : hRun h xs = none) (hp : xs <+: ys) : hRun h ys = none := by
  obtain ⟨zs, rfl⟩ := hp
  induction xs generalizing h with
  | nil => cases hn
  | cons x xs ih =>
    simp only [List.cons_append, hRun] at hn ⊢
    cases hs : hStep h x with
    | none => rfl
    | some g =>
      rw [hs] at hn
      exact ih hn
def HS.at (h : HS) : Nat → List Int
  | 0 => h.p
  | 1 => h.r
  | _ => h.l
theorem push_at {h : HS} {j : Nat} (hj : j < 3) (hm : h.m = j + 1) (k : Int) (i : Nat) (hi : i < 3) : (h.push k).at i = if i = j then h.at j ++ [k] else h.at i := by
  unfold HS.push
  have h1 : j = 0 ∨ j = 1 ∨ j = 2 := by omega
  have h2 : i = 0 ∨ i = 1 ∨ i = 2 := by omega
  rcases h1 with rfl | rfl | rfl <;> rcases h2 with rfl | rfl | rfl <;> simp [hm, HS.at]
/-- What the numbers come to. -/
structure HS.Good (h : HS) : Prop where
  m : h.m ≤ 3
  n : h.n ≤ 64
  len : ∀ i, i < 3 → (h.at i).length ≤ h.n
theorem good_step {h g : HS} {x : List UInt8} (hg : h.Good) (e : hStep h x = some g) : g.Good := by
  unfold hStep at e
  split at e
  · cases e
    exact ⟨by simp only; omega, hg.n, fun i hi => by have := hg.len i hi; exact this⟩
  · split at e
    · cases e
    · rename_i h1 h2
      cases e
      have pm := push_m h (kindOf x)
      have hm := hg.m
      have hn := hg.n
      refine ⟨by omega, by omega, fun i hi => ?_⟩
      rw [pm.2, push_at (j := h.m - 1) (by omega) (by omega) _ _ hi]
      split
      · have := hg.len (h.m - 1) (by omega)
        simp only [List.length_append, List.length_cons, List.length_nil]
        omega
      · have := hg.len i hi
        omega
theorem good_run : ∀ {xs : List (List UInt8)} {h g : HS}, h.Good → hRun h xs = some g → g.Good
  | [], h, g, hg, e => by cases e; exact hg
  | x :: xs, h, g, hg, e => by
    simp only [hRun] at e
    cases hs : hStep h x with
    | none => rw [hs] at e; cases e
    | some k =>
      rw [hs] at e
      exact good_run (good_step hg hs) e
theorem good_beg : hBeg.Good := ⟨by decide, by decide, fun i _ => by
  match i with
  | 0 => exact Nat.le_refl _
  | 1 => exact Nat.le_refl _
  | _ + 2 => exact Nat.le_refl _⟩
/-- The three rows, each in a block of its own. -/
structure HRows (B : Nat) (h : HS) (vs : Nat → Value) (W : World) : Prop where
  row : ∀ i, i < 3 → W.ownsRow (B + 8) 3 1 (vs i) (h.at i).length (cellsN (h.at i))
  far : ∀ i j, i < 3 → j < 3 → i ≠ j → (vs i).ownBlock = (vs j).ownBlock → (vs i).ownBlock = none
structure HeadSt (B : Nat) (h : HS) (W : World) : Prop where
  f : W.heap[B]? = some (.cells #[.slice none 0 0, .slice none 0 0, .slice none 0 0, .slice none 0 0] 32 (0, 0))
  b : W.heap[B + 1]? = some (.cells #[.bool false] 4 (0, 0))
  ls : ∃ vs, W.heap[B + 2]? = some (.cells #[vs 0, vs 1, vs 2] 62 (0, 0)) ∧ HRows B h vs W
  m : W.heap[B + 3]? = some (.cells #[.int .i64 h.m] 3 (0, 0))
  n : W.heap[B + 4]? = some (.cells #[.int .i64 h.n] 3 (0, 0))
  sz : B + 8 ≤ W.heap.size
theorem row_keepc {W W' : World} {base k size : Nat} {e : TypeId} {v : Value} {xs : List Value} (h : W.ownsRow base e size v k xs) (hk : ∀ g o, base ≤ g → W.heap[g]? = some o → o.isCells = true → some g = v.ownBlock → W'.heap[g]? = some o) : W'.ownsRow base e size v k xs := by
  refine ⟨h.1, ?_⟩
  rcases h.2 with h2 | ⟨g, cap, cur, rfl, hg, hh, r⟩
  · exact .inl h2
  · exact .inr ⟨g, cap, cur, rfl, hg, hk g _ hg hh rfl rfl, r⟩
theorem HeadSt.keep {B : Nat} {h : HS} {W W' : World} (hs : HeadSt B h W) (hk : ∀ (k : Nat) (o : Obj), k ≠ B + 5 → W.heap[k]? = some o → o.isCells = true → W'.heap[k]? = some o) (hz : W.heap.size ≤ W'.heap.size) : HeadSt B h W' := by
  obtain ⟨f, b, ⟨vs, hl, hr⟩, m, n, sz⟩ := hs
  exact ⟨hk _ _ (by omega) f rfl, hk _ _ (by omega) b rfl, ⟨vs, hk _ _ (by omega) hl rfl, ⟨fun i hi => row_keepc (hr.row i hi) fun g o hg ho hc _ => hk g o (by omega) ho hc, hr.far⟩⟩, hk _ _ (by omega) m rfl, hk _ _ (by omega) n rfl, by omega⟩
theorem HeadSt.below {B : Nat} {h : HS} {W W' : World} (hs : HeadSt B h W) (hb : Below W.heap.size W W') : HeadSt B h W' :=
  hs.keep (fun k _o _ ho _ => (hb.block k (Array.getElem?_eq_some_iff.1 ho).1).trans ho) hb.size
theorem own_headSt (B : Nat) (J : List (List UInt8) → HS → Prop) : OwnFrom (β := List (List UInt8)) (B + 8) (fun pre W => ∃ h, J pre h ∧ HeadSt B h W) := by
  rintro pre X Y row ⟨h, hj, hs⟩ hg hr
  refine ⟨h, hj, hs.keep (fun k o _ ho hc => ?_) hg.size⟩
  refine (hg.block k (Array.getElem?_eq_some_iff.1 ho).1 fun e => ?_).trans ho
  obtain ⟨_, o', ho', hc'⟩ := hr k e.symm
  rw [ho] at ho'
  cases ho'
  rw [hc] at hc'
  cases hc'
theorem set_one' {w : World} {b : Nat} {x u : Value} {t : TypeId} (h : w.heap[b]? = some (.cells #[x] t (0, 0))) : (w.setCell ⟨b, 0, none⟩ u).heap[b]? = some (.cells #[u] t (0, 0)) := set_one h
/-- One mark more was passed. -/
theorem HeadSt.mark {B : Nat} {h : HS} {W : World} (hs : HeadSt B h W) : HeadSt B { h with m := h.m + 1 } (W.setCell ⟨B + 3, 0, none⟩ (.int .i64 ((h.m + 1 : Nat) : Int))) := by
  have o : ∀ k, k ≠ B + 3 → (W.setCell ⟨B + 3, 0, none⟩ (.int .i64 ((h.m + 1 : Nat) : Int))).heap[k]? = W.heap[k]? := fun k hk => Below.heap_setCell _ _ _ k hk
  obtain ⟨f, b, ⟨vs, hl, hr⟩, m, n, sz⟩ := hs
  refine ⟨(o _ (by omega)).trans f, (o _ (by omega)).trans b, ⟨vs, (o _ (by omega)).trans hl, ⟨fun i hi => row_keepc (hr.row i hi) fun g o' hg ho hc _ => (o g (by omega)).trans ho, hr.far⟩⟩, set_one m, (o _ (by omega)).trans n, ?_⟩
  have := (grownBy_setCell' W (B + 3) (.int .i64 ((h.m + 1 : Nat) : Int))).size
  omega
/-- One type more. -/
theorem HeadSt.more {B : Nat} {h : HS} {W W2 : World} {j : Nat} {k : Int} {vs : Nat → Value} {v' : Value} (hs : HeadSt B h W) (hl : W.heap[B + 2]? = some (.cells #[vs 0, vs 1, vs 2] 62 (0, 0))) (hr : HRows B h vs W) (hj : j < 3) (hm : h.m = j + 1)
    (hrow : W2.ownsRow (B + 8) 3 1 v' ((h.at j).length + 1) (cellsN (h.at j) ++ [.int .i64 k])) (hst : Step (W.drew.alloc (.cells #[.int .i64 k] 3)) (vs j) W2 v') :
    HeadSt B (h.push k) (((W2.setCell ⟨B + 2, j, none⟩ v').setCell ⟨B + 4, 0, none⟩ (.int .i64 ((h.n + 1 : Nat) : Int)))) := by
  have pm := push_m h k
  have hjb : ∀ g, (vs j).ownBlock = some g → B + 8 ≤ g := fun g e => ((hr.row j hj).lt g e).1
  have blk : ∀ g, g < W.heap.size → some g ≠ (vs j).ownBlock → W2.heap[g]? = W.heap[g]? := fun g hg hne =>
    (hst.1.block g (by simp; omega) hne).trans ((Below.heap_alloc _ _ g (by simpa using hg)).trans rfl)
  have szW := hs.sz
  have low : ∀ g, g < B + 8 → W2.heap[g]? = W.heap[g]? := fun g hg => blk g (by omega) fun e => by have := hjb g e.symm; omega
  have o : ∀ g, g ≠ B + 2 → g ≠ B + 4 → ((W2.setCell ⟨B + 2, j, none⟩ v').setCell ⟨B + 4, 0, none⟩ (.int .i64 ((h.n + 1 : Nat) : Int))).heap[g]? = W2.heap[g]? := fun g h1 h2 => (Below.heap_setCell _ _ _ g h2).trans (Below.heap_setCell _ _ _ g h1)
  have szs : W2.heap.size ≤ ((W2.setCell ⟨B + 2, j, none⟩ v').setCell ⟨B + 4, 0, none⟩ (.int .i64 ((h.n + 1 : Nat) : Int))).heap.size := by simp [World.setCell]
  have sz2 : W.heap.size + 1 ≤ W2.heap.size := by have := hst.1.size; simpa using this
  have hl2 : W2.heap[B + 2]? = some (.cells #[vs 0, vs 1, vs 2] 62 (0, 0)) := (low _ (by omega)).trans hl
  have hn2 : W2.heap[B + 4]? = some (.cells #[.int .i64 h.n] 3 (0, 0)) := (low _ (by omega)).trans hs.n
  have hv'B : ∀ g, v'.ownBlock = some g → B + 8 ≤ g := fun g e => (hrow.lt g e).1
  refine ⟨(o _ (by omega) (by omega)).trans ((low _ (by omega)).trans hs.f), (o _ (by omega) (by omega)).trans ((low _ (by omega)).trans hs.b), ⟨fun i => if i = j then v' else vs i, ?_, ⟨fun i hi => ?_, fun a b ha hb hab he => ?_⟩⟩, ?_, ?_, by omega⟩
  · refine (Below.heap_setCell _ _ _ _ (by show B + 2 ≠ B + 4; omega)).trans ?_
    have : j = 0 ∨ j = 1 ∨ j = 2 := by omega
    rcases this with rfl | rfl | rfl <;> simp [World.setCell, Array.getElem?_modify, hl2]
  · rw [push_at hj hm k i hi]
    by_cases hij : i = j
    · subst hij
      rw [if_pos rfl, if_pos rfl]
      have : cellsN (h.at i ++ [k]) = cellsN (h.at i) ++ [.int .i64 k] := by simp [cellsN]
      rw [this, List.length_append]
      exact row_keepc hrow fun g o' hg ho hc _ => (o g (by omega) (by omega)).trans ho
    · rw [if_neg hij, if_neg hij]
      refine row_keepc (hr.row i hi) fun g o' hg ho hc he => (o g (by omega) (by omega)).trans ((blk g (Array.getElem?_eq_some_iff.1 ho).1 fun e => ?_).trans ho)
      have := hr.far i j hi hj hij (he.symm.trans e)
      rw [this] at he
      cases he
  · have key : ∀ i, i < 3 → i ≠ j → v'.ownBlock = (vs i).ownBlock → v'.ownBlock = none := fun i hi hij e => by
      rcases hst.2 with h2 | ⟨g, h2, hg⟩
      · rw [h2] at e ⊢
        exact hr.far j i hj hi (fun q => hij q.symm) e
      · rw [h2] at e
        have := ((hr.row i hi).lt g e.symm).2
        simp at hg
        omega
    by_cases haj : a = j
    · rw [if_pos haj] at he ⊢
      rw [if_neg (fun q => hab (haj.trans q.symm))] at he
      exact key b hb (fun q => hab (haj.trans q.symm)) he
    · rw [if_neg haj] at he ⊢
      by_cases hbj : b = j
      · rw [if_pos hbj] at he
        rw [he]
        exact key a ha haj he.symm
      · rw [if_neg hbj] at he
        exact hr.far a b ha hb hab he
  · rw [pm.1]
    exact (o _ (by omega) (by omega)).trans ((low _ (by omega)).trans hs.m)
  · rw [pm.2]
    refine set_one ((Below.heap_setCell _ _ _ _ (by show B + 4 ≠ B + 2; omega)).trans hn2)
end Go.Proofs.YtbjipcpoiiegkaaGreatDoor
