/- What value's Parse comes to, readWord given. -/
import Derived.Test.YtkmfopdklohgnaaDoorVSplit
import Derived.Test.YtkmfopdklohgnaaDoorVA
import Derived.RangeFuncBox
import Derived.Maps.AppendAt
import Derived.Maps.OwnIn
namespace Go.Proofs.YtkmfopdklohgnaaDoor
open Go.RowKit Go.Shelf
attribute [local go_sem] Oper.semAt_some

theorem splitSeq_any (s : List UInt8) (w : World) : Calls Tryd.prog 24 #[.string ⟨s.toArray⟩, .string ⟨#[32]⟩, .int .i64 0] w fun e w' =>
    e = .returned (.func (.func 37) #[] #[.pointer (some ⟨w.heap.size + 1, 0, none⟩), .pointer (some ⟨w.heap.size, 0, none⟩), .pointer (some ⟨w.heap.size + 2, 0, none⟩)]) ∧
    w' = ((w.alloc (.cells #[.string ⟨s.toArray⟩] 9)).alloc (.cells #[.string ⟨#[32]⟩] 9)).alloc (.cells #[.int .i64 0] 3) := by
  go_enter Tryd.func24, Tryd.ntmps24
  go_wp2
  go_ret
  exact ⟨rfl, rfl⟩
theorem splitSeqTop_any (s : List UInt8) (w : World) : Calls Tryd.prog 12 #[.string ⟨s.toArray⟩, .string ⟨#[32]⟩] w fun e w' =>
    e = .returned (.func (.func 37) #[] #[.pointer (some ⟨w.heap.size + 1, 0, none⟩), .pointer (some ⟨w.heap.size, 0, none⟩), .pointer (some ⟨w.heap.size + 2, 0, none⟩)]) ∧
    w' = ((w.alloc (.cells #[.string ⟨s.toArray⟩] 9)).alloc (.cells #[.string ⟨#[32]⟩] 9)).alloc (.cells #[.int .i64 0] 3) := by
  go_enter Tryd.func12, Tryd.ntmps12
  go_wp2_with (go_at_call 24; refine (splitSeq_any s _).mono ?_; rintro e w' ⟨rfl, rfl⟩)
  go_ret
  exact ⟨rfl, rfl⟩

theorem results_cells {fn : Func} {t u : Tmp} {ty uy : TypeId} (h : fn.results = #[.cell t ty, .cell u uy]) (tmps : Array Value) (P : Program) (w : World) (a b : Addr) (v x : Value) (ha : tmps[t]?.getD undef = .pointer (some a)) (hb : tmps[u]?.getD undef = .pointer (some b)) (hl : (loadVar ty a).run P w = .ok v w) (hm : (loadVar uy b).run P w = .ok x w) :
    (results fn tmps).run P w = .ok (.tuple #[v, x]) w := by
  simp [results, h, ha, hb, asAddr, hl, hm]
def Val.cs (x : Val) : List Value := [.int .i64 x.t, .int .i64 x.n, .string ⟨x.b.toArray⟩]
/-- The values of words. -/
def valsOf (f : List UInt8 → Option Val) (l : List (List UInt8)) : List Val := l.map fun x => (f x).getD ⟨0, 0, []⟩
def cellsOf' (l : List Val) : List Value := l.flatMap Val.cs
theorem blind_below {β : Type} {n b : Nat} {w : World} (h : n ≤ b) : Blind (β := β) b (fun _ W => Below n w W) := fun _ _ _ hW => hW.setCell (p := ⟨b, 0, none⟩) h _

theorem row_below {w w' : World} {base k size : Nat} {e : TypeId} {v : Value} {xs : List Value} (h : w.ownsRow base e size v k xs) (hb : Below w.heap.size w w') : w'.ownsRow base e size v k xs := by
  refine ⟨h.1, ?_⟩
  rcases h.2 with h2 | ⟨g, cap, cur, rfl, hg, hh, r⟩
  · exact .inl h2
  · exact .inr ⟨g, cap, cur, rfl, hg, by rw [hb.block g (Array.getElem?_eq_some_iff.1 hh).1]; exact hh, r⟩
theorem box_below {w w' : World} {b : Nat} {t : TypeId} {v : Value} (h : Boxed w b t v) (hb : Below w.heap.size w w') : Boxed w' b t v := (hb.block _ h.lt).trans h
theorem cells_snoc (l : List Val) (x : Val) : cellsOf' (l ++ [x]) = cellsOf' l ++ x.cs := by simp [cellsOf']
theorem vals_snoc (f : List UInt8 → Option Val) (l : List (List UInt8)) (x : List UInt8) : valsOf f (l ++ [x]) = valsOf f l ++ [(f x).getD ⟨0, 0, []⟩] := by simp [valsOf]

theorem pieces_length : ∀ (n : Nat) (s : List UInt8), s.length ≤ n → (pieces s).length ≤ s.length + 1 := by
  intro n
  induction n with
  | zero =>
    intro s h
    rw [pieces, dif_neg (by omega)]
    simp
  | succ n ih =>
    intro s h
    rw [pieces]
    split
    · have := ih (s.drop ((Lib.indexByte s 32).toNat + 1)) (by rw [List.length_drop]; omega)
      rw [List.length_drop] at this
      simp only [List.length_cons]
      omega
    · simp
theorem cells_new (w : World) (xs : List Value) (t : TypeId) : ∀ j u, xs[j]? = some u → (w.alloc (.cells xs.toArray t)).cell? ((⟨w.heap.size, 0, none⟩ : Addr).add j) = some u := by
  intro j u h
  have e := World.alloc_heap_new w (.cells xs.toArray t)
  cases j with
  | zero =>
    simp only [World.cell?, Addr.add, if_pos, e]
    simpa using h
  | succ j =>
    simp only [World.cell?, Addr.add, if_neg (Nat.succ_ne_zero j), e]
    simpa using h
theorem keeps_below {W W' : World} (h : Below W.heap.size W W') : KeepsOthers W W' := ⟨h.size, fun k _o hk _ => (h.block k (Array.getElem?_eq_some_iff.1 hk).1).trans hk⟩
theorem kept_of {n : Nat} {W W' : World} (h : ∀ k, n + 3 ≤ k → k ≤ n + 5 → W'.heap[k]? = W.heap[k]?) : Kept (n + 4) (n + 3) (n + 5) W W' := ⟨h _ (by omega) (by omega), h _ (by omega) (by omega), h _ (by omega) (by omega)⟩

theorem load_slice {w : World} {b : Nat} {v : Value} (h : w.cell? ⟨b, 0, none⟩ = some v) : (loadVar 22 ⟨b, 0, none⟩).run Tryd.prog w = .ok v w := by
  simp [loadVar, go_sem, h]
theorem load_errno {w : World} {b : Nat} {v : Value} (h : w.cell? ⟨b, 0, none⟩ = some v) : (loadVar 24 ⟨b, 0, none⟩).run Tryd.prog w = .ok v w := by
  simp [loadVar, go_sem, h]
theorem box_putObj {W : World} {b D : Nat} {t : TypeId} {v : Value} (h : Boxed W b t v) (hne : b ≠ D) (o : Obj) : Boxed (W.putObj D o) b t v := by
  exact (World.putObj_heap_other (w := W) (o := o) hne).trans h
theorem below_putObj {n D : Nat} {w W : World} (h : Below n w W) (hn : n ≤ D) (o : Obj) (hK : D < W.heap.size) : Below n w (W.putObj D o) := h.grown (grownBy_putObj' W D o) (by have := h.size; omega) fun j ej => by cases ej; exact hn
/-- How Parse ends: with the values of all words, or with none. -/
def ParseEnd (s : List UInt8) (rw' : List UInt8 → Option Val) (w : World) (e : Ending) (w' : World) : Prop :=
  Below w.heap.size w w' ∧
    (((∀ x ∈ pieces s, (rw' x).isSome = true) ∧ ∃ v, e = .returned (.tuple #[v, .int .i64 0]) ∧ w'.ownsRow w.heap.size 39 3 v (pieces s).length (cellsOf' (valsOf rw' (pieces s)))) ∨
     ((∃ x ∈ pieces s, (rw' x).isSome = false) ∧ e = .returned (.tuple #[.slice none 0 0, .int .i64 21])))

set_option maxRecDepth 100000 in
set_option maxHeartbeats 4000000 in
theorem parse_any (s : List UInt8) (w : World) (hs0 : s ≠ []) (hs : s.length ≤ 1048576) (rw' : List UInt8 → Option Val)
    (hrw : ∀ x ∈ pieces s, ∀ W, Below w.heap.size w W → Calls Tryd.prog 13 #[.string ⟨x.toArray⟩] W fun e W' => e = .returned (.tuple #[Val.v ((rw' x).getD ⟨0, 0, []⟩), .bool (rw' x).isSome]) ∧ Below W.heap.size W W') :
    Calls Tryd.prog 5 #[.string ⟨s.toArray⟩] w (ParseEnd s rw' w) := by
  have hs1 : s.isEmpty = false := by
    cases s with
    | nil => exact absurd rfl hs0
    | cons a r => rfl
  obtain ⟨i0, hi, hz0, hz1, hz2⟩ := info_parts (show (Tryd.prog.info? 39).map (fun i => (i.zero, i.size, i.bytes)) = some (some (.agg #[.int .i64 0, .int .i64 0, .string ⟨#[]⟩]), 3, 32) by kernel_rfl)
  refine (callsIn_wide (n := 3)).1 ?_
  refine callsIn_of_wp_marks Tryd.func5 rfl trivial ?_ rfl
  simp only [Tryd.ntmps5, List.size_toArray, List.length_cons, List.length_nil, Nat.reduceAdd, Nat.reduceSub, Array.replicate_succ, Array.replicate_zero, List.push_toArray, List.append_toArray, List.nil_append, List.cons_append]
  gi_wp2_with (refine ⟨trivial, ?_⟩; gi_at_call 12; refine (callsIn_wide.2 (splitSeqTop_any s _)).mono ?_; rintro e w' ⟨rfl, rfl⟩)
  obtain ⟨z, hz⟩ : ∃ z, z = w.heap.size := ⟨_, rfl⟩
  have bR := Boxed.new w 22 (.slice none 0 0)
  have bE := Boxed.new (w.alloc (.cells #[.slice none 0 0] 22)) 24 (.int .i64 0)
  have bL := Boxed.new ((w.alloc (.cells #[.slice none 0 0] 22)).alloc (.cells #[.int .i64 0] 24)) 22 (.slice none 0 0)
  have bS := Boxed.new (((w.alloc (.cells #[.slice none 0 0] 22)).alloc (.cells #[.int .i64 0] 24)).alloc (.cells #[.slice none 0 0] 22)) 9 (.string ⟨s.toArray⟩)
  have bP := Boxed.new ((((w.alloc (.cells #[.slice none 0 0] 22)).alloc (.cells #[.int .i64 0] 24)).alloc (.cells #[.slice none 0 0] 22)).alloc (.cells #[.string ⟨s.toArray⟩] 9)) 9 (.string ⟨#[32]⟩)
  have bV := Boxed.new (((((w.alloc (.cells #[.slice none 0 0] 22)).alloc (.cells #[.int .i64 0] 24)).alloc (.cells #[.slice none 0 0] 22)).alloc (.cells #[.string ⟨s.toArray⟩] 9)).alloc (.cells #[.string ⟨#[32]⟩] 9)) 3 (.int .i64 0)
  simp only [World.size_alloc] at bR bE bL bS bP bV
  have hB0 : Below w.heap.size w ((((((w.alloc (.cells #[.slice none 0 0] 22)).alloc (.cells #[.int .i64 0] 24)).alloc (.cells #[.slice none 0 0] 22)).alloc (.cells #[.string ⟨s.toArray⟩] 9)).alloc (.cells #[.string ⟨#[32]⟩] 9)).alloc (.cells #[.int .i64 0] 3)) :=
    ((((((Below.refl _ w).alloc (Nat.le_refl _) _).alloc (by simp) _).alloc (by simp; omega) _).alloc (by simp; omega) _).alloc (by simp; omega) _).alloc (by simp; omega) _
  replace bR := ((((bR.alloc (.cells #[.int .i64 0] 24)).alloc (.cells #[.slice none 0 0] 22)).alloc (.cells #[.string ⟨s.toArray⟩] 9)).alloc (.cells #[.string ⟨#[32]⟩] 9)).alloc (.cells #[.int .i64 0] 3)
  replace bE := (((bE.alloc (.cells #[.slice none 0 0] 22)).alloc (.cells #[.string ⟨s.toArray⟩] 9)).alloc (.cells #[.string ⟨#[32]⟩] 9)).alloc (.cells #[.int .i64 0] 3)
  replace bL := ((bL.alloc (.cells #[.string ⟨s.toArray⟩] 9)).alloc (.cells #[.string ⟨#[32]⟩] 9)).alloc (.cells #[.int .i64 0] 3)
  replace bS := (bS.alloc (.cells #[.string ⟨#[32]⟩] 9)).alloc (.cells #[.int .i64 0] 3)
  replace bP := bP.alloc (.cells #[.int .i64 0] 3)
  have hsz : ((((((w.alloc (.cells #[.slice none 0 0] 22)).alloc (.cells #[.int .i64 0] 24)).alloc (.cells #[.slice none 0 0] 22)).alloc (.cells #[.string ⟨s.toArray⟩] 9)).alloc (.cells #[.string ⟨#[32]⟩] 9)).alloc (.cells #[.int .i64 0] 3)).heap.size = w.heap.size + 6 := by simp
  generalize ((((((w.alloc (.cells #[.slice none 0 0] 22)).alloc (.cells #[.int .i64 0] 24)).alloc (.cells #[.slice none 0 0] 22)).alloc (.cells #[.string ⟨s.toArray⟩] 9)).alloc (.cells #[.string ⟨#[32]⟩] 9)).alloc (.cells #[.int .i64 0] 3)) = W0 at *
  refine range_feeds (b := w.heap.size + 3) (Kp := Kept (w.heap.size + 4) (w.heap.size + 3) (w.heap.size + 5)) (xs := pieces s) (encs := fun x : List UInt8 => #[.string ⟨x.toArray⟩]) rfl (by decide) (gf := 37) (lb := #[.pointer (some ⟨w.heap.size + 4, 0, none⟩), .pointer (some ⟨w.heap.size + 3, 0, none⟩), .pointer (some ⟨w.heap.size + 5, 0, none⟩)]) rfl trivial (enters_of Tryd.func37 (by kernel_rfl) rfl) (by omega)
    (fun W hW => split_feeds 2 (by decide) _ _ _ s W (by omega) (by omega) ((hW.cell (p := ⟨w.heap.size + 4, 0, none⟩) (by show w.heap.size + 4 < _; omega)).trans bP.cell) ((hW.block _ (by omega)).trans bS) ((hW.cell (p := ⟨w.heap.size + 5, 0, none⟩) (by show w.heap.size + 5 < _; omega)).trans bV.cell) (by omega))
    (fun h k => ⟨k.1.trans h.1, k.2.1.trans h.2.1, k.2.2.trans h.2.2⟩) (fun W l o hl => ⟨World.putObj_heap_other (by omega), World.putObj_heap_other (by omega), World.putObj_heap_other (by omega)⟩) (fun _ => rfl)
    (fun pre W => (∃ v, Boxed W (w.heap.size + 2) 22 v ∧ W.ownsRow w.heap.size 39 3 v pre.length (cellsOf' (valsOf rw' pre)) ∧ (∀ k, v.ownBlock = some k → w.heap.size + 6 ≤ k)) ∧ (Boxed W w.heap.size 22 (.slice none 0 0) ∧ Boxed W (w.heap.size + 1) 24 (.int .i64 0) ∧ w.heap.size + 6 ≤ W.heap.size ∧ ∀ x ∈ pre, (rw' x).isSome = true) ∧ Below w.heap.size w W)
    (fun _ W => (Boxed W w.heap.size 22 (.slice none 0 0) ∧ Boxed W (w.heap.size + 1) 24 (.int .i64 21) ∧ ∃ x ∈ pieces s, (rw' x).isSome = false) ∧ Below w.heap.size w W) ?hI ?hR ?hIb ?hRb ?h0
    (fun x => { tmps := #[.string ⟨s.toArray⟩, undef, .pointer (some ⟨w.heap.size, 0, none⟩), .pointer (some ⟨w.heap.size + 1, 0, none⟩), .pointer (some ⟨w.heap.size + 2, 0, none⟩), .string ⟨x.toArray⟩, undef, undef, .string ⟨s.toArray⟩, .bool false, .string ⟨s.toArray⟩, .func (.func 37) #[] #[.pointer (some ⟨w.heap.size + 4, 0, none⟩), .pointer (some ⟨w.heap.size + 3, 0, none⟩), .pointer (some ⟨w.heap.size + 5, 0, none⟩)], .string ⟨x.toArray⟩, undef, undef, undef, undef, undef, undef, undef, undef, undef, undef, undef, undef], defers := [] }) ?assign ?body ?done ?ret
  case assign =>
    intro l x W K hK
    gi_wp2
    exact hK
  case hI =>
    refine OwnFrom.and (Own.from (holdsRow_own w.heap.size (w.heap.size + 2) _ _ 3 (fun pre => pre.length) (fun pre => cellsOf' (valsOf rw' pre)) (fun _ v => ∀ k, v.ownBlock = some k → w.heap.size + 6 ≤ k)) _) (OwnFrom.and ?_ (ownFrom_below (Nat.le_refl _) (by omega)))
    rintro pre X Y row ⟨h1, h2, h3, h4⟩ hg hrow
    exact ⟨h1.kept hg (fun e => by have := (hrow _ e.symm).1; omega), h2.kept hg (fun e => by have := (hrow _ e.symm).1; omega), Nat.le_trans h3 hg.size, h4⟩
  case hR =>
    refine OwnFrom.and ?_ (ownFrom_below (Nat.le_refl _) (by omega))
    rintro pre X Y row ⟨h1, h2, h3⟩ hg hrow
    exact ⟨h1.kept hg (fun e => by have := (hrow _ e.symm).1; omega), h2.kept hg (fun e => by have := (hrow _ e.symm).1; omega), h3⟩
  case hIb =>
    rintro pre W v ⟨⟨u, hv, hr, hG⟩, ⟨h1, h2, h3, h4⟩, h5⟩
    exact ⟨⟨u, hv.kept (grownBy_setCell' _ _ _) (by simp), hr.kept (grownBy_setCell' _ _ _) (.inr fun e => by have := hG _ e; omega), hG⟩, ⟨h1.kept (grownBy_setCell' _ _ _) (by simp), h2.kept (grownBy_setCell' _ _ _) (by simp), Nat.le_trans h3 (grownBy_setCell' _ _ _).size, h4⟩, blind_below (β := Unit) (by omega) () _ _ h5⟩
  case hRb =>
    rintro pre W v ⟨⟨h1, h2, h4⟩, h3⟩
    exact ⟨⟨h1.kept (grownBy_setCell' _ _ _) (by simp), h2.kept (grownBy_setCell' _ _ _) (by simp), h4⟩, blind_below (β := Unit) (by omega) () _ _ h3⟩
  case h0 => exact ⟨⟨_, bL, World.ownsRow_nil _ _ _ _, by simp [Value.ownBlock]⟩, ⟨bR, bE, by omega, by simp⟩, hB0⟩
  case body =>
    rintro l pre x W ⟨⟨v, hv, hrow, hG⟩, ⟨h1, h2, h3, h4⟩, hB⟩ hx
    have hxm : x ∈ pieces s := hx.subset (by simp)
    have hpl : pre.length + 1 ≤ 1048577 := by
      have := hx.length_le
      have := pieces_length _ s (Nat.le_refl _)
      simp only [List.length_append, List.length_cons, List.length_nil] at *
      omega
    have hc := hrw x hxm W hB
    generalize hX : (rw' x).getD ⟨0, 0, []⟩ = X at hc
    generalize hO : (rw' x).isSome = ok at hc
    obtain ⟨xt, xn, xb⟩ := X
    simp only [Val.v] at hc
    cases ok with
    | false =>
      gi_wp2_with (refine ⟨trivial, ?_⟩; gi_at_call 13; refine (CallsIn.inRound l (callsIn_wide.2 hc)).mono ?_; rintro e w1 ⟨rfl, hb1⟩; have f1 := (box_below h1 hb1).alloc (.cells #[.int .i64 xt, .int .i64 xn, .string ⟨xb.toArray⟩] 39); have f2 := ((box_below h2 hb1).alloc (.cells #[.int .i64 xt, .int .i64 xn, .string ⟨xb.toArray⟩] 39)).kept (grownBy_setCell' _ w.heap.size (.slice none 0 0)) (by simp); have c1 := f1.cell; have d1 := f1.frozen; have c2 := f2.cell; have d2 := f2.frozen)
      refine ⟨((keeps_below hb1).trans ((KeepsOthers.alloc _ _).trans ((KeepsOthers.setCell _ _ _).trans (KeepsOthers.setCell _ _ _)))).from _, ⟨?_, f2.set _, x, hxm, hO⟩, ?_⟩
      · exact (f1.set _).kept (grownBy_setCell' _ _ _) (by simp)
      · exact (((hB.trans (hb1.mono hB.size)).alloc (Nat.le_trans hB.size hb1.size) _).setCell (p := ⟨w.heap.size, 0, none⟩) (Nat.le_refl _) _).setCell (p := ⟨w.heap.size + 1, 0, none⟩) (by show w.heap.size ≤ w.heap.size + 1; omega) _
    | true =>
      gi_wp2_with (first | (gi_at_builtin; refine wpListIn_append_own_at _ rfl _ _ _ rfl w.heap.size 39 i0 _ 3 32 Tryd.underlying22 hi hz0 hz1 hz2 rfl (by decide) v _ _ rfl (((row_below hrow hb1).alloc _).alloc _) ⟨w1.heap.size + 1, 0, none⟩ 1 1 [.int .i64 xt, .int .i64 xn, .string ⟨xb.toArray⟩] rfl rfl hnew (by simp [Value.oneCell']) (by simp only [maxLen]; omega) (by omega) (by have := hB.size; have := hb1.size; simp; omega) ?_; intro v' w3 hown' hgrow _ hat; obtain ⟨g', cap', rfl⟩ := ownsRow_succ hown'; obtain ⟨hv1, hv2, hr2, hk2, hb2⟩ := f3.appended (by decide) ((row_below hrow hb1).alloc _) hsz1 (by omega) hown' hgrow; have hc1 := hv1.cell; have hf1 := hv1.frozen) | (refine ⟨trivial, ?_⟩; gi_at_call 13; refine (CallsIn.inRound l (callsIn_wide.2 hc)).mono ?_; rintro e w1 ⟨rfl, hb1⟩; have f3 := (box_below hv hb1).alloc (.cells #[.int .i64 xt, .int .i64 xn, .string ⟨xb.toArray⟩] 39); have c3 := f3.cell; have d3 := f3.frozen; have hsz1 : w.heap.size ≤ (w1.alloc (.cells #[.int .i64 xt, .int .i64 xn, .string ⟨xb.toArray⟩] 39)).heap.size := (by have := hB.size; have := hb1.size; simp; omega); have hnew := cells_new (w1.alloc (.cells #[.int .i64 xt, .int .i64 xn, .string ⟨xb.toArray⟩] 39)) [.int .i64 xt, .int .i64 xn, .string ⟨xb.toArray⟩] 39; rw [World.size_alloc] at hnew))
      have hz3 := hb1.size
      refine ⟨((keeps_below hb1).trans ((KeepsOthers.alloc _ _).trans hk2)).from _, kept_of fun k k1 k2 => ?_, ⟨_, hv2, ?_, ?_⟩, ⟨?_, ?_, ?_, ?_⟩, ?_⟩
      · exact (Below.heap_setCell _ _ _ k (by show k ≠ w.heap.size + 2; omega)).trans ((hgrow.block k (by simp; omega) (fun e => by have := hG _ e.symm; omega)).trans ((Below.heap_alloc _ _ k (by simp; omega)).trans ((Below.heap_alloc _ _ k (by omega)).trans (hb1.block k (by omega)))))
      · rw [vals_snoc, cells_snoc, hX]
        simpa [Val.cs] using hr2
      · intro k e
        rcases hat with h | h
        · exact hG k (h.symm.trans e)
        · have := h.symm.trans e
          simp at this
          omega
      · exact ((((box_below h1 hb1).alloc _).alloc _).kept hgrow (fun e => by have := hG _ e.symm; omega)).kept (grownBy_setCell' _ _ _) (by simp)
      · exact ((((box_below h2 hb1).alloc _).alloc _).kept hgrow (fun e => by have := hG _ e.symm; omega)).kept (grownBy_setCell' _ _ _) (by simp)
      · have := hk2.size
        simp at this ⊢
        omega
      · intro y hy
        rcases List.mem_append.1 hy with hy | hy
        · exact h4 y hy
        · obtain rfl : y = x := by simpa using hy
          exact hO
      · exact ((hB.trans (hb1.mono hB.size)).alloc (Nat.le_trans hB.size hb1.size) _).trans hb2
  case done =>
    rintro D W hD ⟨⟨v, hv, hrow, hG⟩, ⟨h1, h2, h3, h4⟩, hB⟩ hK
    obtain ⟨p, k, c, rfl⟩ : ∃ p k c, v = .slice p k c := by
      rcases hrow.2 with ⟨rfl, _⟩ | ⟨g, cap, cur, rfl, _⟩
      · exact ⟨_, _, _, rfl⟩
      · exact ⟨_, _, _, rfl⟩
    have hc := hv.cell
    have c1 := h1.cell
    have d1 := h1.frozen
    have f2 := h2.kept (grownBy_setCell' _ w.heap.size (.slice p k c)) (by simp)
    have c2 := f2.cell
    have d2 := f2.frozen
    gi_wp2
    have hKs : D < W.heap.size := (Array.getElem?_eq_some_iff.1 hK).1
    have hK2 : ((W.setCell ⟨w.heap.size, 0, none⟩ (.slice p k c)).setCell ⟨w.heap.size + 1, 0, none⟩ (.int .i64 0)).heap[D]? = some (.deferred (some [])) :=
      (Below.heap_setCell _ _ _ D (by show D ≠ w.heap.size + 1; omega)).trans ((Below.heap_setCell _ _ _ D (by show D ≠ w.heap.size; omega)).trans hK)
    refine ⟨by simp, .inl ⟨_, _, rfl, run_takeDeferred hK2, ?_⟩⟩
    have g1 := box_putObj ((h1.set (.slice p k c)).kept (grownBy_setCell' _ (w.heap.size + 1) (.int .i64 0)) (by simp)) (by omega) (D := D) (.deferred none)
    have g2 := box_putObj (f2.set (.int .i64 0)) (by omega) (D := D) (.deferred none)
    refine ⟨_, results_cells rfl _ _ _ ⟨w.heap.size, 0, none⟩ ⟨w.heap.size + 1, 0, none⟩ _ _ rfl rfl (load_slice g1.cell) (load_errno g2.cell), ?_⟩
    refine ⟨below_putObj ((hB.setCell (p := ⟨w.heap.size, 0, none⟩) (Nat.le_refl _) _).setCell (p := ⟨w.heap.size + 1, 0, none⟩) (by show w.heap.size ≤ w.heap.size + 1; omega) _) (by omega) _ (Array.getElem?_eq_some_iff.1 hK2).1, .inl ⟨h4, _, rfl, ?_⟩⟩
    exact ownsRow_putObj ((hrow.kept (grownBy_setCell' _ _ _) (.inr fun e => by have := hG _ e; omega)).kept (grownBy_setCell' _ _ _) (.inr fun e => by have := hG _ e; omega)) _ hK2 rfl
  case ret =>
    rintro D pre W hD ⟨⟨h1, h2, x, hxm, hO⟩, hB⟩ hK
    gi_wp2
    refine ⟨by simp, .inl ⟨_, _, rfl, run_takeDeferred hK, ?_⟩⟩
    have g1 := box_putObj h1 (by omega) (D := D) (.deferred none)
    have g2 := box_putObj h2 (by omega) (D := D) (.deferred none)
    refine ⟨_, results_cells rfl _ _ _ ⟨w.heap.size, 0, none⟩ ⟨w.heap.size + 1, 0, none⟩ _ _ rfl rfl (load_slice g1.cell) (load_errno g2.cell), ?_⟩
    exact ⟨below_putObj hB (by omega) _ (Array.getElem?_eq_some_iff.1 hK).1, .inr ⟨⟨x, hxm, hO⟩, rfl⟩⟩
end Go.Proofs.YtkmfopdklohgnaaDoor
