/- Layer 18: a replica's Request. -/
import Derived.Test.YtaonchdpnllhpaaV8j
namespace Go.Proofs.Ytaonchdpnllhpaa
open Go.RowKit
/-- What of a replica does not change. -/
structure RC where
  rb : Nat
  pb : Nat
  base : Nat
  mb : Nat
  mc : Nat
  sv : Value
  dv : Value
structure RA (R : RC) (x : Pt) (mt : List Nat) (la : Option Addr) (ln lc : Nat) (L : List Ent) (W : World) : Prop where
  b : W.heap[R.rb]? = some (.cells #[.pointer (some ⟨R.pb, 0, none⟩)] 67 (0, 0))
  p : PtAt R.pb x (.slice la ln lc) R.sv R.dv (.slice (some ⟨R.mb, 0, none⟩) x.n R.mc) W
  l : W.ownsRow R.base 56 2 (.slice la ln lc) ln (cellsE L)
  k : W.ownsRow R.base 3 1 (.slice (some ⟨R.mb, 0, none⟩) x.n R.mc) x.n (nsV mt)
  z : R.base ≤ W.heap.size
theorem RA.below {R : RC} {x : Pt} {mt : List Nat} {la : Option Addr} {ln lc : Nat} {L : List Ent} {W W' : World} (h : RA R x mt la ln lc L W) (hb : Below W.heap.size W W') : RA R x mt la ln lc L W' :=
  ⟨(hb.block _ (lt_of_block h.b)).trans h.b, h.p.below hb, row_below2 h.l hb, row_below2 h.k hb, Nat.le_trans h.z hb.size⟩
/-- The turn of a call, at its begin. -/
def RC.tc (R : RC) (tb wb : Nat) (lo : Option Nat) : TC := ⟨tb, R.pb, wb, R.base, lo, R.mb, R.mc, R.sv, R.dv⟩
theorem RA.turn {R : RC} {x : Pt} {mt : List Nat} {la : Option Addr} {ln lc : Nat} {L : List Ent} {w : World} (h : RA R x mt la ln lc L w) {W : World} {tb : Nat} (hb : Below w.heap.size w W) (ht : w.heap.size ≤ tb) (hx : TnAt tb R.pb (.slice none 0 0) (.slice none 0 0) W) : TS (R.tc tb w.heap.size (Value.slice la ln lc).ownBlock) w x mt la ln lc L none 0 0 [] none 0 0 W :=
  ⟨hx, h.p.below hb, World.ownsRow_nil _ _ _ _, ⟨[], World.ownsRow_nil _ _ _ _⟩, row_below2 h.l hb, row_below2 h.k hb, Chg.of_below hb, .inl rfl, ht, hb.size, h.z⟩
/-- What is left of a replica behind a turn. -/
theorem RA.after {R : RC} {x y : Pt} {mt mt' : List Nat} {la la' : Option Addr} {ln lc ln' lc' : Nat} {L L' : List Ent} {w W : World} {tb m ac dk dc : Nat} {a0 d0 : Option Addr} {xs : List Value} (h : RA R x mt la ln lc L w) (t : TS (R.tc tb w.heap.size (Value.slice la ln lc).ownBlock) w y mt' la' ln' lc' L' a0 m ac xs d0 dk dc W) : RA R y mt' la' ln' lc' L' W ∧ Chg w W (fun k => k = R.pb ∨ (Value.slice la ln lc).ownBlock = some k ∨ k = R.mb) := by
  have g : Chg w W (fun k => k = R.pb ∨ (Value.slice la ln lc).ownBlock = some k ∨ k = R.mb) := t.f.mono fun i hi hs => hs.elim (fun e => absurd hi (Nat.not_lt.2 e)) fun e => e
  refine ⟨⟨?_, t.p, t.l, t.k, Nat.le_trans h.z g.size⟩, g⟩
  rw [g.block _ (lt_of_block h.b)]
  · exact h.b
  · rintro (e | e | e)
    · have h1 := h.b
      have h2 := h.p
      unfold PtAt at h2
      rw [e, h2] at h1
      injection h1 with h1
      injection h1 with h1
      exact absurd (congrArg Array.size h1) (by decide : (13 : Nat) ≠ 1)
    · exact row_apart18 h.l h.b (by decide) e
    · exact row_apart18 h.k h.b (by decide) (by rw [e]; rfl)
theorem made_any18 {R : RC} {x : Pt} {mt : List Nat} {la : Option Addr} {ln lc : Nat} {L : List Ent} (w : World) (h : RA R x mt la ln lc L w) : Calls Try.prog 20 #[.pointer (some ⟨R.rb, 0, none⟩)] w fun e w' => e = .returned (.bool true) ∧ w' = w := by
  have c0 : w.cell? ⟨R.rb, 0, none⟩ = some (.pointer (some ⟨R.pb, 0, none⟩)) := Lib.cell_of_heap h.b 0
  have hl := lt_of_block h.b
  clear h
  go_enter Try.func20, Try.ntmps20
  go_wp2_with fail
  go_ret
  exact ⟨rfl, rfl⟩
theorem load_work18 {w : World} {b : Nat} {x0 x1 : Value} (h : w.heap[b]? = some (.cells #[x0, x1] 35 (0, 0))) : (loadVar 35 ⟨b, 0, none⟩).run Try.prog w = .ok (.agg #[x0, x1]) w := by
  simp [loadVar, go_sem, Lib.cell_of_heap h]
theorem ret_box3 {P : Program} {fn : Func} {R : Ending → World → Prop} {a : Act} {r t u : Tmp} {T : TypeId} {W : World} {b : Nat} {y v z : Value} (h : fn.results = #[.tmp r, .cell t T, .tmp u]) (ha : a.tmps[t]?.getD undef = .pointer (some ⟨b, 0, none⟩)) (hd : a.defers = []) (hr : a.tmps[r]?.getD undef = y) (hu : a.tmps[u]?.getD undef = z) (hl : (loadVar T ⟨b, 0, none⟩).run P W = .ok v W) (hR : R (.returned (.tuple #[y, v, z])) W) : bodyPost P fn R .ret a W :=
  bodyPost_ret (by simp [results, h, ha, asAddr, hl, hr, hu]) hd hR
theorem row_base18 {w : World} {b1 b2 n size : Nat} {e : TypeId} {v : Value} {xs : List Value} (h : w.ownsRow b1 e size v n xs) (hb : b2 ≤ b1) : w.ownsRow b2 e size v n xs := by
  refine ⟨h.1, ?_⟩
  rcases h.2 with e | ⟨g, cap, cur, e1, e2, e3⟩
  · exact .inl e
  · exact .inr ⟨g, cap, cur, e1, Nat.le_trans hb e2, e3⟩
/-- A replica stays what it is when a box of work is written. -/
theorem RA.work {R : RC} {x : Pt} {mt : List Nat} {la : Option Addr} {ln lc : Nat} {L : List Ent} {W : World} (h : RA R x mt la ln lc L W) {X o : Nat} {cs : Array Value} {e : TypeId} (hx : W.heap[X]? = some (.cells cs e (0, 0))) (hc : cs.size = 2) (h1 : 56 ≠ e) (h2 : 3 ≠ e) (u : Value) : RA R x mt la ln lc L (W.setCell ⟨X, o, none⟩ u) := by
  refine ⟨?_, ?_, row_keep18 h.l (row_apart18 h.l hx h1) _, row_keep18 h.k (row_apart18 h.k hx h2) _, by simpa [World.setCell] using h.z⟩
  · refine (heap_setCell_other _ _ _ _ fun e => ?_).trans h.b
    have h1 := h.b
    rw [e, hx] at h1
    injection h1 with h1
    injection h1 with h1
    rw [h1] at hc
    exact absurd hc (by decide : ¬ (1 : Nat) = 2)
  · refine (heap_setCell_other _ _ _ _ fun e => ?_).trans h.p
    have h1 := h.p
    unfold PtAt at h1
    rw [e, hx] at h1
    injection h1 with h1
    injection h1 with h1
    rw [h1] at hc
    exact absurd hc (by decide : ¬ (13 : Nat) = 2)
/-- How Request ends, where the replica leads. -/
def RReq (R : RC) (x : Pt) (mt : List Nat) (la : Option Addr) (ln lc : Nat) (L : List Ent) (E : List Ent) (w : World) (e : Ending) (w' : World) : Prop := ∃ la' lc' a ac d dc a3 c3, e = .returned (.tuple #[.int .i64 ((ln + 1 : Nat) : Int), .agg #[.slice a (0 + 1 + comN x.cm (min ((midN x.n (mt.set x.id (ln + 1)) : Nat) : Int) ((ln + 1 : Nat) : Int))) ac, .slice d (0 + (othL x.n x.id).length) dc], .int .i64 0]) ∧ Hid (RA R (x.rises (min ((midN x.n (mt.set x.id (ln + 1)) : Nat) : Int) ((ln + 1 : Nat) : Int))) mt la' (ln + 1) lc' (L ++ E) w' ∧ Chg w w' (fun k => k = R.pb ∨ (Value.slice la ln lc).ownBlock = some k ∨ k = R.mb) ∧ w'.ownsRow w.heap.size 85 5 (.slice a (0 + 1 + comN x.cm (min ((midN x.n (mt.set x.id (ln + 1)) : Nat) : Int) ((ln + 1 : Nat) : Int))) ac) (0 + 1 + comN x.cm (min ((midN x.n (mt.set x.id (ln + 1)) : Nat) : Int) ((ln + 1 : Nat) : Int))) ([] ++ [.int .i64 2, .int .i64 0, .int .i64 0, .int .i64 ln, .slice a3 1 c3] ++ comX x.cm (min ((midN x.n (mt.set x.id (ln + 1)) : Nat) : Int) ((ln + 1 : Nat) : Int))) ∧ w'.ownsRow w.heap.size 56 2 (.slice a3 1 c3) 1 (cellsE E) ∧ (∀ q, (Value.slice a3 1 c3).ownBlock = some q → (Value.slice la' (ln + 1) lc').ownBlock ≠ some q) ∧ ((Value.slice la' (ln + 1) lc').ownBlock = (Value.slice la ln lc).ownBlock ∨ ∃ g, (Value.slice la' (ln + 1) lc').ownBlock = some g ∧ w.heap.size ≤ g) ∧ ∃ ys, w'.ownsRow w.heap.size 41 8 (.slice d (0 + (othL x.n x.id).length) dc) (0 + (othL x.n x.id).length) ys)
/-- Behind the turn: what is read of it, and what is so when it is told. -/
theorem ReqEnd.told {R : RC} {x : Pt} {mt : List Nat} {la : Option Addr} {ln lc : Nat} {L E : List Ent} {w W3 W6 : World} (h : RA R x mt la ln lc L w) (b3 : Below w.heap.size w W3) (hx : W3.heap[w.heap.size]? = some (.cells #[.slice none 0 0, .slice none 0 0] 35 (0, 0))) (h6 : ReqEnd (R.tc W3.heap.size W3.heap.size (Value.slice la ln lc).ownBlock) W3 x mt L ln E 0 [] 0 W6) : ∃ la' lc' a m ac d dk dc, W6.cell? ⟨R.rb, 0, none⟩ = some (.pointer (some ⟨R.pb, 0, none⟩)) ∧ W6.cell? ⟨R.pb, 3, none⟩ = some (.slice la' (ln + 1) lc') ∧ W6.cell? ⟨W3.heap.size, 1, none⟩ = some (.slice a m ac) ∧ W6.cell? ⟨W3.heap.size, 2, none⟩ = some (.slice d dk dc) ∧ W6.cell? ⟨w.heap.size, 0, none⟩ = some (.slice none 0 0) ∧ W6.cell? ⟨w.heap.size, 1, none⟩ = some (.slice none 0 0) ∧ W6.frozen? ⟨w.heap.size, 0, none⟩ = false ∧ W6.frozen? ⟨w.heap.size, 1, none⟩ = false ∧ (R.rb < W6.heap.size ∧ R.pb < W6.heap.size ∧ W3.heap.size < W6.heap.size ∧ w.heap.size < W6.heap.size ∧ w.heap.size < W3.heap.size ∧ R.rb < w.heap.size ∧ R.pb < w.heap.size) ∧ Hid (∀ W, W = ((W6.setCell ⟨w.heap.size, 0, none⟩ (.slice a m ac)).setCell ⟨w.heap.size, 1, none⟩ (.slice d dk dc)).drew → W.heap[w.heap.size]? = some (.cells #[.slice a m ac, .slice d dk dc] 35 (0, 0)) ∧ RReq R x mt la ln lc L E w (.returned (.tuple #[.int .i64 ((ln + 1 : Nat) : Int), .agg #[.slice a m ac, .slice d dk dc], .int .i64 0])) W) := by
  obtain ⟨la', lc', a, ac, d, dc, a3, c3, ⟨t6, k6⟩⟩ := h6
  obtain ⟨r6, g6⟩ := (h.below b3).after t6
  have hxl := lt_of_block hx
  have hx6 : W6.heap[w.heap.size]? = some (.cells #[.slice none 0 0, .slice none 0 0] 35 (0, 0)) := by
    rw [g6.block _ hxl fun hs => ?_]
    · exact hx
    · have h1 := h.p.rd.2.2.1
      rcases hs with e | e | e
      · omega
      · have := (World.ownsRow.lt h.l _ e).2
        omega
      · have := (World.ownsRow.lt h.k R.mb rfl).2
        omega
  obtain ⟨⟨-, t1, t2⟩, tl, -⟩ := t6.t.rd
  refine ⟨la', lc', a, _, ac, d, _, dc, Lib.cell_of_heap r6.b 0, r6.p.rd.1.2.2.2.1, t1, t2, Lib.cell_of_heap hx6 0, Lib.cell_of_heap hx6 1, Lib.frozen_of_heap hx6 0, Lib.frozen_of_heap hx6 1, ⟨lt_of_block r6.b, r6.p.rd.2.2.1, tl, lt_of_block hx6, hxl, lt_of_block h.b, h.p.rd.2.2.1⟩, hid fun W hW => ⟨by rw [hW]; exact heap_setCell_same _ _ _ _ _ _ (heap_setCell_same _ _ _ _ _ _ hx6), la', lc', a, ac, d, dc, a3, c3, rfl, ?_⟩⟩
  obtain ⟨ys, hd⟩ := t6.d
  have hx7 := fun u : Value => heap_setCell_same W6 w.heap.size 0 _ _ u hx6
  have r7 := fun u : Value => r6.work (o := 0) hx6 rfl (by decide) (by decide) u
  have hle : w.heap.size ≤ W3.heap.size := b3.size
  rw [hW]
  refine hid ⟨((r7 _).work (o := 1) (hx7 _) rfl (by decide) (by decide) _).below (below_drew18 _), ?_, ?_, ?_, k6.2, t6.n.imp id fun ⟨g, e, h⟩ => ⟨g, e, Nat.le_trans hle h⟩, ys, ?_⟩
  · have q : Chg w W6 (fun k => k = R.pb ∨ (Value.slice la ln lc).ownBlock = some k ∨ k = R.mb) := (Chg.of_below b3).trans g6 fun _ _ e => e
    refine ((q.trans (T := fun k => k = w.heap.size) (Chg.setCell _ _ _) fun i hi e => ?_).trans (T := fun k => k = w.heap.size) (Chg.setCell _ _ _) fun i hi e => ?_).trans (Chg.drew _ _) fun i hi e => e
    · omega
    · omega
  · exact row_base18 (World.ownsRow.drew <| row_keep18 (row_keep18 t6.r (row_apart18 t6.r hx6 (by decide)) _) (row_apart18 t6.r hx6 (by decide)) _) hle
  · exact row_base18 (World.ownsRow.drew <| row_keep18 (row_keep18 k6.1 (row_apart18 k6.1 hx6 (by decide)) _) (row_apart18 k6.1 hx6 (by decide)) _) hle
  · exact row_base18 (World.ownsRow.drew <| row_keep18 (row_keep18 hd (row_apart18 hd hx6 (by decide)) _) (row_apart18 hd hx6 (by decide)) _) hle
set_option maxRecDepth 100000 in
set_option maxHeartbeats 1000000 in
theorem rrequest_any18 {R : RC} {x : Pt} {mt : List Nat} {la : Option Addr} {ln lc : Nat} {L : List Ent} (v : Nat) (s : List UInt8) (w : World) (h : RA R x mt la ln lc L w) (hn1 : 1 ≤ x.n) (hn : x.n ≤ 7) (hi : x.id < x.n) (hv : x.vw = v) (hv2 : v ≤ 9223372036854775807) (hld : x.leads v = true) (hs : s.length ≤ 16384) (hln : ln < 2048) : Calls Try.prog 8 #[.pointer (some ⟨R.rb, 0, none⟩), .string ⟨s.toArray⟩] w (RReq R x mt la ln lc L [⟨x.vw, s⟩] w) := by
  have h0 := hid h
  have HR : Hid (∀ W, Below w.heap.size w W → RA R x mt la ln lc L W) := hid fun W hW => h.below hW
  have HM : Hid (∀ W, Below w.heap.size w W → Calls Try.prog 20 #[.pointer (some ⟨R.rb, 0, none⟩)] W fun e w' => e = .returned (.bool true) ∧ w' = W) := hid fun W hW => made_any18 W (h.below hW)
  have HL : Hid (∀ W, Below w.heap.size w W → Calls Try.prog 21 #[.pointer (some ⟨R.pb, 0, none⟩)] W fun e w' => e = .returned (.bool true) ∧ ∃ m, w' = W.drewN m) := hid fun W hW => by
    have h1 := leads_any18 v hv hv2 hn1 hn W (h.below hW).p
    rw [hld] at h1
    exact h1
  have HC : Hid (∀ W, Below w.heap.size w W → W.cell? ⟨R.rb, 0, none⟩ = some (.pointer (some ⟨R.pb, 0, none⟩)) ∧ W.cell? ⟨R.pb, 3, none⟩ = some (.slice la ln lc) ∧ R.rb < W.heap.size ∧ R.pb < W.heap.size) := hid fun W hW => ⟨Lib.cell_of_heap (h.below hW).b 0, (h.below hW).p.rd.1.2.2.2.1, lt_of_block (h.below hW).b, (h.below hW).p.rd.2.2.1⟩
  obtain ⟨W1, hW1⟩ : ∃ W1, W1 = w.alloc (.cells #[.slice none 0 0, .slice none 0 0] 35) := ⟨_, rfl⟩
  have B1 : Below w.heap.size w W1 := by rw [hW1]; exact (Below.refl _ w).alloc (Nat.le_refl _) _
  have X1 : W1.heap[w.heap.size]? = some (.cells #[.slice none 0 0, .slice none 0 0] 35 (0, 0)) := by rw [hW1]; exact heap_alloc_new _ _
  have HM1 := hid (HM.out W1 B1)
  obtain ⟨c0, c3, rl, pl⟩ := HC.out W1 B1
  have hsz : ¬ (16384 : Int) < (s.length : Int) := by omega
  have hln2 : ¬ (2048 : Int) ≤ (ln : Int) := by omega
  clear h HM
  go_enter Try.func8, Try.ntmps8
  go_wp2_with fail
  rw [← hW1]
  clear hW1
  go_upto_region 7 with (first
    | (go_at_call 20; refine HM1.out.mono ?_; clear HM1; rintro e W2 ⟨rfl, hW2⟩; subst hW2)
    | (go_at_call 21; refine (HL.out _ B1).mono ?_; clear HL; rintro e W3 ⟨rfl, n2, hW3⟩; have B3 : Below w.heap.size w W3 := (by rw [hW3]; exact below_drewN B1 n2); have X3 := (show W3.heap[w.heap.size]? = some (.cells #[.slice none 0 0, .slice none 0 0] 35 (0, 0)) by rw [hW3]; exact X1); clear hW3 X1 c0 c3 rl pl; obtain ⟨c0, c3, rl, pl⟩ := HC.out W3 B3)
    | fail)
  have HT : Hid (∀ W4, W4 = W3.alloc (.cells #[.pointer (some ⟨R.pb, 0, none⟩), .slice none 0 0, .slice none 0 0] 74) → Calls Try.prog 23 #[.string ⟨s.toArray⟩] W4 fun e W5 => e = .returned (.string ⟨s.toArray⟩) ∧ TS (R.tc W3.heap.size W3.heap.size (Value.slice la ln lc).ownBlock) W3 x mt la ln lc L none 0 0 [] none 0 0 W5) := hid fun W4 hW4 => by
    have b4 : Below W3.heap.size W3 W4 := by rw [hW4]; exact (Below.refl _ W3).alloc (Nat.le_refl _) _
    have t4 : TnAt W3.heap.size R.pb (.slice none 0 0) (.slice none 0 0) W4 := by rw [hW4]; exact heap_alloc_new _ _
    refine (sclone_any s W4 (by omega)).mono ?_
    rintro e W5 ⟨rfl, b5⟩
    exact ⟨rfl, ((HR.out W3 B3).turn b4 (Nat.le_refl _) t4).below b5⟩
  have HF : Hid (∀ W6, ReqEnd (R.tc W3.heap.size W3.heap.size (Value.slice la ln lc).ownBlock) W3 x mt L ln [⟨x.vw, s⟩] 0 [] 0 W6 → _) := hid fun W6 h6 => ReqEnd.told h0.out B3 X3 h6
  clear X3 HC HR h0
  go_wp2_with (first
    | (go_at_call 23; refine (HT.out _ rfl).mono ?_; clear HT; rintro e W5 ⟨rfl, h5⟩; have HQ := hid (request_any18 s W5 h5 hn1 hn hi (by omega) (by omega) (by omega)); clear h5)
    | (go_at_call 22; refine HQ.out.mono ?_; clear HQ; rintro e W6 ⟨rfl, h6⟩; obtain ⟨la', lc', a, m, ac, d, dk, dc, c0, c1, c2, c3, c4, c5, f0, f1, ⟨l0, l1, l2, l3, l4, l5, l6⟩, HE⟩ := HF.out W6 h6; clear h6 HF)
    | fail)
  have n1 : W3.heap.size ≠ w.heap.size := by omega
  have n2 : R.rb ≠ w.heap.size := by omega
  have n3 : R.pb ≠ w.heap.size := by omega
  go_region_law fail
  all_goals
    go_wp2_with fail
    exact ret_box3 rfl rfl rfl rfl rfl (load_work18 (HE.out _ rfl).1) (HE.out _ rfl).2
end Go.Proofs.Ytaonchdpnllhpaa
