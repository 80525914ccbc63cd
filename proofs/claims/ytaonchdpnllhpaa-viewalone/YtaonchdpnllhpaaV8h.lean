/- Layer 18: a turn: tell. -/
import Derived.Test.YtaonchdpnllhpaaV8g
namespace Go.Proofs.Ytaonchdpnllhpaa
open Go.RowKit
theorem elemN_msg18 : ElemN Try.prog 33 41 8 80 := by
  obtain ⟨i0, hi, hz0, hz1, hz2⟩ := info_parts (show (Try.prog.info? 41).map (fun i => (i.zero, i.size, i.bytes)) = some (some (.agg #[.int .i64 0, .int .i64 0, .int .i64 0, .int .i64 0, .int .i64 0, .int .i64 0, .int .i64 0, .slice none 0 0]), 8, 80) by kernel_rfl)
  exact ⟨Try.underlying33, ⟨i0, _, hi, hz0, hz1, hz2, rfl⟩, by decide⟩
/-- While it tells: its part stays, Send grows. -/
structure TM (tb pb base bx : Nat) (x : Pt) (nv lv sv dv mv d0 d : Value) (m : Nat) (ms : Array Value) (xs : List Value) (w W : World) : Prop where
  t : TnAt tb pb nv d W
  p : PtAt pb x lv sv dv mv W
  r : ∃ ys, W.ownsRow base 41 8 d m (xs ++ ys)
  b : W.heap[bx]? = some (.cells ms 41 (0, 0))
  g : Chg w W (fun k => k = tb ∨ d0.ownBlock = some k)
  n : d.ownBlock = d0.ownBlock ∨ ∃ g, d.ownBlock = some g ∧ w.heap.size ≤ g
  q : d.ownBlock ≠ some bx
theorem TM.below {tb pb base bx : Nat} {x : Pt} {nv lv sv dv mv d0 d : Value} {m : Nat} {ms : Array Value} {xs : List Value} {w W W' : World} (h : TM tb pb base bx x nv lv sv dv mv d0 d m ms xs w W) (hb : Below W.heap.size W W') : TM tb pb base bx x nv lv sv dv mv d0 d m ms xs w W' :=
  ⟨h.t.below hb, h.p.below hb, h.r.imp fun _ h => row_below2 h hb, (hb.block _ (Array.getElem?_eq_some_iff.1 h.b).1).trans h.b, h.g.trans (Chg.of_below hb (S := fun _ => False)) fun _ _ f => f.elim, h.n, h.q⟩
theorem TM.app {tb pb base bx : Nat} {x : Pt} {nv lv sv dv mv d0 : Value} {a a8 : Option Addr} {c c8 m : Nat} {ms : Array Value} {xs ys : List Value} {w W W8 : World} (h : TM tb pb base bx x nv lv sv dv mv d0 (.slice a m c) m ms xs w W) (r8 : W8.ownsRow base 41 8 (.slice a8 (m + 1) c8) (m + 1) (xs ++ ys)) (s8 : Step W (.slice a m c) W8 (.slice a8 (m + 1) c8)) :
    (W8.cell? ⟨tb, 2, none⟩ = some (.slice a m c) ∧ W8.frozen? ⟨tb, 2, none⟩ = false ∧ tb < W8.heap.size) ∧ TM tb pb base bx x nv lv sv dv mv d0 (.slice a8 (m + 1) c8) (m + 1) ms xs w (W8.setCell ⟨tb, 2, none⟩ (.slice a8 (m + 1) c8)) := by
  obtain ⟨ys0, hr⟩ := h.r
  have tl := (Array.getElem?_eq_some_iff.1 h.t).1
  have pl := (Array.getElem?_eq_some_iff.1 h.p).1
  have bl := (Array.getElem?_eq_some_iff.1 h.b).1
  have t8 : TnAt tb pb nv (.slice a m c) W8 := (s8.1.block tb tl fun e => row_apart18 hr h.t (by decide) e.symm).trans h.t
  have p8 : PtAt pb x lv sv dv mv W8 := (s8.1.block pb pl fun e => row_apart18 hr h.p (by decide) e.symm).trans h.p
  have b8 : W8.heap[bx]? = some (.cells ms 41 (0, 0)) := (s8.1.block bx bl fun e => h.q e.symm).trans h.b
  have htp := tp_apart18 t8 p8
  have htb : bx ≠ tb := fun e => by
    rw [e] at b8
    have := b8.symm.trans t8
    injection this with this
    injection this with _ e2 _
    exact absurd e2 (by decide)
  obtain ⟨⟨-, -, c2⟩, tl8, tf8⟩ := t8.rd
  refine ⟨⟨c2, tf8 2, tl8⟩, ?_, ?_, ⟨ys, ?_⟩, ?_, ?_, ?_, ?_⟩
  · exact heap_setCell_same _ _ _ _ _ _ t8
  · exact (heap_setCell_other _ _ _ _ fun e => htp e.symm).trans p8
  · exact row_keep18 r8 (row_apart18 r8 t8 (by decide)) _
  · exact (heap_setCell_other _ _ _ _ htb).trans b8
  · refine (h.g.trans (Chg.of_grown s8.1) fun i hi e => ?_).trans ((Chg.setCell _ _ _).mono fun i _ e => .inl e) fun _ _ e => e
    rcases h.n with e2 | ⟨g, e2, hg⟩
    · exact .inr (e2 ▸ e)
    · rw [e2] at e
      injection e with e
      omega
  · rcases s8.2 with e | ⟨g, e, hg⟩
    · rw [e]; exact h.n
    · exact .inr ⟨g, e, Nat.le_trans h.g.size hg⟩
  · intro e
    rcases s8.2 with e2 | ⟨g, e2, hg⟩
    · exact h.q (e2 ▸ e)
    · rw [e2] at e
      injection e with e
      omega
/-- What there is behind it. -/
def TellEnd (tb pb base : Nat) (x : Pt) (nv lv sv dv mv d0 : Value) (m : Nat) (xs : List Value) (w w' : World) : Prop := ∃ a c ys, Hid (TnAt tb pb nv (.slice a m c) w' ∧ PtAt pb x lv sv dv mv w' ∧ w'.ownsRow base 41 8 (.slice a m c) m (xs ++ ys) ∧ Chg w w' (fun k => k = tb ∨ d0.ownBlock = some k) ∧ ((Value.slice a m c).ownBlock = d0.ownBlock ∨ ∃ g, (Value.slice a m c).ownBlock = some g ∧ w.heap.size ≤ g))
set_option maxRecDepth 100000 in
set_option maxHeartbeats 2000000 in
theorem tell_any18 {tb pb base m q k : Nat} {a0 ta ka : Option Addr} {ac tc kc : Nat} {x : Pt} {nv lv sv dv mv : Value} {kd fr tt vw nm op cm : Int} {xs es : List Value} {L : List Nat} (w : World) (hP : PtAt pb x lv sv dv mv w) (h : TnAt tb pb nv (.slice a0 m ac) w) (hr : w.ownsRow base 41 8 (.slice a0 m ac) m xs) (hb : base ≤ w.heap.size) (hm : m ≤ 100000) (hq : q ≤ 7) (hL : L.length = q) (hT : ∀ W, Chg w W (fun k => k = tb ∨ (Value.slice a0 m ac).ownBlock = some k) → ∀ j, j < q → ∃ b o, ta = some ⟨b, o, none⟩ ∧ W.cell? ⟨b, o + j, none⟩ = some (.int .i64 (L.getD j 0 : Nat)) ∧ b < W.heap.size) (hE : ∀ W, Chg w W (fun k => k = tb ∨ (Value.slice a0 m ac).ownBlock = some k) → Lies W (.slice ka k kc) k es) (hl : es.length = k * 2) (h1 : ∀ u ∈ es, u.oneCell' = true) (hk : k ≤ 65536) : Calls Try.prog 47 #[.pointer (some ⟨tb, 0, none⟩), .agg #[.int .i64 kd, .int .i64 fr, .int .i64 tt, .int .i64 vw, .int .i64 op, .int .i64 cm, .int .i64 nm, .slice ka k kc], .slice ta q tc] w (fun e w' => e = .returned (.tuple #[]) ∧ TellEnd tb pb base x nv lv sv dv mv (.slice a0 m ac) (m + q) xs w w') := by
  obtain ⟨W0, hW0⟩ : ∃ W0, W0 = w.alloc (.cells #[.int .i64 kd, .int .i64 fr, .int .i64 tt, .int .i64 vw, .int .i64 op, .int .i64 cm, .int .i64 nm, .slice ka k kc] 41) := ⟨_, rfl⟩
  obtain ⟨ms, hms⟩ : ∃ ms, ms = #[Value.int .i64 kd, .int .i64 fr, .int .i64 tt, .int .i64 vw, .int .i64 op, .int .i64 cm, .int .i64 nm, .slice ka k kc] := ⟨_, rfl⟩
  have HT0 : Hid (TM tb pb base w.heap.size x nv lv sv dv mv (.slice a0 m ac) (.slice a0 m ac) m ms xs w W0) := hid (by
    have hbl : Below w.heap.size w W0 := by rw [hW0]; exact (Below.refl _ w).alloc (Nat.le_refl _) _
    refine ⟨h.below hbl, hP.below hbl, ⟨[], ?_⟩, ?_, Chg.of_below hbl, .inl rfl, fun e => ?_⟩
    · rw [List.append_nil]; exact row_below2 hr hbl
    · rw [hW0, hms]; exact heap_alloc_new _ _
    · have := (World.ownsRow.lt hr _ e).2
      omega)
  have HMs := hid hms
  have HTo := hid hT
  have HEs := hid hE
  have H1 := hid h1
  clear h hP hr hT hE h1 hms
  go_enter Try.func47, Try.ntmps47
  go_wp2_with fail
  rw [← hW0]
  clear hW0
  go_loopw [7, 8, 11] (fun _ _ iv wr => ∃ (i : Nat) (a : Option Addr) (c : Nat), iv = .int .i64 i ∧ i ≤ q ∧ m + i ≤ c ∧ Hid (TM tb pb base w.heap.size x nv lv sv dv mv (.slice a0 m ac) (.slice a (m + i) c) (m + i) ms xs w wr)) (fun _ _ iv _ => q - (intOf iv).toNat)
  case atStart => exact ⟨0, a0, ac, rfl, by omega, by
    obtain ⟨ys, hr⟩ := HT0.out.r
    obtain ⟨a', c', e, q1, -⟩ := row_form hr
    injection e with _ _ e
    omega, HT0⟩
  case round =>
    obtain ⟨i, a, c, rfl, hi, hmc, HR⟩ := hrel
    by_cases hin : i < q
    · obtain ⟨zb, zo, ez, z0, zl⟩ := HTo.out wr HR.out.g i hin
      subst ez
      have hin2 : (i : Int) < (q : Int) := by omega
      have hbx := HR.out.b
      rw [HMs.out] at hbx
      have b0 : wr.cell? ⟨w.heap.size, 0, none⟩ = some (.int .i64 kd) := Lib.cell_of_heap hbx 0
      have b1 : wr.cell? ⟨w.heap.size, 1, none⟩ = some (.int .i64 fr) := Lib.cell_of_heap hbx 1
      have b2 : wr.cell? ⟨w.heap.size, 2, none⟩ = some (.int .i64 tt) := Lib.cell_of_heap hbx 2
      have b3 : wr.cell? ⟨w.heap.size, 3, none⟩ = some (.int .i64 vw) := Lib.cell_of_heap hbx 3
      have b4 : wr.cell? ⟨w.heap.size, 4, none⟩ = some (.int .i64 op) := Lib.cell_of_heap hbx 4
      have b5 : wr.cell? ⟨w.heap.size, 5, none⟩ = some (.int .i64 cm) := Lib.cell_of_heap hbx 5
      have b6 : wr.cell? ⟨w.heap.size, 6, none⟩ = some (.int .i64 nm) := Lib.cell_of_heap hbx 6
      have b7 : wr.cell? ⟨w.heap.size, 7, none⟩ = some (.slice ka k kc) := Lib.cell_of_heap hbx 7
      have bl : w.heap.size < wr.heap.size := lt_of_block hbx
      have hix : i < L.length := by omega
      clear hbx
      generalize L.getD i 0 = tid at *
      go_upto_region 5 with fail
      obtain ⟨X, hX⟩ : ∃ X, X = wr.heap.size := ⟨_, rfl⟩
      have HV : Hid (∀ V, V = wr.alloc (.cells #[.int .i64 kd, .int .i64 fr, .int .i64 tt, .int .i64 vw, .int .i64 op, .int .i64 cm, .int .i64 nm, .slice ka k kc] 41) → Below wr.heap.size wr V ∧ V.heap[wr.heap.size]? = some (.cells #[.int .i64 kd, .int .i64 fr, .int .i64 tt, .int .i64 vw, .int .i64 op, .int .i64 cm, .int .i64 nm, .slice ka k kc] 41 (0, 0))) := hid fun V hV => by
        rw [hV]
        exact ⟨(Below.refl _ wr).alloc (Nat.le_refl _) _, heap_alloc_new _ _⟩
      obtain ⟨V, hV⟩ : ∃ V, V = wr.alloc (.cells #[.int .i64 kd, .int .i64 fr, .int .i64 tt, .int .i64 vw, .int .i64 op, .int .i64 cm, .int .i64 nm, .slice ka k kc] 41) := ⟨_, rfl⟩
      have HVb := hid (HV.out V hV).1
      have HVx := hid (HV.out V hV).2
      rw [← hV, ← hX]
      rw [← hX] at HVx
      have HXw := hid hX
      clear HV hV b0 b1 b2 b3 b4 b5 b6 b7 bl z0 zl hX
      have HSt : Hid (∀ W, Below wr.heap.size wr W → W.cell? ⟨tb, 0, none⟩ = some (.pointer (some ⟨pb, 0, none⟩)) ∧ W.cell? ⟨pb, 7, none⟩ = some (.int .i64 x.id) ∧ W.cell? ⟨pb, 0, none⟩ = some (.int .i64 x.vw) ∧ tb < W.heap.size ∧ pb < W.heap.size) := hid fun W hW => by
        have h := HR.out.below hW
        obtain ⟨⟨c0, -⟩, tl, -⟩ := h.t.rd
        obtain ⟨⟨c1, -⟩, ⟨c7, -⟩, pl, -⟩ := h.p.rd
        exact ⟨c0, c7, c1, tl, pl⟩
      have HSx : Hid (∀ W, Below wr.heap.size wr W → W.heap[X]? ≠ none → (∃ cs, W.heap[X]? = some (.cells cs 41 (0, 0))) → W.frozen? ⟨X, 1, none⟩ = false ∧ W.frozen? ⟨X, 2, none⟩ = false ∧ W.frozen? ⟨X, 3, none⟩ = false ∧ X < W.heap.size) := hid fun W _ _ ⟨cs, h⟩ => ⟨Lib.frozen_of_heap h 1, Lib.frozen_of_heap h 2, Lib.frozen_of_heap h 3, lt_of_block h⟩
      have HK : Hid (∀ (W : World) (k : Nat) (v : Value), W.cell? ⟨tb, 0, none⟩ = some (.pointer (some ⟨pb, 0, none⟩)) ∧ W.cell? ⟨pb, 7, none⟩ = some (.int .i64 x.id) ∧ W.cell? ⟨pb, 0, none⟩ = some (.int .i64 x.vw) ∧ tb < W.heap.size ∧ pb < W.heap.size ∧ W.frozen? ⟨X, 1, none⟩ = false ∧ W.frozen? ⟨X, 2, none⟩ = false ∧ W.frozen? ⟨X, 3, none⟩ = false ∧ X < W.heap.size → (W.setCell ⟨X, k, none⟩ v).cell? ⟨tb, 0, none⟩ = some (.pointer (some ⟨pb, 0, none⟩)) ∧ (W.setCell ⟨X, k, none⟩ v).cell? ⟨pb, 7, none⟩ = some (.int .i64 x.id) ∧ (W.setCell ⟨X, k, none⟩ v).cell? ⟨pb, 0, none⟩ = some (.int .i64 x.vw) ∧ tb < (W.setCell ⟨X, k, none⟩ v).heap.size ∧ pb < (W.setCell ⟨X, k, none⟩ v).heap.size ∧ (W.setCell ⟨X, k, none⟩ v).frozen? ⟨X, 1, none⟩ = false ∧ (W.setCell ⟨X, k, none⟩ v).frozen? ⟨X, 2, none⟩ = false ∧ (W.setCell ⟨X, k, none⟩ v).frozen? ⟨X, 3, none⟩ = false ∧ X < (W.setCell ⟨X, k, none⟩ v).heap.size) := hid fun W k v ⟨h1, h2, h3, h4, h5, h6, h7, h8, h9⟩ => by
        have htl := (HSt.out wr (Below.refl _ _)).2.2.2.1
        have hpl := (HSt.out wr (Below.refl _ _)).2.2.2.2
        have hx := HXw.out
        have n1 : tb ≠ X := by omega
        have n2 : pb ≠ X := by omega
        have hz : (W.setCell ⟨X, k, none⟩ v).heap.size = W.heap.size := by simp [World.setCell]
        refine ⟨?_, ?_, ?_, by omega, by omega, by simpa using h6, by simpa using h7, by simpa using h8, by omega⟩
        · rw [World.cell?_setCell_far _ _ _ _ (fun e => n1 e.symm)]; exact h1
        · rw [World.cell?_setCell_far _ _ _ _ (fun e => n2 e.symm)]; exact h2
        · rw [World.cell?_setCell_far _ _ _ _ (fun e => n2 e.symm)]; exact h3
      have h0 : V.drew.cell? ⟨tb, 0, none⟩ = some (.pointer (some ⟨pb, 0, none⟩)) ∧ V.drew.cell? ⟨pb, 7, none⟩ = some (.int .i64 x.id) ∧ V.drew.cell? ⟨pb, 0, none⟩ = some (.int .i64 x.vw) ∧ tb < V.drew.heap.size ∧ pb < V.drew.heap.size ∧ V.drew.frozen? ⟨X, 1, none⟩ = false ∧ V.drew.frozen? ⟨X, 2, none⟩ = false ∧ V.drew.frozen? ⟨X, 3, none⟩ = false ∧ X < V.drew.heap.size := by
        obtain ⟨g1, g2, g3, g4, g5⟩ := HSt.out V.drew HVb.out.drew
        have hh : V.drew.heap[X]? = _ := HVx.out
        exact ⟨g1, g2, g3, g4, g5, Lib.frozen_of_heap hh 1, Lib.frozen_of_heap hh 2, Lib.frozen_of_heap hh 3, lt_of_block hh⟩
      clear HSx
      obtain ⟨y0, y1, y2, y3, y4, y5, y6, y7, y8⟩ := h0
      have hh : V.drew.heap[X]? = _ := HVx.out
      have x1 : V.drew.cell? ⟨X, 1, none⟩ = some (.int .i64 fr) := Lib.cell_of_heap hh 1
      have x2 : V.drew.cell? ⟨X, 2, none⟩ = some (.int .i64 tt) := Lib.cell_of_heap hh 2
      have x3 : V.drew.cell? ⟨X, 3, none⟩ = some (.int .i64 vw) := Lib.cell_of_heap hh 3
      have n1 : tb ≠ X := by have := (HSt.out wr (Below.refl _ _)).2.2.2.1; have := HXw.out; omega
      have n2 : pb ≠ X := by have := (HSt.out wr (Below.refl _ _)).2.2.2.2; have := HXw.out; omega
      have n3 : X ≠ tb := n1.symm
      have n4 : X ≠ pb := n2.symm
      have hv : V.heap[X]? = _ := HVx.out
      have v1 : V.cell? ⟨X, 1, none⟩ = some (.int .i64 fr) := Lib.cell_of_heap hv 1
      have v2 : V.cell? ⟨X, 2, none⟩ = some (.int .i64 tt) := Lib.cell_of_heap hv 2
      have v3 : V.cell? ⟨X, 3, none⟩ = some (.int .i64 vw) := Lib.cell_of_heap hv 3
      have v4 : V.frozen? ⟨X, 1, none⟩ = false := Lib.frozen_of_heap hv 1
      have v5 : V.frozen? ⟨X, 2, none⟩ = false := Lib.frozen_of_heap hv 2
      have v6 : V.frozen? ⟨X, 3, none⟩ = false := Lib.frozen_of_heap hv 3
      have v7 : X < V.heap.size := lt_of_block hv
      obtain ⟨g1, g2, g3, g4, g5⟩ := HSt.out V HVb.out
      clear hh hv HK
      have HD : Hid (∀ W5, W5 = (((V.setCell ⟨X, 1, none⟩ (.int .i64 x.id)).setCell ⟨X, 2, none⟩ (.int .i64 tid)).setCell ⟨X, 3, none⟩ (.int .i64 x.vw)).drew → Below wr.heap.size wr W5 ∧ W5.heap[X]? = some (.cells #[.int .i64 kd, .int .i64 x.id, .int .i64 tid, .int .i64 x.vw, .int .i64 op, .int .i64 cm, .int .i64 nm, .slice ka k kc] 41 (0, 0))) := hid fun W5 hW => by
        have hx := HXw.out
        rw [hW]
        refine ⟨(((HVb.out.setCell (by simp; omega) _).setCell (by simp; omega) _).setCell (by simp; omega) _).drew, ?_⟩
        exact heap_setCell_same _ _ _ _ _ _ (heap_setCell_same _ _ _ _ _ _ (heap_setCell_same _ _ _ _ _ _ HVx.out))
      -- behind the copy
      have HE5 : Hid (∀ W5, Below wr.heap.size wr W5 → W5.heap[X]? = some (.cells #[.int .i64 kd, .int .i64 x.id, .int .i64 tid, .int .i64 x.vw, .int .i64 op, .int .i64 cm, .int .i64 nm, .slice ka k kc] 41 (0, 0)) → (W5.cell? ⟨w.heap.size, 7, none⟩ = some (.slice ka k kc) ∧ w.heap.size < W5.heap.size) ∧ Calls Try.prog 26 #[.slice ka k kc] W5 fun e W6 => ∃ a3 c3, e = .returned (.slice a3 k c3) ∧ Hid (Below wr.heap.size wr W6 ∧ W6.heap[X]? = some (.cells #[.int .i64 kd, .int .i64 x.id, .int .i64 tid, .int .i64 x.vw, .int .i64 op, .int .i64 cm, .int .i64 nm, .slice ka k kc] 41 (0, 0)))) := hid fun W5 h5 hx5 => by
        have hM := HR.out.below h5
        have hb := hM.b
        rw [HMs.out] at hb
        refine ⟨⟨Lib.cell_of_heap hb 7, lt_of_block hb⟩, (clone18_any ka k kc es W5 (HEs.out W5 hM.g) hl H1.out hk).mono fun e W6 ⟨⟨v1, e1, r1⟩, b1⟩ => ?_⟩
        obtain ⟨a3, c3, rfl, -⟩ := row_form r1
        exact ⟨a3, c3, e1, hid ⟨h5.trans (b1.mono h5.size), (b1.block _ (lt_of_block hx5)).trans hx5⟩⟩
      have HF : Hid (∀ W6 W7 a3 c3, Hid (Below wr.heap.size wr W6 ∧ W6.heap[X]? = some (.cells #[.int .i64 kd, .int .i64 x.id, .int .i64 tid, .int .i64 x.vw, .int .i64 op, .int .i64 cm, .int .i64 nm, .slice ka k kc] 41 (0, 0))) → W7 = W6.setCell ⟨X, 7, none⟩ (.slice a3 k c3) → (W7.cell? ⟨X, 0, none⟩ = some (.int .i64 kd) ∧ W7.cell? ⟨X, 1, none⟩ = some (.int .i64 x.id) ∧ W7.cell? ⟨X, 2, none⟩ = some (.int .i64 tid) ∧ W7.cell? ⟨X, 3, none⟩ = some (.int .i64 x.vw) ∧ W7.cell? ⟨X, 4, none⟩ = some (.int .i64 op) ∧ W7.cell? ⟨X, 5, none⟩ = some (.int .i64 cm) ∧ W7.cell? ⟨X, 6, none⟩ = some (.int .i64 nm) ∧ W7.cell? ⟨X, 7, none⟩ = some (.slice a3 k c3) ∧ X < W7.heap.size) ∧ (W7.cell? ⟨tb, 2, none⟩ = some (.slice a (m + i) c) ∧ tb < W7.heap.size) ∧ Hid (TM tb pb base w.heap.size x nv lv sv dv mv (.slice a0 m ac) (.slice a (m + i) c) (m + i) ms xs w W7 ∧ base ≤ W7.heap.size)) := hid fun W6 W7 a3 c3 ⟨h1, h2⟩ hW => by
        have hx := HXw.out
        have hb7 : Below wr.heap.size wr W7 := by rw [hW]; exact h1.setCell (by simp; omega) _
        have x7 : W7.heap[X]? = some (.cells #[.int .i64 kd, .int .i64 x.id, .int .i64 tid, .int .i64 x.vw, .int .i64 op, .int .i64 cm, .int .i64 nm, .slice a3 k c3] 41 (0, 0)) := by rw [hW]; exact heap_setCell_same _ _ _ _ _ _ h2
        have hM := HR.out.below hb7
        obtain ⟨⟨-, -, t2⟩, tl, -⟩ := hM.t.rd
        exact ⟨⟨Lib.cell_of_heap x7 0, Lib.cell_of_heap x7 1, Lib.cell_of_heap x7 2, Lib.cell_of_heap x7 3, Lib.cell_of_heap x7 4, Lib.cell_of_heap x7 5, Lib.cell_of_heap x7 6, Lib.cell_of_heap x7 7, lt_of_block x7⟩, ⟨t2, tl⟩, hid ⟨hM, Nat.le_trans hb hM.g.size⟩⟩
      go_region_law (fail)
      all_goals
        obtain ⟨W5, hW5⟩ : ∃ W5, W5 = (((V.setCell ⟨X, 1, none⟩ (.int .i64 x.id)).setCell ⟨X, 2, none⟩ (.int .i64 tid)).setCell ⟨X, 3, none⟩ (.int .i64 x.vw)).drew := ⟨_, rfl⟩
        obtain ⟨h5, hx5⟩ := HD.out W5 hW5
        rw [← hW5]
        obtain ⟨⟨p7, pl7⟩, HCl⟩ := HE5.out W5 h5 hx5
        replace HCl := hid HCl
        clear hW5 HD HE5 h5 hx5 y0 y1 y2 y3 y4 y5 y6 y7 y8 x1 x2 x3 v1 v2 v3 v4 v5 v6 v7 g1 g2 g3 g4 g5 HVb HVx
        go_upto_region 7 with (first
          | (go_at_call 26; refine HCl.out.mono ?_; clear HCl; rintro e W6 ⟨a3, c3, rfl, h6⟩; have q6 : W6.frozen? ⟨X, 7, none⟩ = false ∧ X < W6.heap.size ∧ W6.cell? ⟨X, 7, none⟩ = some (.slice ka k kc) := ⟨Lib.frozen_of_heap h6.out.2 7, lt_of_block h6.out.2, Lib.cell_of_heap h6.out.2 7⟩; obtain ⟨q61, q62, q63⟩ := q6)
          | fail)
        obtain ⟨W7, hW7⟩ : ∃ W7, W7 = W6.setCell ⟨X, 7, none⟩ (.slice a3 k c3) := ⟨_, rfl⟩
        rw [← hW7]
        obtain ⟨⟨x0, x1, x2, x3, x4, x5, x6, x7, xl⟩, ⟨t2, tl⟩, HM⟩ := HF.out W6 W7 a3 c3 h6 hW7
        obtain ⟨ys, r7⟩ := HM.out.1.r
        have hml : m + i ≤ 100007 := by omega
        have hbs := HM.out.2
        clear hW7 h6 HF q61 q62 q63 p7 pl7
        go_region_law (first
          | (refine step_appN _ rfl (.tmp 44) (.tmp 46) 33 rfl elemN_msg18 base (.slice a (m + i) c) (m + i) (xs ++ ys) rfl (World.ownsRow.alloc (World.ownsRow.drew r7) _) _ rfl 1 [.int .i64 kd, .int .i64 x.id, .int .i64 tid, .int .i64 x.vw, .int .i64 op, .int .i64 cm, .int .i64 nm, .slice a3 k c3] (.inr ⟨⟨_, 0, none⟩, 1, rfl, World.news_of_block (heap_alloc_new _ _)⟩) rfl (by simp [Value.oneCell']) (by unfold maxLen; omega) (by omega) (by simp; omega) ?_; intro v8 W8 hr8 hs8; obtain ⟨a8, c8, e8, q8, -⟩ := row_form hr8; subst e8; rw [List.append_assoc] at hr8; obtain ⟨⟨d0, d1, d2⟩, dM⟩ := ((HM.out.1.below (below_drew18 W7)).below ((Below.refl _ _).alloc (Nat.le_refl _) _)).app hr8 hs8; have HN := hid dM; clear hr8 hs8 dM r7)
          | fail)
        all_goals
          go_wp2_with fail
          exact ⟨⟨i + 1, a8, c8, by go_num, by omega, by omega, HN.out⟩, by simp [intOf]; omega⟩
    · obtain rfl : i = q := by omega
      go_wp2_with fail
      go_end0
      obtain ⟨t, p, ⟨ys, r⟩, -, g, n, -⟩ := HR.out
      exact ⟨rfl, a, c, ys, hid ⟨t, p, r, g, n⟩⟩
end Go.Proofs.Ytaonchdpnllhpaa
