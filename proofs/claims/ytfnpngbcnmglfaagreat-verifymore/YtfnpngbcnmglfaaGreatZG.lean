/- Layer 10: verify.Of of any script. -/
import Derived.Test.YtfnpngbcnmglfaaGreatZF
import Derived.Test.YtfnpngbcnmglfaaGreatGG
namespace Go.Proofs.YtfnpngbcnmglfaaGreat
open Go.RowKit
theorem load_rep {w : World} {b : Nat} {x0 x1 x2 x3 x4 x5 x6 : Value} (h0 : w.cell? ⟨b, 0, none⟩ = some x0) (h1 : w.cell? ⟨b, 1, none⟩ = some x1) (h2 : w.cell? ⟨b, 2, none⟩ = some x2) (h3 : w.cell? ⟨b, 3, none⟩ = some x3) (h4 : w.cell? ⟨b, 4, none⟩ = some x4) (h5 : w.cell? ⟨b, 5, none⟩ = some x5) (h6 : w.cell? ⟨b, 6, none⟩ = some x6) : (loadVar 30 ⟨b, 0, none⟩).run Tryz.prog w = .ok (.agg #[x0, x1, x2, x3, x4, x5, x6]) w := by
  simp [loadVar, go_sem, h0, h1, h2, h3, h4, h5, h6]
/-- Seven cells that are written one behind the other. -/
def set7 (W : World) (b : Nat) (x0 x1 x2 x3 x4 x5 x6 : Value) : World := ((((((W.setCell ⟨b, 0, none⟩ x0).setCell ⟨b, 1, none⟩ x1).setCell ⟨b, 2, none⟩ x2).setCell ⟨b, 3, none⟩ x3).setCell ⟨b, 4, none⟩ x4).setCell ⟨b, 5, none⟩ x5).setCell ⟨b, 6, none⟩ x6
theorem set7_blk {W : World} {b : Nat} (h : W.heap[b]? = some (.cells zero7 30 (0, 0))) (x0 x1 x2 x3 x4 x5 x6 : Value) : (set7 W b x0 x1 x2 x3 x4 x5 x6).heap[b]? = some (.cells #[x0, x1, x2, x3, x4, x5, x6] 30 (0, 0)) := by
  unfold set7
  have e0 := heap_setCell_same W b 0 _ _ x0 h
  have e1 := heap_setCell_same _ b 1 _ _ x1 e0
  have e2 := heap_setCell_same _ b 2 _ _ x2 e1
  have e3 := heap_setCell_same _ b 3 _ _ x3 e2
  have e4 := heap_setCell_same _ b 4 _ _ x4 e3
  have e5 := heap_setCell_same _ b 5 _ _ x5 e4
  have e6 := heap_setCell_same _ b 6 _ _ x6 e5
  rw [e6]
  rfl
theorem ret_rep {fn : Func} {R : Ending → World → Prop} {a : Act} {t u : Tmp} {W : World} {b : Nat} {x0 x1 x2 x3 x4 x5 x6 z : Value} (h : fn.results = #[.cell t 30, .tmp u]) (ha : a.tmps[t]?.getD undef = .pointer (some ⟨b, 0, none⟩)) (hd : a.defers = []) (hu : a.tmps[u]?.getD undef = z) (hb : W.heap[b]? = some (.cells zero7 30 (0, 0))) (hR : R (.returned (.tuple #[.agg #[x0, x1, x2, x3, x4, x5, x6], z])) (set7 W b x0 x1 x2 x3 x4 x5 x6)) : bodyPost Tryz.prog fn R .ret a (set7 W b x0 x1 x2 x3 x4 x5 x6) := by
  have e := set7_blk hb x0 x1 x2 x3 x4 x5 x6
  have hl := load_rep (x0 := x0) (x1 := x1) (x2 := x2) (x3 := x3) (x4 := x4) (x5 := x5) (x6 := x6) (Lib.cell_of_heap e 0) (Lib.cell_of_heap e 1) (Lib.cell_of_heap e 2) (Lib.cell_of_heap e 3) (Lib.cell_of_heap e 4) (Lib.cell_of_heap e 5) (Lib.cell_of_heap e 6)
  have h1 := results_mix4 h _ _ _ _ _ ha hl
  rw [hu] at h1
  exact bodyPost_ret h1 hd hR
theorem RowN.set7 {B b : Nat} {W : World} {a : Option Addr} {ns : List Int} {x0 x1 x2 x3 x4 x5 x6 : Value} (h : RowN B W a ns) (hb : b < B) : RowN B (set7 W b x0 x1 x2 x3 x4 x5 x6) a ns := ((((((h.set hb).set hb).set hb).set hb).set hb).set hb).set hb
theorem own_set7 {W : World} {base b : Nat} {s : Scr} {v0 v1 x0 x1 x2 x3 x4 x5 x6 : Value} (h : ScrOwn W base s v0 v1) (hb : b < base) : ScrOwn (set7 W b x0 x1 x2 x3 x4 x5 x6) base s v0 v1 := own_set (own_set (own_set (own_set (own_set (own_set (own_set h hb) hb) hb) hb) hb) hb) hb
theorem below_set7 {B b : Nat} {w W : World} {x0 x1 x2 x3 x4 x5 x6 : Value} (h : Below B w W) (hb : B ≤ b) : Below B w (set7 W b x0 x1 x2 x3 x4 x5 x6) := by
  unfold set7
  exact ((((((h.setCell (p := ⟨b, 0, none⟩) hb _).setCell (p := ⟨b, 1, none⟩) hb _).setCell (p := ⟨b, 2, none⟩) hb _).setCell (p := ⟨b, 3, none⟩) hb _).setCell (p := ⟨b, 4, none⟩) hb _).setCell (p := ⟨b, 5, none⟩) hb _).setCell (p := ⟨b, 6, none⟩) hb _
/-- What a report holds. -/
structure RepIs (s : Scr) (B : Nat) (W : World) (v0 v1 : Value) (sa da oa : Option Addr) (g : Nat) (d : Nat → Nat) (o : List Nat) : Prop where
  right : s.right = true
  all : (allS s).1 = 0
  tot : (totS s).1 = 0
  ord : ordS s.funcs.length (gF s) = some o
  own : ∃ base, B ≤ base ∧ ScrOwn W base s v0 v1
  st : RowN B W sa (allS s).2
  dp : RowN B W da (deepL s d)
  dpi : DeepIs s.funcs.length (gF s) d
  od : RowN B W oa (rowI o)
  rm : RowN B W (some ⟨g, 0, none⟩) (roomsS s (allS s).2 o)
def OfEnd (s : Scr) (w : World) (e : Ending) (w' : World) : Prop := Below w.heap.size w w' ∧ ((ofE s ≠ 0 ∧ e = .returned (.tuple #[.agg zero7, .int .i64 (ofE s)])) ∨
  (ofE s = 0 ∧ ∃ v0 v1 sa sc da dc oa oc g d o, e = .returned (.tuple #[.agg #[v0, v1, .int .i64 (totS s).2, .slice sa s.funcs.length sc, .slice da s.funcs.length dc, .slice oa s.funcs.length oc, .slice (some ⟨g, 0, none⟩) s.funcs.length s.funcs.length], .int .i64 0]) ∧ RepIs s (w.heap.size + 6) w' v0 v1 sa da oa g d o))
theorem ofs_done {s : Scr} {w W : World} {B rb : Nat} {D : List Value} (hB : B = w.heap.size + 6) (hrb : w.heap.size ≤ rb) (hrB : rb < B) (hb : Below w.heap.size w W) (hI : Inv10 s B 7 D W) : ∃ x0 y0 x1 y1 sa sc da dc oa oc g, D = [.slice x0 s.consts.length y0, .slice x1 s.funcs.length y1, .int .i64 (totS s).2, .slice sa s.funcs.length sc, .slice da s.funcs.length dc, .slice oa s.funcs.length oc, .slice (some ⟨g, 0, none⟩) s.funcs.length s.funcs.length, D.getD 7 undef] ∧ OfEnd s w (.returned (.tuple #[.agg #[.slice x0 s.consts.length y0, .slice x1 s.funcs.length y1, .int .i64 (totS s).2, .slice sa s.funcs.length sc, .slice da s.funcs.length dc, .slice oa s.funcs.length oc, .slice (some ⟨g, 0, none⟩) s.funcs.length s.funcs.length], .int .i64 0])) (set7 W rb (.slice x0 s.consts.length y0) (.slice x1 s.funcs.length y1) (.int .i64 (totS s).2) (.slice sa s.funcs.length sc) (.slice da s.funcs.length dc) (.slice oa s.funcs.length oc) (.slice (some ⟨g, 0, none⟩) s.funcs.length s.funcs.length)) := by
  obtain ⟨hr, v0, v1, base, q0, q1, hbase, hO⟩ := hI.p1 (by omega)
  obtain ⟨ha, sa, sc, q3, hRs⟩ := hI.p2 (by omega)
  obtain ⟨o, oa, oc, ho, q5, hRo⟩ := hI.p3 (by omega)
  obtain ⟨ht, q2⟩ := hI.p4 (by omega)
  obtain ⟨da, dc, d, q4, hRd, hDi⟩ := hI.p5 (by omega)
  obtain ⟨g, o', ho', q6, hRr⟩ := hI.p7 (by omega)
  rw [ho] at ho'
  cases ho'
  obtain ⟨hol, _⟩ := ord_told (n := s.funcs.length) (g := gF s) ho
  rw [hol] at q5
  rw [(all_bounds hr ha).1] at q3
  obtain ⟨⟨x0, y0, z0, _⟩, ⟨x1, y1, z1, _⟩⟩ := own_is hO
  subst z0; subst z1
  refine ⟨x0, y0, x1, y1, sa, sc, da, dc, oa, oc, g, ?_, below_set7 hb hrb, .inr ⟨?_, _, _, sa, sc, da, dc, oa, oc, g, d, o, rfl, ?_⟩⟩
  · match D, hI.len with
    | [d0, d1, d2, d3, d4, d5, d6, d7], _ =>
      simp only [List.getElem?_cons_zero, List.getElem?_cons_succ, Option.some.injEq] at q0 q1 q2 q3 q4 q5 q6
      subst q0 q1 q2 q3 q4 q5 q6
      rfl
  · rw [ofE, if_pos hr, if_pos ha, ho]
    simpa using ht
  · subst hB
    exact ⟨hr, ha, ht, ho, ⟨base, hbase, own_set7 hO (by omega)⟩, hRs.set7 hrB, hRd.set7 hrB, hDi, hRo.set7 hrB, hRr.set7 hrB⟩
theorem ofs_bad {s : Scr} {w W : World} {rb : Nat} (h : ofE s ≠ 0) (hrb : w.heap.size ≤ rb) (hb : Below w.heap.size w W) : OfEnd s w (.returned (.tuple #[.agg #[.slice none 0 0, .slice none 0 0, .int .i64 0, .slice none 0 0, .slice none 0 0, .slice none 0 0, .slice none 0 0], .int .i64 (ofE s)])) (set7 W rb (.slice none 0 0) (.slice none 0 0) (.int .i64 0) (.slice none 0 0) (.slice none 0 0) (.slice none 0 0) (.slice none 0 0)) := ⟨below_set7 hb hrb, .inl ⟨h, rfl⟩⟩
/-- Cells that may be written. -/
def May7 (W : World) (b : Nat) : Prop := (∃ u, W.cell? ⟨b, 0, none⟩ = some u) ∧ (∃ u, W.cell? ⟨b, 1, none⟩ = some u) ∧ (∃ u, W.cell? ⟨b, 2, none⟩ = some u) ∧ (∃ u, W.cell? ⟨b, 3, none⟩ = some u) ∧ (∃ u, W.cell? ⟨b, 4, none⟩ = some u) ∧ (∃ u, W.cell? ⟨b, 5, none⟩ = some u) ∧ (∃ u, W.cell? ⟨b, 6, none⟩ = some u)
set_option maxRecDepth 100000 in
set_option maxHeartbeats 4000000 in
theorem of_any (s : Scr) (V0 V1 : Value) (w : World) (hs : ScIs w.cell? s V0 V1) (hsf : s.fits) : Calls Tryz.prog 18 #[.agg #[V0, V1]] w (OfEnd s w) := by
  obtain ⟨⟨a0, c0, rfl, n0⟩, ⟨a1, c1, rfl, n1⟩⟩ := hs
  have hs : ScIs w.cell? s (.slice a0 s.consts.length c0) (.slice a1 s.funcs.length c1) := ⟨⟨a0, c0, rfl, n0⟩, ⟨a1, c1, rfl, n1⟩⟩
  obtain ⟨W6, hW6⟩ : ∃ W6, W6 = ((((((w.alloc (.cells #[.slice a0 s.consts.length c0, .slice a1 s.funcs.length c1] 27)).alloc (.cells #[.slice none 0 0, .slice none 0 0, .int .i64 0, .slice none 0 0, .slice none 0 0, .slice none 0 0, .slice none 0 0] 30)).alloc (.cells #[.slice none 0 0, .slice none 0 0, .int .i64 0, .slice none 0 0, .slice none 0 0, .slice none 0 0, .slice none 0 0, .slice none 0 0] 70)).alloc (.cells #[.slice a0 s.consts.length c0, .slice a1 s.funcs.length c1] 27)).alloc (.cells #[.pointer (some ⟨w.heap.size + 1 + 1, 0, none⟩)] 73)).alloc (.cells (stepV (w.heap.size + 1 + 1 + 1) (w.heap.size + 1 + 1 + 1 + 1)).toArray 74)) := ⟨_, rfl⟩
  have hstart : Hid (St10 w (w.heap.size + 1 + 1) (w.heap.size + 1 + 1 + 1) (w.heap.size + 1 + 1 + 1 + 1) (.slice a0 s.consts.length c0) (.slice a1 s.funcs.length c1) [.slice none 0 0, .slice none 0 0, .int .i64 0, .slice none 0 0, .slice none 0 0, .slice none 0 0, .slice none 0 0, .slice none 0 0] W6 ∧ W6.heap[w.heap.size + 1]? = some (.cells zero7 30 (0, 0)) ∧ Inv10 s (w.heap.size + 6) 0 [.slice none 0 0, .slice none 0 0, .int .i64 0, .slice none 0 0, .slice none 0 0, .slice none 0 0, .slice none 0 0, .slice none 0 0] W6 ∧ w.heap.size + 6 ≤ W6.heap.size) := hid9 (by
    obtain ⟨u1, hu1⟩ : ∃ u, u = w.alloc (.cells #[.slice a0 s.consts.length c0, .slice a1 s.funcs.length c1] 27) := ⟨_, rfl⟩
    obtain ⟨u2, hu2⟩ : ∃ u, u = u1.alloc (.cells #[.slice none 0 0, .slice none 0 0, .int .i64 0, .slice none 0 0, .slice none 0 0, .slice none 0 0, .slice none 0 0] 30) := ⟨_, rfl⟩
    obtain ⟨u3, hu3⟩ : ∃ u, u = u2.alloc (.cells #[.slice none 0 0, .slice none 0 0, .int .i64 0, .slice none 0 0, .slice none 0 0, .slice none 0 0, .slice none 0 0, .slice none 0 0] 70) := ⟨_, rfl⟩
    obtain ⟨u4, hu4⟩ : ∃ u, u = u3.alloc (.cells #[.slice a0 s.consts.length c0, .slice a1 s.funcs.length c1] 27) := ⟨_, rfl⟩
    obtain ⟨u5, hu5⟩ : ∃ u, u = u4.alloc (.cells #[.pointer (some ⟨w.heap.size + 1 + 1, 0, none⟩)] 73) := ⟨_, rfl⟩
    rw [← hu1, ← hu2, ← hu3, ← hu4, ← hu5] at hW6
    have z1 : u1.heap.size = w.heap.size + 1 := by rw [hu1]; simp
    have z2 : u2.heap.size = w.heap.size + 1 + 1 := by rw [hu2]; simp [z1]
    have z3 : u3.heap.size = w.heap.size + 1 + 1 + 1 := by rw [hu3]; simp [z2]
    have z4 : u4.heap.size = w.heap.size + 1 + 1 + 1 + 1 := by rw [hu4]; simp [z3]
    have z5 : u5.heap.size = w.heap.size + 1 + 1 + 1 + 1 + 1 := by rw [hu5]; simp [z4]
    have z6 : W6.heap.size = w.heap.size + 1 + 1 + 1 + 1 + 1 + 1 := by rw [hW6]; simp [z5]
    have b1 : Below w.heap.size w u1 := by rw [hu1]; exact (Below.refl _ _).alloc (Nat.le_refl _) _
    have b2 : Below u1.heap.size u1 u2 := by rw [hu2]; exact (Below.refl _ _).alloc (Nat.le_refl _) _
    have b3 : Below u2.heap.size u2 u3 := by rw [hu3]; exact (Below.refl _ _).alloc (Nat.le_refl _) _
    have b4 : Below u3.heap.size u3 u4 := by rw [hu4]; exact (Below.refl _ _).alloc (Nat.le_refl _) _
    have b5 : Below u4.heap.size u4 u5 := by rw [hu5]; exact (Below.refl _ _).alloc (Nat.le_refl _) _
    have b6 : Below u5.heap.size u5 W6 := by rw [hW6]; exact (Below.refl _ _).alloc (Nat.le_refl _) _
    have k5 : Below u4.heap.size u4 W6 := b5.trans (b6.mono b5.size)
    have k4 : Below u3.heap.size u3 W6 := b4.trans (k5.mono b4.size)
    have k3 : Below u2.heap.size u2 W6 := b3.trans (k4.mono b3.size)
    have k2 : Below u1.heap.size u1 W6 := b2.trans (k3.mono b2.size)
    have k1 : Below w.heap.size w W6 := b1.trans (k2.mono b1.size)
    have g2 : W6.heap[w.heap.size + 1]? = some (.cells zero7 30 (0, 0)) := by
      rw [k3.block _ (by omega), hu2, ← z1]; exact heap_alloc_new _ _
    have g3 : W6.heap[w.heap.size + 1 + 1]? = some (.cells #[.slice none 0 0, .slice none 0 0, .int .i64 0, .slice none 0 0, .slice none 0 0, .slice none 0 0, .slice none 0 0, .slice none 0 0] 70 (0, 0)) := by
      rw [k4.block _ (by omega), hu3, ← z2]; exact heap_alloc_new _ _
    have g4 : W6.heap[w.heap.size + 1 + 1 + 1]? = some (.cells #[.slice a0 s.consts.length c0, .slice a1 s.funcs.length c1] 27 (0, 0)) := by
      rw [k5.block _ (by omega), hu4, ← z3]; exact heap_alloc_new _ _
    have g5 : W6.heap[w.heap.size + 1 + 1 + 1 + 1]? = some (.cells #[.pointer (some ⟨w.heap.size + 1 + 1, 0, none⟩)] 73 (0, 0)) := by
      rw [b6.block _ (by omega), hu5, ← z4]; exact heap_alloc_new _ _
    have g6 : W6.heap[w.heap.size + 1 + 1 + 1 + 1 + 1]? = some (.cells (stepV (w.heap.size + 1 + 1 + 1) (w.heap.size + 1 + 1 + 1 + 1)).toArray 74 (0, 0)) := by
      rw [hW6, ← z5]; exact heap_alloc_new _ _
    exact ⟨⟨k1, g3, g4, g5, g6, by omega, by omega, by omega, by omega⟩, g2, ⟨rfl, fun h => by omega, fun h => by omega, fun h => by omega, fun h => by omega, fun h => by omega, fun h => by omega, fun h => by omega, fun _ => rfl⟩, by omega⟩)
  have HG : Hid (∀ k D W, St10 w (w.heap.size + 1 + 1) (w.heap.size + 1 + 1 + 1) (w.heap.size + 1 + 1 + 1 + 1) (.slice a0 s.consts.length c0) (.slice a1 s.funcs.length c1) D W ∧ W.heap[w.heap.size + 1]? = some (.cells zero7 30 (0, 0)) ∧ Inv10 s (w.heap.size + 6) k D W ∧ w.heap.size + 6 ≤ W.heap.size → True) := hid9 fun _ _ _ _ => trivial
  have HG1 : Hid (∀ D W, St10 w (w.heap.size + 1 + 1) (w.heap.size + 1 + 1 + 1) (w.heap.size + 1 + 1 + 1 + 1) (.slice a0 s.consts.length c0) (.slice a1 s.funcs.length c1) D W ∧ W.heap[w.heap.size + 1]? = some (.cells zero7 30 (0, 0)) ∧ Inv10 s (w.heap.size + 6) 0 D W ∧ w.heap.size + 6 ≤ W.heap.size → Calls Tryz.prog 63 #[.pointer (some ⟨w.heap.size + 1 + 1 + 1, 0, none⟩), .pointer (some ⟨w.heap.size + 1 + 1 + 1 + 1, 0, none⟩)] W fun e W' => ∃ er, e = .returned (.int .i64 er) ∧ May7 W' (w.heap.size + 1) ∧ (∀ i, W'.frozen? ⟨w.heap.size + 1, i, none⟩ = false) ∧ Hid ((er ≠ 0 ∧ er = ofE s ∧ Below w.heap.size w W' ∧ W'.heap[w.heap.size + 1]? = some (.cells zero7 30 (0, 0))) ∨ (er = 0 ∧ ∃ D', St10 w (w.heap.size + 1 + 1) (w.heap.size + 1 + 1 + 1) (w.heap.size + 1 + 1 + 1 + 1) (.slice a0 s.consts.length c0) (.slice a1 s.funcs.length c1) D' W' ∧ W'.heap[w.heap.size + 1]? = some (.cells zero7 30 (0, 0)) ∧ Inv10 s (w.heap.size + 6) 1 D' W' ∧ w.heap.size + 6 ≤ W'.heap.size))) := hid9 fun D W ⟨h1, h2, h3, h4⟩ => (go1 s a0 a1 c0 c1 w (w.heap.size + 6) (w.heap.size + 1 + 1) (w.heap.size + 1 + 1 + 1) (w.heap.size + 1 + 1 + 1 + 1) (w.heap.size + 1) D W hs hsf h1 h3 h2 (by omega) (by omega) h4).mono fun e W' ⟨er, D', e1, q1, q2, q3⟩ => by
    refine ⟨er, e1, ⟨⟨_, Lib.cell_of_heap q2 0⟩, ⟨_, Lib.cell_of_heap q2 1⟩, ⟨_, Lib.cell_of_heap q2 2⟩, ⟨_, Lib.cell_of_heap q2 3⟩, ⟨_, Lib.cell_of_heap q2 4⟩, ⟨_, Lib.cell_of_heap q2 5⟩, ⟨_, Lib.cell_of_heap q2 6⟩⟩, fun i => Lib.frozen_of_heap q2 i, hid9 ?_⟩
    rcases q3 with ⟨q3, q4⟩ | ⟨q3, q4⟩
    · exact .inl ⟨q3, q4, q1.low, q2⟩
    · exact .inr ⟨q3, D', q1, q2, q4, by have := heap_lt q1.g; omega⟩
  have HG2 : Hid (∀ D W, St10 w (w.heap.size + 1 + 1) (w.heap.size + 1 + 1 + 1) (w.heap.size + 1 + 1 + 1 + 1) (.slice a0 s.consts.length c0) (.slice a1 s.funcs.length c1) D W ∧ W.heap[w.heap.size + 1]? = some (.cells zero7 30 (0, 0)) ∧ Inv10 s (w.heap.size + 6) 1 D W ∧ w.heap.size + 6 ≤ W.heap.size → Calls Tryz.prog 65 #[.pointer (some ⟨w.heap.size + 1 + 1 + 1, 0, none⟩), .pointer (some ⟨w.heap.size + 1 + 1 + 1 + 1, 0, none⟩)] W fun e W' => ∃ er, e = .returned (.int .i64 er) ∧ May7 W' (w.heap.size + 1) ∧ (∀ i, W'.frozen? ⟨w.heap.size + 1, i, none⟩ = false) ∧ Hid ((er ≠ 0 ∧ er = ofE s ∧ Below w.heap.size w W' ∧ W'.heap[w.heap.size + 1]? = some (.cells zero7 30 (0, 0))) ∨ (er = 0 ∧ ∃ D', St10 w (w.heap.size + 1 + 1) (w.heap.size + 1 + 1 + 1) (w.heap.size + 1 + 1 + 1 + 1) (.slice a0 s.consts.length c0) (.slice a1 s.funcs.length c1) D' W' ∧ W'.heap[w.heap.size + 1]? = some (.cells zero7 30 (0, 0)) ∧ Inv10 s (w.heap.size + 6) 2 D' W' ∧ w.heap.size + 6 ≤ W'.heap.size))) := hid9 fun D W ⟨h1, h2, h3, h4⟩ => (go2 s a0 a1 c0 c1 w (w.heap.size + 6) (w.heap.size + 1 + 1) (w.heap.size + 1 + 1 + 1) (w.heap.size + 1 + 1 + 1 + 1) (w.heap.size + 1) D W hs hsf h1 h3 h2 (by omega) (by omega) h4).mono fun e W' ⟨er, D', e1, q1, q2, q3⟩ => by
    refine ⟨er, e1, ⟨⟨_, Lib.cell_of_heap q2 0⟩, ⟨_, Lib.cell_of_heap q2 1⟩, ⟨_, Lib.cell_of_heap q2 2⟩, ⟨_, Lib.cell_of_heap q2 3⟩, ⟨_, Lib.cell_of_heap q2 4⟩, ⟨_, Lib.cell_of_heap q2 5⟩, ⟨_, Lib.cell_of_heap q2 6⟩⟩, fun i => Lib.frozen_of_heap q2 i, hid9 ?_⟩
    rcases q3 with ⟨q3, q4⟩ | ⟨q3, q4⟩
    · exact .inl ⟨q3, q4, q1.low, q2⟩
    · exact .inr ⟨q3, D', q1, q2, q4, by have := heap_lt q1.g; omega⟩
  have HG3 : Hid (∀ D W, St10 w (w.heap.size + 1 + 1) (w.heap.size + 1 + 1 + 1) (w.heap.size + 1 + 1 + 1 + 1) (.slice a0 s.consts.length c0) (.slice a1 s.funcs.length c1) D W ∧ W.heap[w.heap.size + 1]? = some (.cells zero7 30 (0, 0)) ∧ Inv10 s (w.heap.size + 6) 2 D W ∧ w.heap.size + 6 ≤ W.heap.size → Calls Tryz.prog 66 #[.pointer (some ⟨w.heap.size + 1 + 1 + 1, 0, none⟩), .pointer (some ⟨w.heap.size + 1 + 1 + 1 + 1, 0, none⟩)] W fun e W' => ∃ er, e = .returned (.int .i64 er) ∧ May7 W' (w.heap.size + 1) ∧ (∀ i, W'.frozen? ⟨w.heap.size + 1, i, none⟩ = false) ∧ Hid ((er ≠ 0 ∧ er = ofE s ∧ Below w.heap.size w W' ∧ W'.heap[w.heap.size + 1]? = some (.cells zero7 30 (0, 0))) ∨ (er = 0 ∧ ∃ D', St10 w (w.heap.size + 1 + 1) (w.heap.size + 1 + 1 + 1) (w.heap.size + 1 + 1 + 1 + 1) (.slice a0 s.consts.length c0) (.slice a1 s.funcs.length c1) D' W' ∧ W'.heap[w.heap.size + 1]? = some (.cells zero7 30 (0, 0)) ∧ Inv10 s (w.heap.size + 6) 3 D' W' ∧ w.heap.size + 6 ≤ W'.heap.size))) := hid9 fun D W ⟨h1, h2, h3, h4⟩ => (go3 s a0 a1 c0 c1 w (w.heap.size + 6) (w.heap.size + 1 + 1) (w.heap.size + 1 + 1 + 1) (w.heap.size + 1 + 1 + 1 + 1) (w.heap.size + 1) D W hs hsf h1 h3 h2 (by omega) (by omega) h4).mono fun e W' ⟨er, D', e1, q1, q2, q3⟩ => by
    refine ⟨er, e1, ⟨⟨_, Lib.cell_of_heap q2 0⟩, ⟨_, Lib.cell_of_heap q2 1⟩, ⟨_, Lib.cell_of_heap q2 2⟩, ⟨_, Lib.cell_of_heap q2 3⟩, ⟨_, Lib.cell_of_heap q2 4⟩, ⟨_, Lib.cell_of_heap q2 5⟩, ⟨_, Lib.cell_of_heap q2 6⟩⟩, fun i => Lib.frozen_of_heap q2 i, hid9 ?_⟩
    rcases q3 with ⟨q3, q4⟩ | ⟨q3, q4⟩
    · exact .inl ⟨q3, q4, q1.low, q2⟩
    · exact .inr ⟨q3, D', q1, q2, q4, by have := heap_lt q1.g; omega⟩
  have HG4 : Hid (∀ D W, St10 w (w.heap.size + 1 + 1) (w.heap.size + 1 + 1 + 1) (w.heap.size + 1 + 1 + 1 + 1) (.slice a0 s.consts.length c0) (.slice a1 s.funcs.length c1) D W ∧ W.heap[w.heap.size + 1]? = some (.cells zero7 30 (0, 0)) ∧ Inv10 s (w.heap.size + 6) 3 D W ∧ w.heap.size + 6 ≤ W.heap.size → Calls Tryz.prog 67 #[.pointer (some ⟨w.heap.size + 1 + 1 + 1, 0, none⟩), .pointer (some ⟨w.heap.size + 1 + 1 + 1 + 1, 0, none⟩)] W fun e W' => ∃ er, e = .returned (.int .i64 er) ∧ May7 W' (w.heap.size + 1) ∧ (∀ i, W'.frozen? ⟨w.heap.size + 1, i, none⟩ = false) ∧ Hid ((er ≠ 0 ∧ er = ofE s ∧ Below w.heap.size w W' ∧ W'.heap[w.heap.size + 1]? = some (.cells zero7 30 (0, 0))) ∨ (er = 0 ∧ ∃ D', St10 w (w.heap.size + 1 + 1) (w.heap.size + 1 + 1 + 1) (w.heap.size + 1 + 1 + 1 + 1) (.slice a0 s.consts.length c0) (.slice a1 s.funcs.length c1) D' W' ∧ W'.heap[w.heap.size + 1]? = some (.cells zero7 30 (0, 0)) ∧ Inv10 s (w.heap.size + 6) 4 D' W' ∧ w.heap.size + 6 ≤ W'.heap.size))) := hid9 fun D W ⟨h1, h2, h3, h4⟩ => (go4 s a0 a1 c0 c1 w (w.heap.size + 6) (w.heap.size + 1 + 1) (w.heap.size + 1 + 1 + 1) (w.heap.size + 1 + 1 + 1 + 1) (w.heap.size + 1) D W hs hsf h1 h3 h2 (by omega) (by omega) h4).mono fun e W' ⟨er, D', e1, q1, q2, q3⟩ => by
    refine ⟨er, e1, ⟨⟨_, Lib.cell_of_heap q2 0⟩, ⟨_, Lib.cell_of_heap q2 1⟩, ⟨_, Lib.cell_of_heap q2 2⟩, ⟨_, Lib.cell_of_heap q2 3⟩, ⟨_, Lib.cell_of_heap q2 4⟩, ⟨_, Lib.cell_of_heap q2 5⟩, ⟨_, Lib.cell_of_heap q2 6⟩⟩, fun i => Lib.frozen_of_heap q2 i, hid9 ?_⟩
    rcases q3 with ⟨q3, q4⟩ | ⟨q3, q4⟩
    · exact .inl ⟨q3, q4, q1.low, q2⟩
    · exact .inr ⟨q3, D', q1, q2, q4, by have := heap_lt q1.g; omega⟩
  have HG5 : Hid (∀ D W, St10 w (w.heap.size + 1 + 1) (w.heap.size + 1 + 1 + 1) (w.heap.size + 1 + 1 + 1 + 1) (.slice a0 s.consts.length c0) (.slice a1 s.funcs.length c1) D W ∧ W.heap[w.heap.size + 1]? = some (.cells zero7 30 (0, 0)) ∧ Inv10 s (w.heap.size + 6) 4 D W ∧ w.heap.size + 6 ≤ W.heap.size → Calls Tryz.prog 68 #[.pointer (some ⟨w.heap.size + 1 + 1 + 1, 0, none⟩), .pointer (some ⟨w.heap.size + 1 + 1 + 1 + 1, 0, none⟩)] W fun e W' => ∃ er, e = .returned (.int .i64 er) ∧ May7 W' (w.heap.size + 1) ∧ (∀ i, W'.frozen? ⟨w.heap.size + 1, i, none⟩ = false) ∧ Hid ((er ≠ 0 ∧ er = ofE s ∧ Below w.heap.size w W' ∧ W'.heap[w.heap.size + 1]? = some (.cells zero7 30 (0, 0))) ∨ (er = 0 ∧ ∃ D', St10 w (w.heap.size + 1 + 1) (w.heap.size + 1 + 1 + 1) (w.heap.size + 1 + 1 + 1 + 1) (.slice a0 s.consts.length c0) (.slice a1 s.funcs.length c1) D' W' ∧ W'.heap[w.heap.size + 1]? = some (.cells zero7 30 (0, 0)) ∧ Inv10 s (w.heap.size + 6) 5 D' W' ∧ w.heap.size + 6 ≤ W'.heap.size))) := hid9 fun D W ⟨h1, h2, h3, h4⟩ => (go5 s a0 a1 c0 c1 w (w.heap.size + 6) (w.heap.size + 1 + 1) (w.heap.size + 1 + 1 + 1) (w.heap.size + 1 + 1 + 1 + 1) (w.heap.size + 1) D W hs hsf h1 h3 h2 (by omega) (by omega) h4).mono fun e W' ⟨er, D', e1, q1, q2, q3⟩ => by
    refine ⟨er, e1, ⟨⟨_, Lib.cell_of_heap q2 0⟩, ⟨_, Lib.cell_of_heap q2 1⟩, ⟨_, Lib.cell_of_heap q2 2⟩, ⟨_, Lib.cell_of_heap q2 3⟩, ⟨_, Lib.cell_of_heap q2 4⟩, ⟨_, Lib.cell_of_heap q2 5⟩, ⟨_, Lib.cell_of_heap q2 6⟩⟩, fun i => Lib.frozen_of_heap q2 i, hid9 ?_⟩
    rcases q3 with ⟨q3, q4⟩ | ⟨q3, q4⟩
    · exact .inl ⟨q3, q4, q1.low, q2⟩
    · exact .inr ⟨q3, D', q1, q2, q4, by have := heap_lt q1.g; omega⟩
  have HG6 : Hid (∀ D W, St10 w (w.heap.size + 1 + 1) (w.heap.size + 1 + 1 + 1) (w.heap.size + 1 + 1 + 1 + 1) (.slice a0 s.consts.length c0) (.slice a1 s.funcs.length c1) D W ∧ W.heap[w.heap.size + 1]? = some (.cells zero7 30 (0, 0)) ∧ Inv10 s (w.heap.size + 6) 5 D W ∧ w.heap.size + 6 ≤ W.heap.size → Calls Tryz.prog 70 #[.pointer (some ⟨w.heap.size + 1 + 1 + 1, 0, none⟩), .pointer (some ⟨w.heap.size + 1 + 1 + 1 + 1, 0, none⟩)] W fun e W' => ∃ er, e = .returned (.int .i64 er) ∧ May7 W' (w.heap.size + 1) ∧ (∀ i, W'.frozen? ⟨w.heap.size + 1, i, none⟩ = false) ∧ Hid ((er ≠ 0 ∧ er = ofE s ∧ Below w.heap.size w W' ∧ W'.heap[w.heap.size + 1]? = some (.cells zero7 30 (0, 0))) ∨ (er = 0 ∧ ∃ D', St10 w (w.heap.size + 1 + 1) (w.heap.size + 1 + 1 + 1) (w.heap.size + 1 + 1 + 1 + 1) (.slice a0 s.consts.length c0) (.slice a1 s.funcs.length c1) D' W' ∧ W'.heap[w.heap.size + 1]? = some (.cells zero7 30 (0, 0)) ∧ Inv10 s (w.heap.size + 6) 6 D' W' ∧ w.heap.size + 6 ≤ W'.heap.size))) := hid9 fun D W ⟨h1, h2, h3, h4⟩ => (go6 s a0 a1 c0 c1 w (w.heap.size + 6) (w.heap.size + 1 + 1) (w.heap.size + 1 + 1 + 1) (w.heap.size + 1 + 1 + 1 + 1) (w.heap.size + 1) D W hs hsf h1 h3 h2 (by omega) (by omega) h4).mono fun e W' ⟨er, D', e1, q1, q2, q3⟩ => by
    refine ⟨er, e1, ⟨⟨_, Lib.cell_of_heap q2 0⟩, ⟨_, Lib.cell_of_heap q2 1⟩, ⟨_, Lib.cell_of_heap q2 2⟩, ⟨_, Lib.cell_of_heap q2 3⟩, ⟨_, Lib.cell_of_heap q2 4⟩, ⟨_, Lib.cell_of_heap q2 5⟩, ⟨_, Lib.cell_of_heap q2 6⟩⟩, fun i => Lib.frozen_of_heap q2 i, hid9 ?_⟩
    rcases q3 with ⟨q3, q4⟩ | ⟨q3, q4⟩
    · exact .inl ⟨q3, q4, q1.low, q2⟩
    · exact .inr ⟨q3, D', q1, q2, q4, by have := heap_lt q1.g; omega⟩
  have HG7 : Hid (∀ D W, St10 w (w.heap.size + 1 + 1) (w.heap.size + 1 + 1 + 1) (w.heap.size + 1 + 1 + 1 + 1) (.slice a0 s.consts.length c0) (.slice a1 s.funcs.length c1) D W ∧ W.heap[w.heap.size + 1]? = some (.cells zero7 30 (0, 0)) ∧ Inv10 s (w.heap.size + 6) 6 D W ∧ w.heap.size + 6 ≤ W.heap.size → Calls Tryz.prog 71 #[.pointer (some ⟨w.heap.size + 1 + 1 + 1 + 1, 0, none⟩)] W fun e W' => ∃ er, e = .returned (.int .i64 er) ∧ May7 W' (w.heap.size + 1) ∧ (∀ i, W'.frozen? ⟨w.heap.size + 1, i, none⟩ = false) ∧ Hid ((er ≠ 0 ∧ er = ofE s ∧ Below w.heap.size w W' ∧ W'.heap[w.heap.size + 1]? = some (.cells zero7 30 (0, 0))) ∨ (er = 0 ∧ ∃ D', St10 w (w.heap.size + 1 + 1) (w.heap.size + 1 + 1 + 1) (w.heap.size + 1 + 1 + 1 + 1) (.slice a0 s.consts.length c0) (.slice a1 s.funcs.length c1) D' W' ∧ W'.heap[w.heap.size + 1]? = some (.cells zero7 30 (0, 0)) ∧ Inv10 s (w.heap.size + 6) 7 D' W' ∧ w.heap.size + 6 ≤ W'.heap.size))) := hid9 fun D W ⟨h1, h2, h3, h4⟩ => (go7 s a0 a1 c0 c1 w (w.heap.size + 6) (w.heap.size + 1 + 1) (w.heap.size + 1 + 1 + 1) (w.heap.size + 1 + 1 + 1 + 1) (w.heap.size + 1) D W hsf h1 h3 h2 (by omega) (by omega) h4).mono fun e W' ⟨er, D', e1, q1, q2, q3⟩ => by
    refine ⟨er, e1, ⟨⟨_, Lib.cell_of_heap q2 0⟩, ⟨_, Lib.cell_of_heap q2 1⟩, ⟨_, Lib.cell_of_heap q2 2⟩, ⟨_, Lib.cell_of_heap q2 3⟩, ⟨_, Lib.cell_of_heap q2 4⟩, ⟨_, Lib.cell_of_heap q2 5⟩, ⟨_, Lib.cell_of_heap q2 6⟩⟩, fun i => Lib.frozen_of_heap q2 i, hid9 ?_⟩
    rcases q3 with ⟨q3, q4⟩ | ⟨q3, q4⟩
    · exact .inl ⟨q3, q4, q1.low, q2⟩
    · exact .inr ⟨q3, D', q1, q2, q4, by have := heap_lt q1.g; omega⟩
  have eF1 : ∀ args w, (callFunc 63 args).run Tryz.prog w = .ok (.enter 63 args) w := enters_of Tryz.func63 (by kernel_rfl) rfl
  have eF2 : ∀ args w, (callFunc 65 args).run Tryz.prog w = .ok (.enter 65 args) w := enters_of Tryz.func65 (by kernel_rfl) rfl
  have eF3 : ∀ args w, (callFunc 66 args).run Tryz.prog w = .ok (.enter 66 args) w := enters_of Tryz.func66 (by kernel_rfl) rfl
  have eF4 : ∀ args w, (callFunc 67 args).run Tryz.prog w = .ok (.enter 67 args) w := enters_of Tryz.func67 (by kernel_rfl) rfl
  have eF5 : ∀ args w, (callFunc 68 args).run Tryz.prog w = .ok (.enter 68 args) w := enters_of Tryz.func68 (by kernel_rfl) rfl
  have eF6 : ∀ args w, (callFunc 70 args).run Tryz.prog w = .ok (.enter 70 args) w := enters_of Tryz.func70 (by kernel_rfl) rfl
  have eF7 : ∀ args w, (callFunc 71 args).run Tryz.prog w = .ok (.enter 71 args) w := enters_of Tryz.func71 (by kernel_rfl) rfl
  have HBad : Hid (∀ W, ofE s ≠ 0 → Below w.heap.size w W → W.heap[w.heap.size + 1]? = some (.cells zero7 30 (0, 0)) → OfEnd s w (.returned (.tuple #[.agg #[.slice none 0 0, .slice none 0 0, .int .i64 0, .slice none 0 0, .slice none 0 0, .slice none 0 0, .slice none 0 0], .int .i64 (ofE s)])) (set7 W (w.heap.size + 1) (.slice none 0 0) (.slice none 0 0) (.int .i64 0) (.slice none 0 0) (.slice none 0 0) (.slice none 0 0) (.slice none 0 0))) := hid9 fun W h1 h2 _ => ofs_bad h1 (by omega) h2
  have HSt : Hid (Calls Tryz.prog 32 #[.agg #[.slice a0 s.consts.length c0, .slice a1 s.funcs.length c1], .pointer (some ⟨w.heap.size + 1 + 1, 0, none⟩)] (((w.alloc (.cells #[.slice a0 s.consts.length c0, .slice a1 s.funcs.length c1] 27)).alloc (.cells #[.slice none 0 0, .slice none 0 0, .int .i64 0, .slice none 0 0, .slice none 0 0, .slice none 0 0, .slice none 0 0] 30)).alloc (.cells #[.slice none 0 0, .slice none 0 0, .int .i64 0, .slice none 0 0, .slice none 0 0, .slice none 0 0, .slice none 0 0, .slice none 0 0] 70)) fun e w' => e = .returned (.slice (some ⟨w.heap.size + 1 + 1 + 1 + 1 + 1, 0, none⟩) 7 7) ∧ w' = W6) := hid9 ((steps_any _ _ _ _).mono fun e w' ⟨h1, h2⟩ => by
    have z : (((w.alloc (.cells #[.slice a0 s.consts.length c0, .slice a1 s.funcs.length c1] 27)).alloc (.cells #[.slice none 0 0, .slice none 0 0, .int .i64 0, .slice none 0 0, .slice none 0 0, .slice none 0 0, .slice none 0 0] 30)).alloc (.cells #[.slice none 0 0, .slice none 0 0, .int .i64 0, .slice none 0 0, .slice none 0 0, .slice none 0 0, .slice none 0 0, .slice none 0 0] 70)).heap.size = w.heap.size + 1 + 1 + 1 := by simp
    rw [z] at h1 h2
    exact ⟨h1, h2.trans hW6.symm⟩)
  have HD7 : Hid (∀ D W, Inv10 s (w.heap.size + 6) 7 D W → Below w.heap.size w W → _) := hid9 fun D W hI hb => ofs_done (rb := w.heap.size + 1) rfl (by omega) (by omega) hb hI
  clear HG n0 n1 hW6 hs hsf
  generalize ofE s = oe at *
  go_enter Tryz.func18, Tryz.ntmps18
  go_wp2_with (first | (go_at_call 32; refine HSt.out.mono ?_; clear HSt; rintro e w3 ⟨rfl, rfl⟩) | fail)
  go_loopw [11] (fun iv wr => ∃ (k : Nat) (D : List Value), iv = .int .i64 k ∧ k ≤ 7 ∧ Hid (St10 w (w.heap.size + 1 + 1) (w.heap.size + 1 + 1 + 1) (w.heap.size + 1 + 1 + 1 + 1) (.slice a0 s.consts.length c0) (.slice a1 s.funcs.length c1) D wr ∧ wr.heap[w.heap.size + 1]? = some (.cells zero7 30 (0, 0)) ∧ Inv10 s (w.heap.size + 6) k D wr ∧ w.heap.size + 6 ≤ wr.heap.size)) (fun iv _ => 7 - (intOf iv).toNat)
  case atStart => exact ⟨0, _, rfl, by omega, hstart⟩
  case round =>
    obtain ⟨k, D, rfl, hk, HL⟩ := hrel
    clear hstart
    have hk8 : k = 0 ∨ k = 1 ∨ k = 2 ∨ k = 3 ∨ k = 4 ∨ k = 5 ∨ k = 6 ∨ k = 7 := by omega
    rcases hk8 with rfl | rfl | rfl | rfl | rfl | rfl | rfl | rfl
    · have q : wr.cell? ⟨w.heap.size + 1 + 1 + 1 + 1 + 1, 0, none⟩ = some (.func (.func 63) #[] #[.pointer (some ⟨w.heap.size + 1 + 1 + 1, 0, none⟩), .pointer (some ⟨w.heap.size + 1 + 1 + 1 + 1, 0, none⟩)]) := Lib.cell_of_heap HL.out.1.g 0
      have HC := hid9 (HG1.out D wr HL.out)
      clear HL HG1 HG2 HG3 HG4 HG5 HG6 HG7
      go_wp2_with (first | (go_at_fn 63; refine HC.out.mono ?_; clear HC; rintro e W1 ⟨er, rfl, ⟨⟨u0, m0⟩, ⟨u1, m1⟩, ⟨u2, m2⟩, ⟨u3, m3⟩, ⟨u4, m4⟩, ⟨u5, m5⟩, ⟨u6, m6⟩⟩, fz, HQ⟩; have f0 := fz 0; have f1 := fz 1; have f2 := fz 2; have f3 := fz 3; have f4 := fz 4; have f5 := fz 5; have f6 := fz 6; clear fz) | fail)
      · rename_i hne
        rcases HQ.out with ⟨_, e, hb, hz⟩ | ⟨e, _⟩
        · subst e
          exact ret_rep rfl rfl rfl rfl hz (HBad.out W1 (by simpa using hne) hb hz)
        · subst e; simp at hne
      · rename_i hne
        rcases HQ.out with ⟨h, _⟩ | ⟨_, D', h⟩
        · exact absurd hne (by simpa using h)
        · exact ⟨⟨1, D', rfl, by omega, hid9 h⟩, by simp [intOf]⟩
    · have q : wr.cell? ⟨w.heap.size + 1 + 1 + 1 + 1 + 1, 1, none⟩ = some (.func (.func 65) #[] #[.pointer (some ⟨w.heap.size + 1 + 1 + 1, 0, none⟩), .pointer (some ⟨w.heap.size + 1 + 1 + 1 + 1, 0, none⟩)]) := Lib.cell_of_heap HL.out.1.g 1
      have HC := hid9 (HG2.out D wr HL.out)
      clear HL HG1 HG2 HG3 HG4 HG5 HG6 HG7
      go_wp2_with (first | (go_at_fn 65; refine HC.out.mono ?_; clear HC; rintro e W1 ⟨er, rfl, ⟨⟨u0, m0⟩, ⟨u1, m1⟩, ⟨u2, m2⟩, ⟨u3, m3⟩, ⟨u4, m4⟩, ⟨u5, m5⟩, ⟨u6, m6⟩⟩, fz, HQ⟩; have f0 := fz 0; have f1 := fz 1; have f2 := fz 2; have f3 := fz 3; have f4 := fz 4; have f5 := fz 5; have f6 := fz 6; clear fz) | fail)
      · rename_i hne
        rcases HQ.out with ⟨_, e, hb, hz⟩ | ⟨e, _⟩
        · subst e
          exact ret_rep rfl rfl rfl rfl hz (HBad.out W1 (by simpa using hne) hb hz)
        · subst e; simp at hne
      · rename_i hne
        rcases HQ.out with ⟨h, _⟩ | ⟨_, D', h⟩
        · exact absurd hne (by simpa using h)
        · exact ⟨⟨2, D', rfl, by omega, hid9 h⟩, by simp [intOf]⟩
    · have q : wr.cell? ⟨w.heap.size + 1 + 1 + 1 + 1 + 1, 2, none⟩ = some (.func (.func 66) #[] #[.pointer (some ⟨w.heap.size + 1 + 1 + 1, 0, none⟩), .pointer (some ⟨w.heap.size + 1 + 1 + 1 + 1, 0, none⟩)]) := Lib.cell_of_heap HL.out.1.g 2
      have HC := hid9 (HG3.out D wr HL.out)
      clear HL HG1 HG2 HG3 HG4 HG5 HG6 HG7
      go_wp2_with (first | (go_at_fn 66; refine HC.out.mono ?_; clear HC; rintro e W1 ⟨er, rfl, ⟨⟨u0, m0⟩, ⟨u1, m1⟩, ⟨u2, m2⟩, ⟨u3, m3⟩, ⟨u4, m4⟩, ⟨u5, m5⟩, ⟨u6, m6⟩⟩, fz, HQ⟩; have f0 := fz 0; have f1 := fz 1; have f2 := fz 2; have f3 := fz 3; have f4 := fz 4; have f5 := fz 5; have f6 := fz 6; clear fz) | fail)
      · rename_i hne
        rcases HQ.out with ⟨_, e, hb, hz⟩ | ⟨e, _⟩
        · subst e
          exact ret_rep rfl rfl rfl rfl hz (HBad.out W1 (by simpa using hne) hb hz)
        · subst e; simp at hne
      · rename_i hne
        rcases HQ.out with ⟨h, _⟩ | ⟨_, D', h⟩
        · exact absurd hne (by simpa using h)
        · exact ⟨⟨3, D', rfl, by omega, hid9 h⟩, by simp [intOf]⟩
    · have q : wr.cell? ⟨w.heap.size + 1 + 1 + 1 + 1 + 1, 3, none⟩ = some (.func (.func 67) #[] #[.pointer (some ⟨w.heap.size + 1 + 1 + 1, 0, none⟩), .pointer (some ⟨w.heap.size + 1 + 1 + 1 + 1, 0, none⟩)]) := Lib.cell_of_heap HL.out.1.g 3
      have HC := hid9 (HG4.out D wr HL.out)
      clear HL HG1 HG2 HG3 HG4 HG5 HG6 HG7
      go_wp2_with (first | (go_at_fn 67; refine HC.out.mono ?_; clear HC; rintro e W1 ⟨er, rfl, ⟨⟨u0, m0⟩, ⟨u1, m1⟩, ⟨u2, m2⟩, ⟨u3, m3⟩, ⟨u4, m4⟩, ⟨u5, m5⟩, ⟨u6, m6⟩⟩, fz, HQ⟩; have f0 := fz 0; have f1 := fz 1; have f2 := fz 2; have f3 := fz 3; have f4 := fz 4; have f5 := fz 5; have f6 := fz 6; clear fz) | fail)
      · rename_i hne
        rcases HQ.out with ⟨_, e, hb, hz⟩ | ⟨e, _⟩
        · subst e
          exact ret_rep rfl rfl rfl rfl hz (HBad.out W1 (by simpa using hne) hb hz)
        · subst e; simp at hne
      · rename_i hne
        rcases HQ.out with ⟨h, _⟩ | ⟨_, D', h⟩
        · exact absurd hne (by simpa using h)
        · exact ⟨⟨4, D', rfl, by omega, hid9 h⟩, by simp [intOf]⟩
    · have q : wr.cell? ⟨w.heap.size + 1 + 1 + 1 + 1 + 1, 4, none⟩ = some (.func (.func 68) #[] #[.pointer (some ⟨w.heap.size + 1 + 1 + 1, 0, none⟩), .pointer (some ⟨w.heap.size + 1 + 1 + 1 + 1, 0, none⟩)]) := Lib.cell_of_heap HL.out.1.g 4
      have HC := hid9 (HG5.out D wr HL.out)
      clear HL HG1 HG2 HG3 HG4 HG5 HG6 HG7
      go_wp2_with (first | (go_at_fn 68; refine HC.out.mono ?_; clear HC; rintro e W1 ⟨er, rfl, ⟨⟨u0, m0⟩, ⟨u1, m1⟩, ⟨u2, m2⟩, ⟨u3, m3⟩, ⟨u4, m4⟩, ⟨u5, m5⟩, ⟨u6, m6⟩⟩, fz, HQ⟩; have f0 := fz 0; have f1 := fz 1; have f2 := fz 2; have f3 := fz 3; have f4 := fz 4; have f5 := fz 5; have f6 := fz 6; clear fz) | fail)
      · rename_i hne
        rcases HQ.out with ⟨_, e, hb, hz⟩ | ⟨e, _⟩
        · subst e
          exact ret_rep rfl rfl rfl rfl hz (HBad.out W1 (by simpa using hne) hb hz)
        · subst e; simp at hne
      · rename_i hne
        rcases HQ.out with ⟨h, _⟩ | ⟨_, D', h⟩
        · exact absurd hne (by simpa using h)
        · exact ⟨⟨5, D', rfl, by omega, hid9 h⟩, by simp [intOf]⟩
    · have q : wr.cell? ⟨w.heap.size + 1 + 1 + 1 + 1 + 1, 5, none⟩ = some (.func (.func 70) #[] #[.pointer (some ⟨w.heap.size + 1 + 1 + 1, 0, none⟩), .pointer (some ⟨w.heap.size + 1 + 1 + 1 + 1, 0, none⟩)]) := Lib.cell_of_heap HL.out.1.g 5
      have HC := hid9 (HG6.out D wr HL.out)
      clear HL HG1 HG2 HG3 HG4 HG5 HG6 HG7
      go_wp2_with (first | (go_at_fn 70; refine HC.out.mono ?_; clear HC; rintro e W1 ⟨er, rfl, ⟨⟨u0, m0⟩, ⟨u1, m1⟩, ⟨u2, m2⟩, ⟨u3, m3⟩, ⟨u4, m4⟩, ⟨u5, m5⟩, ⟨u6, m6⟩⟩, fz, HQ⟩; have f0 := fz 0; have f1 := fz 1; have f2 := fz 2; have f3 := fz 3; have f4 := fz 4; have f5 := fz 5; have f6 := fz 6; clear fz) | fail)
      · rename_i hne
        rcases HQ.out with ⟨_, e, hb, hz⟩ | ⟨e, _⟩
        · subst e
          exact ret_rep rfl rfl rfl rfl hz (HBad.out W1 (by simpa using hne) hb hz)
        · subst e; simp at hne
      · rename_i hne
        rcases HQ.out with ⟨h, _⟩ | ⟨_, D', h⟩
        · exact absurd hne (by simpa using h)
        · exact ⟨⟨6, D', rfl, by omega, hid9 h⟩, by simp [intOf]⟩
    · have q : wr.cell? ⟨w.heap.size + 1 + 1 + 1 + 1 + 1, 6, none⟩ = some (.func (.func 71) #[] #[.pointer (some ⟨w.heap.size + 1 + 1 + 1 + 1, 0, none⟩)]) := Lib.cell_of_heap HL.out.1.g 6
      have HC := hid9 (HG7.out D wr HL.out)
      clear HL HG1 HG2 HG3 HG4 HG5 HG6 HG7
      go_wp2_with (first | (go_at_fn 71; refine HC.out.mono ?_; clear HC; rintro e W1 ⟨er, rfl, ⟨⟨u0, m0⟩, ⟨u1, m1⟩, ⟨u2, m2⟩, ⟨u3, m3⟩, ⟨u4, m4⟩, ⟨u5, m5⟩, ⟨u6, m6⟩⟩, fz, HQ⟩; have f0 := fz 0; have f1 := fz 1; have f2 := fz 2; have f3 := fz 3; have f4 := fz 4; have f5 := fz 5; have f6 := fz 6; clear fz) | fail)
      · rename_i hne
        rcases HQ.out with ⟨_, e, hb, hz⟩ | ⟨e, _⟩
        · subst e
          exact ret_rep rfl rfl rfl rfl hz (HBad.out W1 (by simpa using hne) hb hz)
        · subst e; simp at hne
      · rename_i hne
        rcases HQ.out with ⟨h, _⟩ | ⟨_, D', h⟩
        · exact absurd hne (by simpa using h)
        · exact ⟨⟨7, D', rfl, by omega, hid9 h⟩, by simp [intOf]⟩
    · obtain ⟨x0, y0, x1, y1, sa, sc, da, dc, oa, oc, g, eD, HO⟩ := HD7.out D wr HL.out.2.2.1 HL.out.1.low
      have HO := hid9 HO
      have hz := hid9 HL.out.2.1
      have t0 := HL.out.1.at (i := 0) (by rw [eD]; rfl)
      have t1 := HL.out.1.at (i := 1) (by rw [eD]; rfl)
      have t2 := HL.out.1.at (i := 2) (by rw [eD]; rfl)
      have t3 := HL.out.1.at (i := 3) (by rw [eD]; rfl)
      have t4 := HL.out.1.at (i := 4) (by rw [eD]; rfl)
      have t5 := HL.out.1.at (i := 5) (by rw [eD]; rfl)
      have t6 := HL.out.1.at (i := 6) (by rw [eD]; rfl)
      obtain ⟨⟨u0, m0⟩, ⟨u1, m1⟩, ⟨u2, m2⟩, ⟨u3, m3⟩, ⟨u4, m4⟩, ⟨u5, m5⟩, ⟨u6, m6⟩⟩ : May7 wr (w.heap.size + 1) := ⟨⟨_, Lib.cell_of_heap hz.out 0⟩, ⟨_, Lib.cell_of_heap hz.out 1⟩, ⟨_, Lib.cell_of_heap hz.out 2⟩, ⟨_, Lib.cell_of_heap hz.out 3⟩, ⟨_, Lib.cell_of_heap hz.out 4⟩, ⟨_, Lib.cell_of_heap hz.out 5⟩, ⟨_, Lib.cell_of_heap hz.out 6⟩⟩
      have f0 := Lib.frozen_of_heap hz.out 0
      have f1 := Lib.frozen_of_heap hz.out 1
      have f2 := Lib.frozen_of_heap hz.out 2
      have f3 := Lib.frozen_of_heap hz.out 3
      have f4 := Lib.frozen_of_heap hz.out 4
      have f5 := Lib.frozen_of_heap hz.out 5
      have f6 := Lib.frozen_of_heap hz.out 6
      clear HL eD HG1 HG2 HG3 HG4 HG5 HG6 HG7 HD7 HBad
      generalize (totS s).2 = tv at *
      generalize hfl : s.funcs.length = fl at *
      generalize hcl : s.consts.length = cl at *
      go_wp2_with fail
      exact ret_rep rfl rfl rfl rfl hz.out HO.out
end Go.Proofs.YtfnpngbcnmglfaaGreat
