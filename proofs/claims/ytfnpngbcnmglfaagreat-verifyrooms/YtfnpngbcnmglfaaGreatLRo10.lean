/- The law VerifyRooms. -/
import Derived.Test.YtfnpngbcnmglfaaGreatZJ
import Derived.Test.YtfnpngbcnmglfaaGreatCS
namespace Go.Proofs.YtfnpngbcnmglfaaGreat
open Go.RowKit
/-- What holds behind Of: the script's and the report's boxes; the stacks and the rooms. -/
structure Aft9 (s : Scr) (w W : World) (rb : Nat) (X0 X1 Y3 Y6 : Value) (sa : Option Addr) (g : Nat) (o : List Nat) : Prop where
  x0 : W.cell? ⟨w.heap.size, 0, none⟩ = some X0
  x1 : W.cell? ⟨w.heap.size, 1, none⟩ = some X1
  y3 : W.cell? ⟨rb, 3, none⟩ = some Y3
  y6 : W.cell? ⟨rb, 6, none⟩ = some Y6
  low : Below w.heap.size w W
  st : NsAt W.cell? sa (allS s).2
  rm : NsAt W.cell? (some ⟨g, 0, none⟩) (roomsS s (allS s).2 o)
theorem Aft9.keep {s : Scr} {w W W' : World} {rb : Nat} {X0 X1 Y3 Y6 : Value} {sa : Option Addr} {g : Nat} {o : List Nat} (h : Aft9 s w W rb X0 X1 Y3 Y6 sa g o) (hb : Below W.heap.size W W') : Aft9 s w W' rb X0 X1 Y3 Y6 sa g o := by
  have k := below_keep hb
  exact ⟨k _ _ h.x0, k _ _ h.x1, k _ _ h.y3, k _ _ h.y6, h.low.trans (hb.mono h.low.size), h.st.keep k, h.rm.keep k⟩
theorem rooms_round {s : Scr} {w W : World} {rb fl : Nat} {X0 X1 Y3 Y6 : Value} {p3 ga a1 : Option Addr} {g : Nat} {o : List Nat} (hfl : fl = s.funcs.length) (hO : s.right = true ∧ (allS s).1 = 0 ∧ ordS fl (gF s) = some o) (hG : RsAt W.cell? ga (rowsI (graphS s))) (hA : Aft9 s w W rb X0 X1 Y3 Y6 p3 g o) (hF : FsAt W.cell? a1 s.funcs) {i : Nat} (hi : i < fl) :
    ∃ (gb go : Nat) (aj : Option Addr) (cj cn sb so fb fo : Nat) (pa : Option Addr) (pc : Nat) (la : Option Addr) (lc pn ln : Nat) (sv rv : Int),
      (ga = some ⟨gb, go, none⟩ ∧ p3 = some ⟨sb, so, none⟩ ∧ a1 = some ⟨fb, fo, none⟩) ∧
      (W.cell? ⟨gb, go + i, none⟩ = some (.slice aj cn cj) ∧ W.cell? ⟨sb, so + i, none⟩ = some (.int .i64 sv) ∧ W.cell? ⟨g, i, none⟩ = some (.int .i64 rv) ∧ W.cell? ⟨fb, fo + i * 4, none⟩ = some (.slice pa pn pc) ∧ W.cell? ⟨fb, fo + i * 4 + 2, none⟩ = some (.slice la ln lc)) ∧
      (0 ≤ sv ∧ sv ≤ 1000000 ∧ 0 ≤ rv ∧ rv ≤ 32000000 ∧ pn + ln ≤ 16 ∧ (pn : Int) + ln + sv ≤ rv ∧ cn ≤ 16) ∧ (cn = 0 → rv = (pn : Int) + ln + sv) ∧
      Hid (∀ k, k < cn → ∃ ab ao c cv, aj = some ⟨ab, ao, none⟩ ∧ W.cell? ⟨ab, ao + k, none⟩ = some (.int .i64 ((c : Nat) : Int)) ∧ c < fl ∧ W.cell? ⟨g, c, none⟩ = some (.int .i64 cv) ∧ 0 ≤ cv ∧ cv ≤ 32000000 ∧ (pn : Int) + ln + sv + cv ≤ rv) := by
  subst hfl
  obtain ⟨hr, ha, ho⟩ := hO
  obtain ⟨hSl, hSb⟩ := all_bounds hr ha
  obtain ⟨l1, l2, l3, l4⟩ := rooms_law hr ho hSb hi
  obtain ⟨i1, i2, i3, i4⟩ := graph_inn s
  have hn16 := (right_calls hr).1
  have hRl := rooms_len s (allS s).2 o
  have hrm : ∀ c, c < s.funcs.length → W.cell? ⟨g, c, none⟩ = some (.int .i64 ((roomsS s (allS s).2 o).getD c 0)) := fun c hc => by
    rcases hA.rm with h | ⟨b, off, e, h⟩
    · rw [h] at hRl; simp at hRl; omega
    · cases e
      have hcl : c < (roomsS s (allS s).2 o).length := by rw [hRl]; exact hc
      have := h c hcl
      rw [Nat.zero_add] at this
      rw [this]; simp [List.getD, hcl]
  obtain ⟨gb, go, aj, cj, ega, q1, HQ⟩ : ∃ gb go aj cj, ga = some ⟨gb, go, none⟩ ∧ W.cell? ⟨gb, go + i, none⟩ = some (.slice aj (gF s i).length cj) ∧ NsAt W.cell? aj (rowI (gF s i)) := by
    rcases hG with h | ⟨b, off, e, h⟩
    · rw [rowsI, List.map_eq_nil_iff] at h
      rw [h] at i4
      simp at i4
      omega
    · have hfl : i < (rowsI (graphS s)).length := by rw [rowsI, List.length_map, i4]; exact hi
      obtain ⟨aj, cj, h1, h2⟩ := h i hfl
      have e2 : (rowsI (graphS s))[i] = rowI (gF s i) := by
        have : i < (graphS s).length := by rw [i4]; exact hi
        simp [rowsI, gF, gOf, List.getD, this]
      rw [e2] at h1 h2
      exact ⟨b, off, aj, cj, e, by rw [h1]; simp [rowI], h2⟩
  obtain ⟨sb, so, esa, q2⟩ : ∃ sb so, p3 = some ⟨sb, so, none⟩ ∧ W.cell? ⟨sb, so + i, none⟩ = some (.int .i64 ((allS s).2.getD i 0)) := by
    rcases hA.st with h | ⟨b, off, e, h⟩
    · rw [h] at hSl; simp at hSl; omega
    · have hfl : i < (allS s).2.length := by rw [hSl]; exact hi
      exact ⟨b, off, e, by rw [h i hfl]; simp [List.getD, hfl]⟩
  have efn : fnN s i = s.funcs[i].p.length + s.funcs[i].l.length := by unfold fnN; rw [List.getElem?_eq_getElem hi]
  obtain ⟨fb, fo, pa, pc, la, lc, efa, q3, q4⟩ : ∃ fb fo pa pc la lc, a1 = some ⟨fb, fo, none⟩ ∧ W.cell? ⟨fb, fo + i * 4, none⟩ = some (.slice pa s.funcs[i].p.length pc) ∧ W.cell? ⟨fb, fo + i * 4 + 2, none⟩ = some (.slice la s.funcs[i].l.length lc) := by
    rcases hF with h | ⟨b, off, e, h⟩
    · rw [h] at hi; cases hi
    · obtain ⟨v0, v1, v2, v3, h0, _, h2, _, ⟨⟨pa, pc, rfl, _⟩, _, ⟨la, lc, rfl, _⟩, _⟩⟩ := h i hi
      exact ⟨b, off, pa, pc, la, lc, e, h0, h2⟩
  have hfn := fn_le hr i
  have hcl : (gF s i).length ≤ 16 := by
    have : (gF s i) ∈ graphS s := by
      have : i < (graphS s).length := by rw [i4]; exact hi
      simp [gF, gOf, List.getD, this]
    have := i3 _ this
    omega
  have hsv : 0 ≤ (allS s).2.getD i 0 ∧ (allS s).2.getD i 0 ≤ 1000000 := by
    have hfl : i < (allS s).2.length := by rw [hSl]; exact hi
    have := hSb _ (List.getElem_mem hfl)
    simpa [List.getD, hfl] using this
  rw [efn] at l1 l2 l3 hfn
  have l5 := l4 i
  refine ⟨gb, go, aj, cj, (gF s i).length, sb, so, fb, fo, pa, pc, la, lc, s.funcs[i].p.length, s.funcs[i].l.length, (allS s).2.getD i 0, (roomsS s (allS s).2 o).getD i 0, ⟨ega, esa, efa⟩, ⟨q1, q2, hrm i hi, q3, q4⟩, ⟨hsv.1, hsv.2, l5.1, l5.2, hfn, by omega, hcl⟩, fun h => by have := l2 (List.length_eq_zero_iff.1 h); omega, hid9 fun k hk => ?_⟩
  have hm : (gF s i)[k] ∈ gF s i := List.getElem_mem hk
  have hc := i1 i hi _ hm
  have h5 := l3 _ hm
  have h6 := l4 (gF s i)[k]
  rcases HQ with h | ⟨b, off, e, h⟩
  · have : (rowI (gF s i)).length = 0 := by rw [h]; rfl
    simp [rowI] at this
    rw [this] at hk; cases hk
  · have h7 := h k (by simp [rowI]; exact hk)
    exact ⟨b, off, (gF s i)[k], _, e, by rw [h7]; simp [rowI], hc, hrm _ hc, h6.1, h6.2, by omega⟩
set_option maxRecDepth 100000 in
set_option maxHeartbeats 4000000 in
theorem rooms10_any (s : Scr) (V0 V1 : Value) (w : World) (hs : ScIs w.cell? s V0 V1) (hsf : s.fits) :
    Calls Tryz.prog 7 #[.agg #[V0, V1]] w fun e w' => e = .returned (.bool true) ∧ Below w.heap.size w w' := by
  obtain ⟨⟨a0, c0, rfl, n0⟩, ⟨a1, c1, rfl, n1⟩⟩ := hs
  have hs : ScIs w.cell? s (.slice a0 s.consts.length c0) (.slice a1 s.funcs.length c1) := ⟨⟨a0, c0, rfl, n0⟩, ⟨a1, c1, rfl, n1⟩⟩
  obtain ⟨w0, hw0⟩ : ∃ w0, w0 = w.alloc (.cells #[.slice a0 s.consts.length c0, .slice a1 s.funcs.length c1] 27) := ⟨_, rfl⟩
  have b0 : Below w.heap.size w w0 := by rw [hw0]; exact (Below.refl _ w).alloc (Nat.le_refl _) _
  have e0 : w0.heap[w.heap.size]? = some (.cells #[.slice a0 s.consts.length c0, .slice a1 s.funcs.length c1] 27 (0, 0)) := by rw [hw0]; exact heap_alloc_new w _
  have hcl : ∀ W, Below w.heap.size w W → Calls Tryz.prog 16 #[.agg #[.slice a0 s.consts.length c0, .slice a1 s.funcs.length c1]] W fun e W1 => ∃ b0 d0 b1 d1, e = .returned (.agg #[.slice b0 s.consts.length d0, .slice b1 s.funcs.length d1]) ∧ ScIs W1.cell? s (.slice b0 s.consts.length d0) (.slice b1 s.funcs.length d1) ∧ Below W.heap.size W W1 := fun W hb => (rclone_any s _ _ W (hs.keep (below_keep hb)) hsf).mono fun e W1 ⟨u0, u1, h1, h2, h3⟩ => by
    obtain ⟨⟨x0, y0, q0, m0⟩, ⟨x1, y1, q1, m1⟩⟩ := h2
    subst q0; subst q1
    exact ⟨x0, y0, x1, y1, h1, ⟨⟨x0, y0, rfl, m0⟩, ⟨x1, y1, rfl, m1⟩⟩, h3⟩
  have HC0 : Hid (Calls Tryz.prog 16 #[.agg #[.slice a0 s.consts.length c0, .slice a1 s.funcs.length c1]] (w.alloc (.cells #[.slice a0 s.consts.length c0, .slice a1 s.funcs.length c1] 27)) fun e W1 => ∃ b0 d0 b1 d1, e = .returned (.agg #[.slice b0 s.consts.length d0, .slice b1 s.funcs.length d1]) ∧ Hid (ScIs W1.cell? s (.slice b0 s.consts.length d0) (.slice b1 s.funcs.length d1) ∧ Below w.heap.size w W1 ∧ W1.heap[w.heap.size]? = some (.cells #[.slice a0 s.consts.length c0, .slice a1 s.funcs.length c1] 27 (0, 0)))) := hid9 (by
    rw [← hw0]
    exact (hcl w0 b0).mono fun e W1 ⟨b0', d0, b1, d1, h1, h2, h3⟩ => ⟨b0', d0, b1, d1, h1, hid9 ⟨h2, b0.trans (h3.mono b0.size), (h3.block _ (heap_lt e0)).trans e0⟩⟩)
  have HKn : Hid (∀ W, Below w.heap.size w W → Calls Tryz.prog 15 #[] W fun e W1 => e = .returned (.bool true) ∧ Hid (Below w.heap.size w W1)) := hid9 fun W hb => (knows10_any W).mono fun e W1 ⟨h1, h2⟩ => ⟨h1, hid9 (hb.trans (h2.mono hb.size))⟩
  by_cases hoe : ofE s = 0
  · have HOf : Hid (∀ b0 d0 b1 d1 W, ScIs W.cell? s (.slice b0 s.consts.length d0) (.slice b1 s.funcs.length d1) ∧ Below w.heap.size w W ∧ W.heap[w.heap.size]? = some (.cells #[.slice a0 s.consts.length c0, .slice a1 s.funcs.length c1] 27 (0, 0)) → Calls Tryz.prog 18 #[.agg #[.slice b0 s.consts.length d0, .slice b1 s.funcs.length d1]] W fun e W2 => ∃ p0 r0 p1 r1 p3 r3 p4 r4 p5 r5 g, e = .returned (.tuple #[.agg #[.slice p0 s.consts.length r0, .slice p1 s.funcs.length r1, .int .i64 (totS s).2, .slice p3 s.funcs.length r3, .slice p4 s.funcs.length r4, .slice p5 s.funcs.length r5, .slice (some ⟨g, 0, none⟩) s.funcs.length s.funcs.length], .int .i64 0]) ∧ ((W2.alloc (.cells #[.slice p0 s.consts.length r0, .slice p1 s.funcs.length r1, .int .i64 (totS s).2, .slice p3 s.funcs.length r3, .slice p4 s.funcs.length r4, .slice p5 s.funcs.length r5, .slice (some ⟨g, 0, none⟩) s.funcs.length s.funcs.length] 30)).cell? ⟨w.heap.size, 0, none⟩ = some (.slice a0 s.consts.length c0) ∧ (W2.alloc (.cells #[.slice p0 s.consts.length r0, .slice p1 s.funcs.length r1, .int .i64 (totS s).2, .slice p3 s.funcs.length r3, .slice p4 s.funcs.length r4, .slice p5 s.funcs.length r5, .slice (some ⟨g, 0, none⟩) s.funcs.length s.funcs.length] 30)).cell? ⟨w.heap.size, 1, none⟩ = some (.slice a1 s.funcs.length c1)) ∧ Hid (∃ o, (s.right = true ∧ (allS s).1 = 0 ∧ ordS s.funcs.length (gF s) = some o) ∧ Aft9 s w (W2.alloc (.cells #[.slice p0 s.consts.length r0, .slice p1 s.funcs.length r1, .int .i64 (totS s).2, .slice p3 s.funcs.length r3, .slice p4 s.funcs.length r4, .slice p5 s.funcs.length r5, .slice (some ⟨g, 0, none⟩) s.funcs.length s.funcs.length] 30)) W2.heap.size (.slice a0 s.consts.length c0) (.slice a1 s.funcs.length c1) (.slice p3 s.funcs.length r3) (.slice (some ⟨g, 0, none⟩) s.funcs.length s.funcs.length) p3 g o)) := hid9 fun b0 d0 b1 d1 W ⟨h1, h2, h3⟩ => (of_any s _ _ W h1 hsf).mono fun e W2 ⟨h4, h5⟩ => by
      rcases h5 with ⟨h6, h7⟩ | ⟨h6, v0, v1, sa, sc, da, dc, oa, oc, g, d, o, h7, hR⟩
      · exact absurd hoe h6
      · obtain ⟨base, _, hO⟩ := hR.own
        obtain ⟨⟨p0, r0, z0, _⟩, ⟨p1, r1, z1, _⟩⟩ := own_is hO
        subst z0; subst z1
        refine ⟨p0, r0, p1, r1, sa, sc, da, dc, oa, oc, g, ?_⟩
        have e2 : W2.heap[w.heap.size]? = some (.cells #[.slice a0 s.consts.length c0, .slice a1 s.funcs.length c1] 27 (0, 0)) := (h4.block _ (heap_lt h3)).trans h3
        have kw : Below w.heap.size w W2 := h2.trans (h4.mono h2.size)
        obtain ⟨W3, hW3⟩ : ∃ W3, W3 = W2.alloc (.cells #[.slice p0 s.consts.length r0, .slice p1 s.funcs.length r1, .int .i64 (totS s).2, .slice sa s.funcs.length sc, .slice da s.funcs.length dc, .slice oa s.funcs.length oc, .slice (some ⟨g, 0, none⟩) s.funcs.length s.funcs.length] 30) := ⟨_, rfl⟩
        have b3 : Below W2.heap.size W2 W3 := by rw [hW3]; exact (Below.refl _ _).alloc (Nat.le_refl _) _
        have e3 := (b3.block _ (heap_lt e2)).trans e2
        have e4 : W3.heap[W2.heap.size]? = some (.cells #[.slice p0 s.consts.length r0, .slice p1 s.funcs.length r1, .int .i64 (totS s).2, .slice sa s.funcs.length sc, .slice da s.funcs.length dc, .slice oa s.funcs.length oc, .slice (some ⟨g, 0, none⟩) s.funcs.length s.funcs.length] 30 (0, 0)) := by rw [hW3]; exact heap_alloc_new W2 _
        rw [← hW3]
        exact ⟨h7, ⟨Lib.cell_of_heap e3 0, Lib.cell_of_heap e3 1⟩, hid9 ⟨o, ⟨hR.right, hR.all, hR.ord⟩, Lib.cell_of_heap e3 0, Lib.cell_of_heap e3 1, Lib.cell_of_heap e4 3, Lib.cell_of_heap e4 6, kw.trans (b3.mono kw.size), (hR.st.keep b3).1, (hR.rm.keep b3).1⟩⟩
    have HCl : Hid (∀ rb p3 r3 g o W, Aft9 s w W rb (.slice a0 s.consts.length c0) (.slice a1 s.funcs.length c1) (.slice p3 s.funcs.length r3) (.slice (some ⟨g, 0, none⟩) s.funcs.length s.funcs.length) p3 g o → Calls Tryz.prog 16 #[.agg #[.slice a0 s.consts.length c0, .slice a1 s.funcs.length c1]] W fun e W1 => ∃ b0 d0 b1 d1, e = .returned (.agg #[.slice b0 s.consts.length d0, .slice b1 s.funcs.length d1]) ∧ Hid (ScIs W1.cell? s (.slice b0 s.consts.length d0) (.slice b1 s.funcs.length d1) ∧ Aft9 s w W1 rb (.slice a0 s.consts.length c0) (.slice a1 s.funcs.length c1) (.slice p3 s.funcs.length r3) (.slice (some ⟨g, 0, none⟩) s.funcs.length s.funcs.length) p3 g o)) := hid9 fun rb p3 r3 g o W hA => (hcl W hA.low).mono fun e W1 ⟨b0', d0, b1, d1, h1, h2, h3⟩ => ⟨b0', d0, b1, d1, h1, hid9 ⟨h2, hA.keep h3⟩⟩
    have HGr : Hid (∀ rb p3 r3 g o b0 d0 b1 d1 W, s.right = true → ScIs W.cell? s (.slice b0 s.consts.length d0) (.slice b1 s.funcs.length d1) ∧ Aft9 s w W rb (.slice a0 s.consts.length c0) (.slice a1 s.funcs.length c1) (.slice p3 s.funcs.length r3) (.slice (some ⟨g, 0, none⟩) s.funcs.length s.funcs.length) p3 g o → Calls Tryz.prog 28 #[.agg #[.slice b0 s.consts.length d0, .slice b1 s.funcs.length d1]] W fun e W1 => ∃ ga gc, e = .returned (.tuple #[.slice ga s.funcs.length gc, .int .i64 0]) ∧ (W1.cell? ⟨w.heap.size, 1, none⟩ = some (.slice a1 s.funcs.length c1) ∧ W1.cell? ⟨rb, 3, none⟩ = some (.slice p3 s.funcs.length r3) ∧ W1.cell? ⟨rb, 6, none⟩ = some (.slice (some ⟨g, 0, none⟩) s.funcs.length s.funcs.length)) ∧ Hid (RsAt W1.cell? ga (rowsI (graphS s)) ∧ Aft9 s w W1 rb (.slice a0 s.consts.length c0) (.slice a1 s.funcs.length c1) (.slice p3 s.funcs.length r3) (.slice (some ⟨g, 0, none⟩) s.funcs.length s.funcs.length) p3 g o)) := hid9 fun rb p3 r3 g o b0 d0 b1 d1 W hr ⟨h1, hA⟩ => (graph_any s _ _ W h1 hsf).mono fun e W1 ⟨h2, h3⟩ => by
      rw [if_pos hr] at h2
      obtain ⟨ga, gc, e1, h4⟩ := h2
      have h5 := hA.keep h3
      exact ⟨ga, gc, e1, ⟨h5.x1, h5.y3, h5.y6⟩, hid9 ⟨h4, h5⟩⟩
    have HFn : Hid (∀ W, Below w.heap.size w W → FsAt W.cell? a1 s.funcs) := hid9 fun W hb => n1.keep (below_keep hb)
    clear hcl hs n0 n1 hsf hw0 b0 e0
    obtain ⟨fl, hfl⟩ : ∃ fl, fl = s.funcs.length := ⟨_, rfl⟩
    have HFl := hid9 hfl
    rw [← hfl] at HC0 HOf HCl HGr ⊢
    generalize hcl : s.consts.length = cl at HC0 HOf HCl HGr ⊢
    clear hcl hfl
    go_enter Tryz.func7, Tryz.ntmps7
    go_wp2_with (first
      | (go_at_call 16; first | (refine HC0.out.mono ?_; clear HC0; rintro e W1 ⟨b0, d0, b1, d1, rfl, HS⟩) | (refine (HCl.out _ _ _ _ _ _ HA.out).mono ?_; clear HA HCl; rintro e W1 ⟨b0, d0, b1, d1, rfl, HS⟩))
      | (go_at_call 18; refine (HOf.out _ _ _ _ _ HS.out).mono ?_; clear HOf HS; rintro e W2 ⟨p0, r0, p1, r1, p3, r3, p4, r4, p5, r5, g, rfl, ⟨x0, x1⟩, HA0⟩; obtain ⟨o, HO0, HA1⟩ := HA0.out; have HO := hid9 HO0; have HA := hid9 HA1; clear HA0 HO0 HA1)
      | (go_at_call 28; refine (HGr.out _ _ _ _ _ _ _ _ _ _ HO.out.1 HS.out).mono ?_; clear HGr HS x0 x1; rintro e W3 ⟨ga, gc, rfl, ⟨x1, y3, y6⟩, HA⟩)
      | (go_at_call 13; refine (num10_any _ _).mono ?_; rintro e W9 ⟨rfl, w9e⟩; rw [w9e]; clear w9e)
      | fail)
    have h16 : fl ≤ 16 := by rw [HFl.out]; exact (right_calls HO.out.1).1
    go_loopw [7] (fun iv wr => ∃ i m : Nat, iv = .int .i64 i ∧ i ≤ fl ∧ wr = W3.drewN m) (fun iv _ => fl - (intOf iv).toNat)
    case atStart => exact ⟨0, 0, rfl, Nat.zero_le _, rfl⟩
    case round =>
      obtain ⟨i, m, rfl, hi, rfl⟩ := hrel
      by_cases hlt : i < fl
      · obtain ⟨gb, go, aj, cj, cn, sb, so, fb, fo, pa, pc, la, lc, pn, ln, sv, rv, ⟨ega, esa, efa⟩, ⟨q1, q2, q3, q4, q5⟩, ⟨z1, z2, z3, z4, z5, z6, z7⟩, z8, HQ⟩ := rooms_round HFl.out HO.out HA.out.1 HA.out.2 (HFn.out _ HA.out.2.low) hlt
        subst ega; subst esa; subst efa
        have HI := hid9 (And.intro HKn (And.intro HA (And.intro HO HFn)))
        clear HKn HA HO HFn
        have e1 : IntKind.i64.wrap ((pn : Int) + ln) = (pn : Int) + ln := by rw [IntKind.wrap_i64]; omega
        have e2 : IntKind.i64.wrap ((pn : Int) + ln + sv) = (pn : Int) + ln + sv := by rw [IntKind.wrap_i64]; omega
        have hd : decide (rv < (pn : Int) + ln + sv) = false := by simp; omega
        by_cases hcn : cn = 0
        · have hq := z8 hcn
          subst hcn
          go_wp2_with fail
          go_quiet (fail)
          go_wp2_with fail
          go_loopw [9] (fun kv wq => ∃ k m : Nat, kv = .int .i64 k ∧ k = 0 ∧ wq = W3.drewN m) (fun _ _ => 0)
          case atStart => exact ⟨0, _, rfl, rfl, rfl⟩
          case round =>
            obtain ⟨k, m2, rfl, rfl, rfl⟩ := hrel
            go_wp2_with fail
            exact ⟨⟨i + 1, _, by go_num, by omega, rfl⟩, by simp [intOf]; omega⟩
        · have hcz : decide ((cn : Int) = 0) = false := by simp; omega
          clear z8
          go_wp2_with fail
          go_quiet (fail)
          go_wp2_with fail
          go_loopw [9] (fun kv wq => ∃ k m : Nat, kv = .int .i64 k ∧ k ≤ cn ∧ wq = W3.drewN m) (fun kv _ => cn - (intOf kv).toNat)
          case atStart => exact ⟨0, _, rfl, Nat.zero_le _, rfl⟩
          case round =>
            obtain ⟨k, m2, rfl, hk, rfl⟩ := hrel
            by_cases hkl : k < cn
            · obtain ⟨ab, ao, c, cv, eaj, q6, hc, q7, y1, y2, y9⟩ := HQ.out k hkl
              subst eaj
              have e3 : IntKind.i64.wrap ((pn : Int) + ln + sv + cv) = (pn : Int) + ln + sv + cv := by rw [IntKind.wrap_i64]; omega
              have hd2 : decide (rv < (pn : Int) + ln + sv + cv) = false := by simp; omega
              go_wp2_with fail
              go_quiet (fail)
              go_wp2_with fail
              exact ⟨⟨k + 1, _, by go_num, by omega, rfl⟩, by simp [intOf]; omega⟩
            · have e : k = cn := by omega
              subst e
              go_wp2_with fail
              exact ⟨⟨i + 1, _, by go_num, by omega, rfl⟩, by simp [intOf]; omega⟩
      · have e : i = fl := by omega
        subst e
        go_wp2_with (first
          | (go_at_call 15; refine (HKn.out _ (below_draws2 HA.out.2.low _)).mono ?_; clear HKn; rintro e W7 ⟨rfl, HB⟩)
          | fail)
        all_goals (go_ret; exact ⟨rfl, HB.out⟩)
  · have HOf : Hid (∀ b0 d0 b1 d1 W, ScIs W.cell? s (.slice b0 s.consts.length d0) (.slice b1 s.funcs.length d1) ∧ Below w.heap.size w W ∧ W.heap[w.heap.size]? = some (.cells #[.slice a0 s.consts.length c0, .slice a1 s.funcs.length c1] 27 (0, 0)) → Calls Tryz.prog 18 #[.agg #[.slice b0 s.consts.length d0, .slice b1 s.funcs.length d1]] W fun e W2 => e = .returned (.tuple #[.agg #[.slice none 0 0, .slice none 0 0, .int .i64 0, .slice none 0 0, .slice none 0 0, .slice none 0 0, .slice none 0 0], .int .i64 (ofE s)]) ∧ Hid (Below w.heap.size w (W2.alloc (.cells #[.slice none 0 0, .slice none 0 0, .int .i64 0, .slice none 0 0, .slice none 0 0, .slice none 0 0, .slice none 0 0] 30)))) := hid9 fun b0 d0 b1 d1 W ⟨h1, h2, h3⟩ => (of_any s _ _ W h1 hsf).mono fun e W2 ⟨h4, h5⟩ => by
      rcases h5 with ⟨h6, h7⟩ | ⟨h6, _⟩
      · have kw : Below w.heap.size w W2 := h2.trans (h4.mono h2.size)
        exact ⟨h7, hid9 (kw.alloc kw.size _)⟩
      · exact absurd h6 hoe
    have hne : (ofE s != 0) = true := by simpa using hoe
    clear hcl hs n0 n1 hsf hw0 b0 e0
    generalize ofE s = oe at *
    go_enter Tryz.func7, Tryz.ntmps7
    go_wp2_with (first
      | (go_at_call 16; refine HC0.out.mono ?_; clear HC0; rintro e W1 ⟨b0, d0, b1, d1, rfl, HS⟩)
      | (go_at_call 18; refine (HOf.out _ _ _ _ _ HS.out).mono ?_; clear HOf HS; rintro e W2 ⟨rfl, HA⟩)
      | (go_at_call 13; refine (num10_any _ _).mono ?_; rintro e W9 ⟨rfl, w9e⟩; rw [w9e]; clear w9e)
      | (go_at_call 15; refine (HKn.out _ HA.out).mono ?_; clear HKn HA; rintro e W7 ⟨rfl, HB⟩)
      | fail)
    all_goals (go_ret; exact ⟨rfl, HB.out⟩)
end Go.Proofs.YtfnpngbcnmglfaaGreat
