/- The law VerifyLess. -/
import Derived.Test.YtfnpngbcnmglfaaGreatZH
import Derived.Test.YtfnpngbcnmglfaaGreatCB
import Derived.Test.YtfnpngbcnmglfaaGreatCS
namespace Go.Proofs.YtfnpngbcnmglfaaGreat
open Go.RowKit
def ordE10 (s : Scr) : Int := if s.right = true then (if (ordS s.funcs.length (gF s)).isNone = true then 34 else 0) else 30
theorem tot_no {s : Scr} (h : ¬ s.right = true) : (totS s).1 = 30 := by
  rw [totS, fun_no h]; rfl
theorem tot_ord {s : Scr} (hr : s.right = true) (h : (ordS s.funcs.length (gF s)).isNone = true) : (totS s).1 = 34 := by
  have : ordS s.funcs.length (gF s) = none := by simpa using h
  rw [totS, fun_none hr this]; rfl
theorem of_zero (s : Scr) : (ofE s = 0 ∧ (allS s).1 = 0 ∧ ordE10 s = 0 ∧ (totS s).1 = 0) ∨ (ofE s ≠ 0 ∧ ¬ ((allS s).1 = 0 ∧ ordE10 s = 0 ∧ (totS s).1 = 0) ∧ (ofE s = (allS s).1 ∨ ofE s = ordE10 s ∨ ofE s = (totS s).1)) := by
  by_cases hr : s.right = true
  · rw [ofE, if_pos hr, ordE10, if_pos hr]
    by_cases ha : (allS s).1 = 0
    · rw [if_pos ha]
      by_cases ho : (ordS s.funcs.length (gF s)).isNone = true
      · rw [if_pos ho, if_pos ho]
        exact .inr ⟨by omega, fun h => by omega, .inr (.inl rfl)⟩
      · rw [if_neg ho, if_neg ho]
        by_cases ht : (totS s).1 = 0
        · exact .inl ⟨ht, ha, rfl, ht⟩
        · exact .inr ⟨ht, fun h => ht h.2.2, .inr (.inr rfl)⟩
    · rw [if_neg ha]
      exact .inr ⟨ha, fun h => ha h.1, .inl rfl⟩
  · rw [ofE, if_neg hr, ordE10, if_neg hr]
    exact .inr ⟨by omega, fun h => by omega, .inr (.inl rfl)⟩
theorem tot_le (s : Scr) : (totS s).2 ≤ 1048576 := by
  rw [totS]
  split
  · split
    · omega
    · simp only; omega
  · simp only; omega
/-- The boxes of the script and of the report. -/
def Cel10 (w1 : World) (sb rb : Nat) (x0 x1 y0 y1 y2 y3 : Value) : Prop := w1.cell? ⟨sb, 0, none⟩ = some x0 ∧ w1.cell? ⟨sb, 1, none⟩ = some x1 ∧ w1.cell? ⟨rb, 0, none⟩ = some y0 ∧ w1.cell? ⟨rb, 1, none⟩ = some y1 ∧ w1.cell? ⟨rb, 2, none⟩ = some y2 ∧ w1.cell? ⟨rb, 3, none⟩ = some y3
theorem Cel10.keep {w1 W : World} {sb rb : Nat} {x0 x1 y0 y1 y2 y3 : Value} (h : Cel10 w1 sb rb x0 x1 y0 y1 y2 y3) (hb : Below w1.heap.size w1 W) : Cel10 W sb rb x0 x1 y0 y1 y2 y3 := by
  have k := below_keep hb
  exact ⟨k _ _ h.1, k _ _ h.2.1, k _ _ h.2.2.1, k _ _ h.2.2.2.1, k _ _ h.2.2.2.2.1, k _ _ h.2.2.2.2.2⟩
/-- What holds behind Of: the report in its box. -/
structure Aft (s : Scr) (w w1 : World) (rb : Nat) (X0 X1 Y0 Y1 Y2 Y3 : Value) : Prop where
  cel : Cel10 w1 w.heap.size rb X0 X1 Y0 Y1 Y2 Y3
  low : Below w.heap.size w w1
  rep : ofE s = 0 → ScIs w1.cell? s Y0 Y1
theorem Aft.keep {s : Scr} {w w1 W : World} {rb : Nat} {X0 X1 Y0 Y1 Y2 Y3 : Value} (h : Aft s w w1 rb X0 X1 Y0 Y1 Y2 Y3) (hb : Below w1.heap.size w1 W) : Aft s w W rb X0 X1 Y0 Y1 Y2 Y3 := ⟨h.cel.keep hb, h.low.trans (hb.mono h.low.size), fun q => (h.rep q).keep (below_keep hb)⟩
set_option maxRecDepth 100000 in
set_option maxHeartbeats 4000000 in
theorem less_any (s : Scr) (V0 V1 : Value) (w : World) (hs : ScIs w.cell? s V0 V1) (hsf : s.fits) :
    Calls Tryz.prog 5 #[.agg #[V0, V1]] w fun e w' => e = .returned (.bool true) ∧ Below w.heap.size w w' := by
  obtain ⟨⟨a0, c0, rfl, n0⟩, ⟨a1, c1, rfl, n1⟩⟩ := hs
  have hs : ScIs w.cell? s (.slice a0 s.consts.length c0) (.slice a1 s.funcs.length c1) := ⟨⟨a0, c0, rfl, n0⟩, ⟨a1, c1, rfl, n1⟩⟩
  obtain ⟨w0, hw0⟩ : ∃ w0, w0 = w.alloc (.cells #[.slice a0 s.consts.length c0, .slice a1 s.funcs.length c1] 27) := ⟨_, rfl⟩
  have b0 : Below w.heap.size w w0 := by rw [hw0]; exact (Below.refl _ w).alloc (Nat.le_refl _) _
  have e0 : w0.heap[w.heap.size]? = some (.cells #[.slice a0 s.consts.length c0, .slice a1 s.funcs.length c1] 27 (0, 0)) := by rw [hw0]; exact heap_alloc_new w _
  have hcl : ∀ W, Below w.heap.size w W → Calls Tryz.prog 16 #[.agg #[.slice a0 s.consts.length c0, .slice a1 s.funcs.length c1]] W fun e W1 => ∃ b0 d0 b1 d1, e = .returned (.agg #[.slice b0 s.consts.length d0, .slice b1 s.funcs.length d1]) ∧ ScIs W1.cell? s (.slice b0 s.consts.length d0) (.slice b1 s.funcs.length d1) ∧ Below W.heap.size W W1 := fun W hb => (rclone_any s _ _ W (hs.keep (below_keep hb)) hsf).mono fun e W1 ⟨u0, u1, h1, h2, h3⟩ => by
    obtain ⟨⟨x0, y0, q0, m0⟩, ⟨x1, y1, q1, m1⟩⟩ := h2
    subst q0; subst q1
    exact ⟨x0, y0, x1, y1, h1, ⟨⟨x0, y0, rfl, m0⟩, ⟨x1, y1, rfl, m1⟩⟩, h3⟩
  have HC0 : Hid (Calls Tryz.prog 16 #[.agg #[.slice a0 s.consts.length c0, .slice a1 s.funcs.length c1]] (w.alloc (.cells #[.slice a0 s.consts.length c0, .slice a1 s.funcs.length c1] 27)) fun e W1 => ∃ b0 d0 b1 d1, e = .returned (.agg #[.slice b0 s.consts.length d0, .slice b1 s.funcs.length d1]) ∧ Hid (ScIs W1.cell? s (.slice b0 s.consts.length d0) (.slice b1 s.funcs.length d1) ∧ Below w.heap.size w W1 ∧ W1.heap[w.heap.size]? = some (.cells #[.slice a0 s.consts.length c0, .slice a1 s.funcs.length c1] 27 (0, 0)))) := hid9 (by
    rw [← hw0]
    exact (hcl w0 b0).mono fun e W1 ⟨b0', d0, b1, d1, h1, h2, h3⟩ => ⟨b0', d0, b1, d1, h1, hid9 ⟨h2, b0.trans (h3.mono b0.size), (h3.block _ (heap_lt e0)).trans e0⟩⟩)
  have HKn : Hid (∀ W, Below w.heap.size w W → Calls Tryz.prog 15 #[] W fun e W1 => e = .returned (.bool true) ∧ Hid (Below w.heap.size w W1)) := hid9 fun W hb => (knows10_any W).mono fun e W1 ⟨h1, h2⟩ => ⟨h1, hid9 (hb.trans (h2.mono hb.size))⟩
  have hord : ∀ W b0 d0 b1 d1, ScIs W.cell? s (.slice b0 s.consts.length d0) (.slice b1 s.funcs.length d1) → Calls Tryz.prog 25 #[.agg #[.slice b0 s.consts.length d0, .slice b1 s.funcs.length d1]] W fun e W1 => ∃ a n c, e = .returned (.tuple #[.slice a n c, .int .i64 (ordE10 s)]) ∧ Below W.heap.size W W1 := fun W b0 d0 b1 d1 h => (order_any s _ _ W h hsf).mono fun e W1 ⟨h1, h2⟩ => by
    unfold ordE10
    by_cases hr : s.right = true
    · rw [if_pos hr] at h2 ⊢
      cases ho : ordS s.funcs.length (gF s) with
      | none => rw [ho] at h2; exact ⟨none, 0, 0, by simpa using h2, h1⟩
      | some o =>
        rw [ho] at h2
        obtain ⟨la, lc, e1, _⟩ := h2
        exact ⟨la, _, lc, by simpa using e1, h1⟩
    · rw [if_neg hr] at h2 ⊢
      exact ⟨none, 0, 0, h2, h1⟩
  rcases of_zero s with ⟨hoe, hq2⟩ | ⟨hoe, hq2, hq3⟩
  · have HOf : Hid (∀ b0 d0 b1 d1 W, ScIs W.cell? s (.slice b0 s.consts.length d0) (.slice b1 s.funcs.length d1) ∧ Below w.heap.size w W ∧ W.heap[w.heap.size]? = some (.cells #[.slice a0 s.consts.length c0, .slice a1 s.funcs.length c1] 27 (0, 0)) → Calls Tryz.prog 18 #[.agg #[.slice b0 s.consts.length d0, .slice b1 s.funcs.length d1]] W fun e W2 => ∃ p0 r0 p1 r1 p3 r3 p4 r4 p5 r5 p6 r6, e = .returned (.tuple #[.agg #[.slice p0 s.consts.length r0, .slice p1 s.funcs.length r1, .int .i64 (totS s).2, .slice p3 s.funcs.length r3, .slice p4 s.funcs.length r4, .slice p5 s.funcs.length r5, .slice p6 s.funcs.length r6], .int .i64 0]) ∧ ((W2.alloc (.cells #[.slice p0 s.consts.length r0, .slice p1 s.funcs.length r1, .int .i64 (totS s).2, .slice p3 s.funcs.length r3, .slice p4 s.funcs.length r4, .slice p5 s.funcs.length r5, .slice p6 s.funcs.length r6] 30)).cell? ⟨w.heap.size, 0, none⟩ = some (.slice a0 s.consts.length c0) ∧ (W2.alloc (.cells #[.slice p0 s.consts.length r0, .slice p1 s.funcs.length r1, .int .i64 (totS s).2, .slice p3 s.funcs.length r3, .slice p4 s.funcs.length r4, .slice p5 s.funcs.length r5, .slice p6 s.funcs.length r6] 30)).cell? ⟨w.heap.size, 1, none⟩ = some (.slice a1 s.funcs.length c1)) ∧ Hid (Aft s w (W2.alloc (.cells #[.slice p0 s.consts.length r0, .slice p1 s.funcs.length r1, .int .i64 (totS s).2, .slice p3 s.funcs.length r3, .slice p4 s.funcs.length r4, .slice p5 s.funcs.length r5, .slice p6 s.funcs.length r6] 30)) W2.heap.size (.slice a0 s.consts.length c0) (.slice a1 s.funcs.length c1) (.slice p0 s.consts.length r0) (.slice p1 s.funcs.length r1) (.int .i64 (totS s).2) (.slice p3 s.funcs.length r3))) := hid9 fun b0 d0 b1 d1 W ⟨h1, h2, h3⟩ => (of_any s _ _ W h1 hsf).mono fun e W2 ⟨h4, h5⟩ => by
      rcases h5 with ⟨h6, h7⟩ | ⟨h6, v0, v1, sa, sc, da, dc, oa, oc, g, d, o, h7, hR⟩
      · exact absurd hoe h6
      · obtain ⟨base, _, hO⟩ := hR.own
        obtain ⟨⟨p0, r0, z0, _⟩, ⟨p1, r1, z1, _⟩⟩ := own_is hO
        subst z0; subst z1
        refine ⟨p0, r0, p1, r1, sa, sc, da, dc, oa, oc, some ⟨g, 0, none⟩, s.funcs.length, ?_⟩
        have e2 : W2.heap[w.heap.size]? = some (.cells #[.slice a0 s.consts.length c0, .slice a1 s.funcs.length c1] 27 (0, 0)) := (h4.block _ (heap_lt h3)).trans h3
        have kw : Below w.heap.size w W2 := h2.trans (h4.mono h2.size)
        obtain ⟨W3, hW3⟩ : ∃ W3, W3 = W2.alloc (.cells #[.slice p0 s.consts.length r0, .slice p1 s.funcs.length r1, .int .i64 (totS s).2, .slice sa s.funcs.length sc, .slice da s.funcs.length dc, .slice oa s.funcs.length oc, .slice (some ⟨g, 0, none⟩) s.funcs.length s.funcs.length] 30) := ⟨_, rfl⟩
        have b3 : Below W2.heap.size W2 W3 := by rw [hW3]; exact (Below.refl _ _).alloc (Nat.le_refl _) _
        have e3 := (b3.block _ (heap_lt e2)).trans e2
        have e4 : W3.heap[W2.heap.size]? = some (.cells #[.slice p0 s.consts.length r0, .slice p1 s.funcs.length r1, .int .i64 (totS s).2, .slice sa s.funcs.length sc, .slice da s.funcs.length dc, .slice oa s.funcs.length oc, .slice (some ⟨g, 0, none⟩) s.funcs.length s.funcs.length] 30 (0, 0)) := by rw [hW3]; exact heap_alloc_new W2 _
        rw [← hW3]
        exact ⟨h7, ⟨Lib.cell_of_heap e3 0, Lib.cell_of_heap e3 1⟩, hid9 ⟨⟨Lib.cell_of_heap e3 0, Lib.cell_of_heap e3 1, Lib.cell_of_heap e4 0, Lib.cell_of_heap e4 1, Lib.cell_of_heap e4 2, Lib.cell_of_heap e4 3⟩, kw.trans (b3.mono kw.size), fun _ => (own_is hO).keep (below_keep b3)⟩⟩
    have HCl : Hid (∀ rb p0 r0 p1 r1 p3 r3 W, Aft s w W rb (.slice a0 s.consts.length c0) (.slice a1 s.funcs.length c1) (.slice p0 s.consts.length r0) (.slice p1 s.funcs.length r1) (.int .i64 (totS s).2) (.slice p3 s.funcs.length r3) → Calls Tryz.prog 16 #[.agg #[.slice a0 s.consts.length c0, .slice a1 s.funcs.length c1]] W fun e W1 => ∃ b0 d0 b1 d1, e = .returned (.agg #[.slice b0 s.consts.length d0, .slice b1 s.funcs.length d1]) ∧ Hid (ScIs W1.cell? s (.slice b0 s.consts.length d0) (.slice b1 s.funcs.length d1) ∧ Aft s w W1 rb (.slice a0 s.consts.length c0) (.slice a1 s.funcs.length c1) (.slice p0 s.consts.length r0) (.slice p1 s.funcs.length r1) (.int .i64 (totS s).2) (.slice p3 s.funcs.length r3))) := hid9 fun rb p0 r0 p1 r1 p3 r3 W hA => (hcl W hA.low).mono fun e W1 ⟨b0', d0, b1, d1, h1, h2, h3⟩ => ⟨b0', d0, b1, d1, h1, hid9 ⟨h2, hA.keep h3⟩⟩
    have HAl : Hid (∀ rb p0 r0 p1 r1 p3 r3 b0 d0 b1 d1 W, ScIs W.cell? s (.slice b0 s.consts.length d0) (.slice b1 s.funcs.length d1) ∧ Aft s w W rb (.slice a0 s.consts.length c0) (.slice a1 s.funcs.length c1) (.slice p0 s.consts.length r0) (.slice p1 s.funcs.length r1) (.int .i64 (totS s).2) (.slice p3 s.funcs.length r3) → Calls Tryz.prog 24 #[.agg #[.slice b0 s.consts.length d0, .slice b1 s.funcs.length d1]] W fun e W1 => ∃ a n c, e = .returned (.tuple #[.slice a n c, .int .i64 (allS s).1]) ∧ (W1.cell? ⟨w.heap.size, 0, none⟩ = some (.slice a0 s.consts.length c0) ∧ W1.cell? ⟨w.heap.size, 1, none⟩ = some (.slice a1 s.funcs.length c1)) ∧ Hid (Aft s w W1 rb (.slice a0 s.consts.length c0) (.slice a1 s.funcs.length c1) (.slice p0 s.consts.length r0) (.slice p1 s.funcs.length r1) (.int .i64 (totS s).2) (.slice p3 s.funcs.length r3))) := hid9 fun rb p0 r0 p1 r1 p3 r3 b0 d0 b1 d1 W ⟨h1, hA⟩ => (all7_any s _ _ W h1 hsf).mono fun e W1 ⟨a, c, h2, _, h3⟩ => ⟨a, _, c, h2, ⟨(hA.keep h3).cel.1, (hA.keep h3).cel.2.1⟩, hid9 (hA.keep h3)⟩
    have HOr : Hid (∀ rb p0 r0 p1 r1 p3 r3 b0 d0 b1 d1 W, ScIs W.cell? s (.slice b0 s.consts.length d0) (.slice b1 s.funcs.length d1) ∧ Aft s w W rb (.slice a0 s.consts.length c0) (.slice a1 s.funcs.length c1) (.slice p0 s.consts.length r0) (.slice p1 s.funcs.length r1) (.int .i64 (totS s).2) (.slice p3 s.funcs.length r3) → Calls Tryz.prog 25 #[.agg #[.slice b0 s.consts.length d0, .slice b1 s.funcs.length d1]] W fun e W1 => ∃ a n c, e = .returned (.tuple #[.slice a n c, .int .i64 (ordE10 s)]) ∧ (W1.cell? ⟨w.heap.size, 0, none⟩ = some (.slice a0 s.consts.length c0) ∧ W1.cell? ⟨w.heap.size, 1, none⟩ = some (.slice a1 s.funcs.length c1)) ∧ Hid (Aft s w W1 rb (.slice a0 s.consts.length c0) (.slice a1 s.funcs.length c1) (.slice p0 s.consts.length r0) (.slice p1 s.funcs.length r1) (.int .i64 (totS s).2) (.slice p3 s.funcs.length r3))) := hid9 fun rb p0 r0 p1 r1 p3 r3 b0 d0 b1 d1 W ⟨h1, hA⟩ => (hord W b0 d0 b1 d1 h1).mono fun e W1 ⟨a, n, c, h2, h3⟩ => ⟨a, n, c, h2, ⟨(hA.keep h3).cel.1, (hA.keep h3).cel.2.1⟩, hid9 (hA.keep h3)⟩
    have HTo : Hid (∀ rb p0 r0 p1 r1 p3 r3 b0 d0 b1 d1 W, ScIs W.cell? s (.slice b0 s.consts.length d0) (.slice b1 s.funcs.length d1) ∧ Aft s w W rb (.slice a0 s.consts.length c0) (.slice a1 s.funcs.length c1) (.slice p0 s.consts.length r0) (.slice p1 s.funcs.length r1) (.int .i64 (totS s).2) (.slice p3 s.funcs.length r3) → Calls Tryz.prog 26 #[.agg #[.slice b0 s.consts.length d0, .slice b1 s.funcs.length d1]] W fun e W1 => e = .returned (.tuple #[.int .i64 (totS s).2, .int .i64 (totS s).1]) ∧ Cel10 W1 w.heap.size rb (.slice a0 s.consts.length c0) (.slice a1 s.funcs.length c1) (.slice p0 s.consts.length r0) (.slice p1 s.funcs.length r1) (.int .i64 (totS s).2) (.slice p3 s.funcs.length r3) ∧ Hid (Aft s w W1 rb (.slice a0 s.consts.length c0) (.slice a1 s.funcs.length c1) (.slice p0 s.consts.length r0) (.slice p1 s.funcs.length r1) (.int .i64 (totS s).2) (.slice p3 s.funcs.length r3))) := hid9 fun rb p0 r0 p1 r1 p3 r3 b0 d0 b1 d1 W ⟨h1, hA⟩ => (total9_any s _ _ W h1 hsf).mono fun e W1 ⟨h2, h3⟩ => ⟨h2, (hA.keep h3).cel, hid9 (hA.keep h3)⟩
    have HSa : Hid (∀ rb p0 r0 p1 r1 p3 r3 W, Aft s w W rb (.slice a0 s.consts.length c0) (.slice a1 s.funcs.length c1) (.slice p0 s.consts.length r0) (.slice p1 s.funcs.length r1) (.int .i64 (totS s).2) (.slice p3 s.funcs.length r3) → Calls Tryz.prog 22 #[.agg #[.slice p0 s.consts.length r0, .slice p1 s.funcs.length r1], .agg #[.slice a0 s.consts.length c0, .slice a1 s.funcs.length c1]] W fun e W1 => e = .returned (.bool true) ∧ Hid (Below w.heap.size w W1)) := hid9 fun rb p0 r0 p1 r1 p3 r3 W hA => (rsame_any s s _ _ _ _ W (hA.rep hoe) (hs.keep (below_keep hA.low)) hsf hsf).mono fun e W1 ⟨h1, h2⟩ => ⟨by rw [h1]; simp, hid9 (hA.low.trans (h2.mono hA.low.size))⟩
    obtain ⟨ha, ho, ht⟩ := hq2
    have hle := tot_le s
    clear hcl hord hs n0 n1 hsf hw0 b0 e0
    rw [ha] at HAl
    rw [ho] at HOr
    rw [ht] at HTo
    have hvv : ((totS s).2 == (totS s).2) = true := by simp
    generalize (totS s).2 = tv at *
    go_enter Tryz.func5, Tryz.ntmps5
    go_wp2_with (first
      | (go_at_call 16; first | (refine HC0.out.mono ?_; clear HC0; rintro e W1 ⟨b0, d0, b1, d1, rfl, HS⟩) | (refine (HCl.out _ _ _ _ _ _ _ _ HA.out).mono ?_; clear HA; rintro e W1 ⟨b0, d0, b1, d1, rfl, HS⟩))
      | (go_at_call 18; refine (HOf.out _ _ _ _ _ HS.out).mono ?_; clear HOf HS; rintro e W2 ⟨p0, r0, p1, r1, p3, r3, p4, r4, p5, r5, p6, r6, rfl, ⟨x0, x1⟩, HA⟩)
      | (go_at_call 24; refine (HAl.out _ _ _ _ _ _ _ _ _ _ _ _ HS.out).mono ?_; clear HAl HS x0 x1; rintro e W3 ⟨fa, fn, fc, rfl, ⟨x0, x1⟩, HA⟩)
      | (go_at_call 25; refine (HOr.out _ _ _ _ _ _ _ _ _ _ _ _ HS.out).mono ?_; clear HOr HS x0 x1; rintro e W4 ⟨ga, gn, gc, rfl, ⟨x0, x1⟩, HA⟩)
      | (go_at_call 26; refine (HTo.out _ _ _ _ _ _ _ _ _ _ _ _ HS.out).mono ?_; clear HTo HS x0 x1; rintro e W5 ⟨rfl, ⟨x0, x1, y0, y1, y2, y3⟩, HA⟩)
      | (go_at_call 13; refine (num10_any _ _).mono ?_; rintro e W9 ⟨rfl, w9e⟩; rw [w9e]; clear w9e)
      | (go_at_call 22; refine (HSa.out _ _ _ _ _ _ _ _ HA.out).mono ?_; clear HSa HA; rintro e W6 ⟨rfl, HB⟩)
      | (go_at_call 15; refine (HKn.out _ HB.out).mono ?_; clear HKn HB; rintro e W7 ⟨rfl, HB⟩)
      | fail)
    all_goals first | (go_ret; exact ⟨rfl, HB.out⟩) | (exfalso; omega) | (exfalso; simp_all; done) | (exfalso; simp_all; omega)
  · have HOf : Hid (∀ b0 d0 b1 d1 W, ScIs W.cell? s (.slice b0 s.consts.length d0) (.slice b1 s.funcs.length d1) ∧ Below w.heap.size w W ∧ W.heap[w.heap.size]? = some (.cells #[.slice a0 s.consts.length c0, .slice a1 s.funcs.length c1] 27 (0, 0)) → Calls Tryz.prog 18 #[.agg #[.slice b0 s.consts.length d0, .slice b1 s.funcs.length d1]] W fun e W2 => e = .returned (.tuple #[.agg #[.slice none 0 0, .slice none 0 0, .int .i64 0, .slice none 0 0, .slice none 0 0, .slice none 0 0, .slice none 0 0], .int .i64 (ofE s)]) ∧ ((W2.alloc (.cells #[.slice none 0 0, .slice none 0 0, .int .i64 0, .slice none 0 0, .slice none 0 0, .slice none 0 0, .slice none 0 0] 30)).cell? ⟨w.heap.size, 0, none⟩ = some (.slice a0 s.consts.length c0) ∧ (W2.alloc (.cells #[.slice none 0 0, .slice none 0 0, .int .i64 0, .slice none 0 0, .slice none 0 0, .slice none 0 0, .slice none 0 0] 30)).cell? ⟨w.heap.size, 1, none⟩ = some (.slice a1 s.funcs.length c1)) ∧ Hid (Aft s w (W2.alloc (.cells #[.slice none 0 0, .slice none 0 0, .int .i64 0, .slice none 0 0, .slice none 0 0, .slice none 0 0, .slice none 0 0] 30)) W2.heap.size (.slice a0 s.consts.length c0) (.slice a1 s.funcs.length c1) (.slice none 0 0) (.slice none 0 0) (.int .i64 0) (.slice none 0 0))) := hid9 fun b0 d0 b1 d1 W ⟨h1, h2, h3⟩ => (of_any s _ _ W h1 hsf).mono fun e W2 ⟨h4, h5⟩ => by
      rcases h5 with ⟨h6, h7⟩ | ⟨h6, v0, v1, sa, sc, da, dc, oa, oc, g, d, o, h7, hR⟩
      · have e2 : W2.heap[w.heap.size]? = some (.cells #[.slice a0 s.consts.length c0, .slice a1 s.funcs.length c1] 27 (0, 0)) := (h4.block _ (heap_lt h3)).trans h3
        have kw : Below w.heap.size w W2 := h2.trans (h4.mono h2.size)
        obtain ⟨W3, hW3⟩ : ∃ W3, W3 = W2.alloc (.cells #[.slice none 0 0, .slice none 0 0, .int .i64 0, .slice none 0 0, .slice none 0 0, .slice none 0 0, .slice none 0 0] 30) := ⟨_, rfl⟩
        have b3 : Below W2.heap.size W2 W3 := by rw [hW3]; exact (Below.refl _ _).alloc (Nat.le_refl _) _
        have e3 := (b3.block _ (heap_lt e2)).trans e2
        have e4 : W3.heap[W2.heap.size]? = some (.cells #[.slice none 0 0, .slice none 0 0, .int .i64 0, .slice none 0 0, .slice none 0 0, .slice none 0 0, .slice none 0 0] 30 (0, 0)) := by rw [hW3]; exact heap_alloc_new W2 _
        rw [← hW3]
        exact ⟨h7, ⟨Lib.cell_of_heap e3 0, Lib.cell_of_heap e3 1⟩, hid9 ⟨⟨Lib.cell_of_heap e3 0, Lib.cell_of_heap e3 1, Lib.cell_of_heap e4 0, Lib.cell_of_heap e4 1, Lib.cell_of_heap e4 2, Lib.cell_of_heap e4 3⟩, kw.trans (b3.mono kw.size), fun q => absurd q hoe⟩⟩
      · exact absurd h6 hoe
    have HCl : Hid (∀ rb W, Aft s w W rb (.slice a0 s.consts.length c0) (.slice a1 s.funcs.length c1) (.slice none 0 0) (.slice none 0 0) (.int .i64 0) (.slice none 0 0) → Calls Tryz.prog 16 #[.agg #[.slice a0 s.consts.length c0, .slice a1 s.funcs.length c1]] W fun e W1 => ∃ b0 d0 b1 d1, e = .returned (.agg #[.slice b0 s.consts.length d0, .slice b1 s.funcs.length d1]) ∧ Hid (ScIs W1.cell? s (.slice b0 s.consts.length d0) (.slice b1 s.funcs.length d1) ∧ Aft s w W1 rb (.slice a0 s.consts.length c0) (.slice a1 s.funcs.length c1) (.slice none 0 0) (.slice none 0 0) (.int .i64 0) (.slice none 0 0))) := hid9 fun rb W hA => (hcl W hA.low).mono fun e W1 ⟨b0', d0, b1, d1, h1, h2, h3⟩ => ⟨b0', d0, b1, d1, h1, hid9 ⟨h2, hA.keep h3⟩⟩
    have HAl : Hid (∀ rb b0 d0 b1 d1 W, ScIs W.cell? s (.slice b0 s.consts.length d0) (.slice b1 s.funcs.length d1) ∧ Aft s w W rb (.slice a0 s.consts.length c0) (.slice a1 s.funcs.length c1) (.slice none 0 0) (.slice none 0 0) (.int .i64 0) (.slice none 0 0) → Calls Tryz.prog 24 #[.agg #[.slice b0 s.consts.length d0, .slice b1 s.funcs.length d1]] W fun e W1 => ∃ a n c, e = .returned (.tuple #[.slice a n c, .int .i64 (allS s).1]) ∧ (W1.cell? ⟨w.heap.size, 0, none⟩ = some (.slice a0 s.consts.length c0) ∧ W1.cell? ⟨w.heap.size, 1, none⟩ = some (.slice a1 s.funcs.length c1)) ∧ Hid (Aft s w W1 rb (.slice a0 s.consts.length c0) (.slice a1 s.funcs.length c1) (.slice none 0 0) (.slice none 0 0) (.int .i64 0) (.slice none 0 0))) := hid9 fun rb b0 d0 b1 d1 W ⟨h1, hA⟩ => (all7_any s _ _ W h1 hsf).mono fun e W1 ⟨a, c, h2, _, h3⟩ => ⟨a, _, c, h2, ⟨(hA.keep h3).cel.1, (hA.keep h3).cel.2.1⟩, hid9 (hA.keep h3)⟩
    have HOr : Hid (∀ rb b0 d0 b1 d1 W, ScIs W.cell? s (.slice b0 s.consts.length d0) (.slice b1 s.funcs.length d1) ∧ Aft s w W rb (.slice a0 s.consts.length c0) (.slice a1 s.funcs.length c1) (.slice none 0 0) (.slice none 0 0) (.int .i64 0) (.slice none 0 0) → Calls Tryz.prog 25 #[.agg #[.slice b0 s.consts.length d0, .slice b1 s.funcs.length d1]] W fun e W1 => ∃ a n c, e = .returned (.tuple #[.slice a n c, .int .i64 (ordE10 s)]) ∧ (W1.cell? ⟨w.heap.size, 0, none⟩ = some (.slice a0 s.consts.length c0) ∧ W1.cell? ⟨w.heap.size, 1, none⟩ = some (.slice a1 s.funcs.length c1)) ∧ Hid (Aft s w W1 rb (.slice a0 s.consts.length c0) (.slice a1 s.funcs.length c1) (.slice none 0 0) (.slice none 0 0) (.int .i64 0) (.slice none 0 0))) := hid9 fun rb b0 d0 b1 d1 W ⟨h1, hA⟩ => (hord W b0 d0 b1 d1 h1).mono fun e W1 ⟨a, n, c, h2, h3⟩ => ⟨a, n, c, h2, ⟨(hA.keep h3).cel.1, (hA.keep h3).cel.2.1⟩, hid9 (hA.keep h3)⟩
    have HTo : Hid (∀ rb b0 d0 b1 d1 W, ScIs W.cell? s (.slice b0 s.consts.length d0) (.slice b1 s.funcs.length d1) ∧ Aft s w W rb (.slice a0 s.consts.length c0) (.slice a1 s.funcs.length c1) (.slice none 0 0) (.slice none 0 0) (.int .i64 0) (.slice none 0 0) → Calls Tryz.prog 26 #[.agg #[.slice b0 s.consts.length d0, .slice b1 s.funcs.length d1]] W fun e W1 => e = .returned (.tuple #[.int .i64 (totS s).2, .int .i64 (totS s).1]) ∧ Cel10 W1 w.heap.size rb (.slice a0 s.consts.length c0) (.slice a1 s.funcs.length c1) (.slice none 0 0) (.slice none 0 0) (.int .i64 0) (.slice none 0 0) ∧ Hid (Aft s w W1 rb (.slice a0 s.consts.length c0) (.slice a1 s.funcs.length c1) (.slice none 0 0) (.slice none 0 0) (.int .i64 0) (.slice none 0 0))) := hid9 fun rb b0 d0 b1 d1 W ⟨h1, hA⟩ => (total9_any s _ _ W h1 hsf).mono fun e W1 ⟨h2, h3⟩ => ⟨h2, (hA.keep h3).cel, hid9 (hA.keep h3)⟩
    have hne : (ofE s != 0) = true := by simpa using hoe
    have hq : ofE s = (allS s).1 ∨ ofE s = ordE10 s ∨ ofE s = (totS s).1 := hq3
    have hng : ¬ ((allS s).1 = 0 ∧ ordE10 s = 0 ∧ (totS s).1 = 0) := hq2
    clear hcl hord hs n0 n1 hsf hw0 b0 e0
    generalize (allS s).1 = fe at *
    generalize ordE10 s = ge at *
    generalize (totS s).1 = he at *
    generalize (totS s).2 = tv at *
    generalize hoE : ofE s = oe at *
    clear hoE
    have hsplit : (fe ≠ 0 ∨ (fe = 0 ∧ ge ≠ 0)) ∨ (fe = 0 ∧ ge = 0 ∧ he ≠ 0) := by omega
    clear hng
    go_enter Tryz.func5, Tryz.ntmps5
    go_wp2_with (first
      | (go_at_call 16; first | (refine HC0.out.mono ?_; clear HC0; rintro e W1 ⟨b0, d0, b1, d1, rfl, HS⟩) | (refine (HCl.out _ _ HA.out).mono ?_; clear HA; rintro e W1 ⟨b0, d0, b1, d1, rfl, HS⟩))
      | (go_at_call 18; refine (HOf.out _ _ _ _ _ HS.out).mono ?_; clear HOf HS; rintro e W2 ⟨rfl, ⟨x0, x1⟩, HA⟩)
      | (go_at_call 24; refine (HAl.out _ _ _ _ _ _ HS.out).mono ?_; clear HAl HS x0 x1; rintro e W3 ⟨fa, fn, fc, rfl, ⟨x0, x1⟩, HA⟩)
      | (go_at_call 25; refine (HOr.out _ _ _ _ _ _ HS.out).mono ?_; clear HOr HS x0 x1; rintro e W4 ⟨ga, gn, gc, rfl, ⟨x0, x1⟩, HA⟩)
      | (go_at_call 26; refine (HTo.out _ _ _ _ _ _ HS.out).mono ?_; clear HTo HS x0 x1; rintro e W5 ⟨rfl, ⟨x0, x1, y0, y1, y2, y3⟩, HA⟩)
      | (go_at_call 13; refine (num10_any _ _).mono ?_; rintro e W9 ⟨rfl, w9e⟩; rw [w9e]; clear w9e)
      | (go_at_call 15; refine (HKn.out _ HA.out.low).mono ?_; clear HKn HA; rintro e W7 ⟨rfl, HB⟩)
      | fail)
    all_goals first | (go_ret; exact ⟨rfl, HB.out⟩) | (exfalso; omega) | (exfalso; simp_all; done) | (exfalso; simp_all; omega)
end Go.Proofs.YtfnpngbcnmglfaaGreat
