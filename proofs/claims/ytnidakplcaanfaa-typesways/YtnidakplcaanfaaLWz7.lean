/- The law TypesWays: the walk (gen_wy.py writes it). -/
import Derived.Test.YtnidakplcaanfaaLWy7
namespace Go.Proofs.Ytnidakplcaanfaa
open Go.RowKit Go.Shelf
set_option maxRecDepth 100000 in
set_option maxHeartbeats 1000000 in
theorem ways7_no (s : Scr) (V0 V1 : Value) (n : Int) (w : World) (hs : ScIs w.cell? s V0 V1) (hsf : s.fits) (hI64 : ∀ f ∈ s.funcs, ∀ x ∈ f.code, -9223372036854775808 ≤ x.2 ∧ x.2 ≤ 9223372036854775807) (hr : s.right = false) :
    Calls Try.prog 5 #[.agg #[V0, V1], .int .i64 n] w fun e w' => e = .returned (.bool true) ∧ Below w.heap.size w w' := by
  obtain ⟨⟨a0, c0, rfl, n0⟩, ⟨a1, c1, rfl, n1⟩⟩ := hs
  have hs : ScIs w.cell? s (.slice a0 s.consts.length c0) (.slice a1 s.funcs.length c1) := ⟨⟨a0, c0, rfl, n0⟩, ⟨a1, c1, rfl, n1⟩⟩
  have b1 := (Below.refl _ w).alloc (Nat.le_refl _) (.cells #[.slice a0 s.consts.length c0, .slice a1 s.funcs.length c1] 25)
  have HR : Hid (Calls Try.prog 20 #[.agg #[.slice a0 s.consts.length c0, .slice a1 s.funcs.length c1]] (w.alloc (.cells #[.slice a0 s.consts.length c0, .slice a1 s.funcs.length c1] 25)) fun e W1 => e = .returned (.bool false) ∧ Hid (Below w.heap.size w W1)) := hid7 ((rright4_any s _ _ _ (hs.keep (below_keep b1)) hsf hI64).mono fun e W1 ⟨h1, h2⟩ => ⟨by rw [h1, hr], hid7 (b1.trans (h2.mono b1.size))⟩)
  clear hs n0 n1 hsf hI64 b1 hr
  generalize s.funcs.length = fl at *
  generalize s.consts.length = cl at *
  go_enter Try.func5, Try.ntmps5
  go_wp2_with (first
    | (go_at_call 20; refine HR.out.mono ?_; clear HR; rintro e W1 ⟨rfl, B1⟩)
    | (go_at_call 14; refine (knows7_any _).mono ?_; rintro e w8 ⟨rfl, b8⟩)
    | fail)
  go_ret
  exact ⟨rfl, B1.out.trans (b8.mono B1.out.size)⟩
/-- Right, the copy and its check. -/
theorem ways_chain (s : Scr) (a0 : Option Addr) (c0 fb fo c1 k : Nat) (w : World) (hs : ScIs w.cell? s (.slice a0 s.consts.length c0) (.slice (some ⟨fb, fo, none⟩) s.funcs.length c1)) (hsf : s.fits) (hI64 : ∀ f ∈ s.funcs, ∀ x ∈ f.code, -9223372036854775808 ≤ x.2 ∧ x.2 ≤ 9223372036854775807) (hr : s.right = true) (hk : k < s.funcs.length) (g : Fn) (hg : s.funcs[k] = g) :
    ∃ a5 c5 a4 c4 a6 c6 a3 c3, Hid (Calls Try.prog 20 #[.agg #[.slice a0 s.consts.length c0, .slice (some ⟨fb, fo, none⟩) s.funcs.length c1]] (w.alloc (.cells #[.slice a0 s.consts.length c0, .slice (some ⟨fb, fo, none⟩) s.funcs.length c1] 25)) fun e W1 => e = .returned (.bool true) ∧ (W1.cell? ⟨w.heap.size, 0, none⟩ = some (.slice a0 s.consts.length c0) ∧ W1.cell? ⟨w.heap.size, 1, none⟩ = some (.slice (some ⟨fb, fo, none⟩) s.funcs.length c1)) ∧ (W1.cell? ⟨fb, fo + k * 4, none⟩ = some (.slice a5 g.p.length c5) ∧ W1.cell? ⟨fb, fo + k * 4 + 1, none⟩ = some (.slice a4 g.r.length c4) ∧ W1.cell? ⟨fb, fo + k * 4 + 2, none⟩ = some (.slice a6 g.l.length c6) ∧ W1.cell? ⟨fb, fo + k * 4 + 3, none⟩ = some (.slice a3 g.code.length c3)) ∧
      Hid (∀ q, Calls Try.prog 8 #[.agg #[.slice a0 s.consts.length c0, .slice (some ⟨fb, fo, none⟩) s.funcs.length c1]] ((W1.drewN q).alloc (.cells #[.slice a5 g.p.length c5, .slice a4 g.r.length c4, .slice a6 g.l.length c6, .slice a3 g.code.length c3] 50)) fun e W2 => ∃ b0 d0 b1 d1, e = .returned (.agg #[.slice b0 s.consts.length d0, .slice b1 s.funcs.length d1]) ∧
        Hid (Calls Try.prog 9 #[.agg #[.slice b0 s.consts.length d0, .slice b1 s.funcs.length d1], .int .i64 k] W2 fun e W3 => ∃ a c, e = .returned (.tuple #[.slice a (stacksS s.funcs g).2.length c, .int .i64 (stacksS s.funcs g).1]) ∧ W3.cell? ⟨(W1.drewN q).heap.size, 3, none⟩ = some (.slice a3 g.code.length c3) ∧ Hid (SlAt W2.heap.size W3 a (stacksS s.funcs g).2 ∧ CkX s.funcs g (.slice a0 s.consts.length c0) (some ⟨fb, fo, none⟩) c1 s.funcs.length w.heap.size (W1.drewN q).heap.size (.slice a5 g.p.length c5) (.slice a4 g.r.length c4) (.slice a6 g.l.length c6) (.slice a3 g.code.length c3) w W3)))) := by
  have hgl : fnAt s.funcs k = g := by rw [← fnAt_get hk, hg]
  have hF := hs.2
  obtain ⟨_, _, e1, n1⟩ := hF
  cases e1
  obtain ⟨v0, v1, v2, v3, q0, q1, q2, q3, hFn⟩ : ∃ v0 v1 v2 v3, w.cell? ⟨fb, fo + k * 4, none⟩ = some v0 ∧ w.cell? ⟨fb, fo + k * 4 + 1, none⟩ = some v1 ∧ w.cell? ⟨fb, fo + k * 4 + 2, none⟩ = some v2 ∧ w.cell? ⟨fb, fo + k * 4 + 3, none⟩ = some v3 ∧ FnIs w.cell? g v0 v1 v2 v3 := by
    rcases n1 with h0 | ⟨b, off, e, h⟩
    · rw [h0] at hk; cases hk
    · cases e
      obtain ⟨v0, v1, v2, v3, h⟩ := h k hk
      rw [hg] at h
      exact ⟨v0, v1, v2, v3, h⟩
  have hFn' := hFn
  obtain ⟨⟨a5, c5, e5, _⟩, ⟨a4, c4, e4, n4⟩, ⟨a6, c6, e6, _⟩, ⟨a3, c3, e3, n3⟩⟩ := hFn'
  subst e3 e4 e5 e6
  have b1 := (Below.refl _ w).alloc (Nat.le_refl _) (.cells #[.slice a0 s.consts.length c0, .slice (some ⟨fb, fo, none⟩) s.funcs.length c1] 25)
  refine ⟨a5, c5, a4, c4, a6, c6, a3, c3, hid7 ((rright4_any s _ _ _ (hs.keep (below_keep b1)) hsf hI64).mono fun e W1 ⟨h1, h2⟩ => ?_)⟩
  have e2 : (w.alloc (.cells #[.slice a0 s.consts.length c0, .slice (some ⟨fb, fo, none⟩) s.funcs.length c1] 25)).heap[w.heap.size]? = some (.cells #[.slice a0 s.consts.length c0, .slice (some ⟨fb, fo, none⟩) s.funcs.length c1] 25 (0, 0)) := heap_alloc_new w _
  have e3 := (h2.block _ (blk_lt e2)).trans e2
  have bw1 := b1.trans (h2.mono b1.size)
  have kk := below_keep bw1
  refine ⟨by rw [h1, hr], ⟨by rw [Lib.cell_of_heap e3]; rfl, by rw [Lib.cell_of_heap e3]; rfl⟩, ⟨kk _ _ q0, kk _ _ q1, kk _ _ q2, kk _ _ q3⟩, hid7 fun q => ?_⟩
  have hq : (W1.drewN q).heap = W1.heap := by simp
  have e3 : (W1.drewN q).heap[w.heap.size]? = _ := (congrArg (·[w.heap.size]?) hq).trans e3
  have bw1 := below_draws2 bw1 q
  clear hq kk h2
  generalize W1.drewN q = W1 at *
  have b2 := (Below.refl _ W1).alloc (Nat.le_refl _) (.cells #[.slice a5 g.p.length c5, .slice a4 g.r.length c4, .slice a6 g.l.length c6, .slice a3 g.code.length c3] 50)
  have bw2 := bw1.trans (b2.mono bw1.size)
  refine (rclone_any s _ _ _ (hs.keep (below_keep bw2)) hsf).mono fun e W2 ⟨u0, u1, m1, m2, m3⟩ => ?_
  obtain ⟨⟨d0, f0, rfl, x0⟩, ⟨d1, f1, rfl, x1⟩⟩ := m2
  refine ⟨d0, f0, d1, f1, m1, hid7 ((check7_any s _ _ k W2 ⟨⟨d0, f0, rfl, x0⟩, ⟨d1, f1, rfl, x1⟩⟩ hsf).mono fun e W3 ⟨a, c, h4, h5, h6⟩ => ?_)⟩
  have ec : checkS s k = stacksS s.funcs g := by rw [checkS, if_pos hr, if_pos (by omega), hgl]
  rw [ec] at h4 h5
  have bw3 := (bw2.trans (m3.mono bw2.size)).trans (h6.mono (Nat.le_trans bw2.size m3.size))
  have e5 : (W1.alloc (.cells #[.slice a5 g.p.length c5, .slice a4 g.r.length c4, .slice a6 g.l.length c6, .slice a3 g.code.length c3] 50)).heap[W1.heap.size]? = some (.cells #[.slice a5 g.p.length c5, .slice a4 g.r.length c4, .slice a6 g.l.length c6, .slice a3 g.code.length c3] 50 (0, 0)) := heap_alloc_new W1 _
  have e6 := (m3.block _ (blk_lt e5)).trans e5
  have e7 := (h6.block _ (blk_lt e6)).trans e6
  have e8 := (m3.block _ (blk_lt ((b2.block _ (blk_lt e3)).trans e3))).trans ((b2.block _ (blk_lt e3)).trans e3)
  have e9 := (h6.block _ (blk_lt e8)).trans e8
  have k4 := below_keep bw3
  exact ⟨a, c, h4, by rw [Lib.cell_of_heap e7]; rfl, hid7 ⟨h5, ⟨by rw [Lib.cell_of_heap e9]; rfl, by rw [Lib.cell_of_heap e9]; rfl, by rw [Lib.cell_of_heap e7]; rfl, by rw [Lib.cell_of_heap e7]; rfl, by rw [Lib.cell_of_heap e7]; rfl, by rw [Lib.cell_of_heap e7]; rfl, n1.keep k4, hFn.keep k4, bw3⟩⟩⟩
set_option maxRecDepth 100000 in
set_option maxHeartbeats 1000000 in
theorem ways7_err (s : Scr) (a0 : Option Addr) (c0 fb fo c1 k : Nat) (n : Int) (w : World) (hs : ScIs w.cell? s (.slice a0 s.consts.length c0) (.slice (some ⟨fb, fo, none⟩) s.funcs.length c1)) (hsf : s.fits) (hI64 : ∀ f ∈ s.funcs, ∀ x ∈ f.code, -9223372036854775808 ≤ x.2 ∧ x.2 ≤ 9223372036854775807) (hr : s.right = true) (hk : k < s.funcs.length) (hn : (wrap64 (n.tmod (s.funcs.length : Int) + (s.funcs.length : Int))).tmod (s.funcs.length : Int) = k) (g : Fn) (hg : s.funcs[k] = g) (h0 : (stacksS s.funcs g).1 ≠ 0) :
    Calls Try.prog 5 #[.agg #[.slice a0 s.consts.length c0, .slice (some ⟨fb, fo, none⟩) s.funcs.length c1], .int .i64 n] w fun e w' => e = .returned (.bool true) ∧ Below w.heap.size w w' := by
  obtain ⟨a5, c5, a4, c4, a6, c6, a3, c3, HC⟩ := ways_chain s a0 c0 fb fo c1 k w hs hsf hI64 hr hk g hg
  have hbf := (right_facts hr).1
  have hrows := stacks_err h0
  have hne : ((stacksS s.funcs g).1 != 0) = true := by simpa using h0
  generalize stacksS s.funcs g = RR at *
  obtain ⟨er, rows⟩ := RR
  simp only at *
  subst hrows
  simp only [List.length_nil] at HC
  clear hs hsf hI64 hr hg h0
  generalize s.funcs = fs at *
  generalize fs.length = fl at *
  have e1 : ¬ ((fl : Int) = 0) := by omega
  have hk2 : (k : Int) < fl := by omega
  generalize s.consts.length = cl at *
  generalize g.code.length = N at *
  generalize g.p.length = pn at *
  generalize g.r.length = rn at *
  generalize g.l.length = ln at *
  go_enter Try.func5, Try.ntmps5
  go_wp2_with (first
    | (go_at_call 20; refine HC.out.mono ?_; clear HC; rintro e W1 ⟨rfl, ⟨d0, d1⟩, ⟨d2, d3, d4, d5⟩, H1⟩)
    | fail)
  go_quiet (fail)
  have e2 : (W1.drewN nq).cell? ⟨w.heap.size, 0, none⟩ = some (.slice a0 cl c0) ∧ (W1.drewN nq).cell? ⟨w.heap.size, 1, none⟩ = some (.slice (some ⟨fb, fo, none⟩) fl c1) ∧ (W1.drewN nq).cell? ⟨fb, fo + k * 4, none⟩ = some (.slice a5 pn c5) ∧ (W1.drewN nq).cell? ⟨fb, fo + k * 4 + 1, none⟩ = some (.slice a4 rn c4) ∧ (W1.drewN nq).cell? ⟨fb, fo + k * 4 + 2, none⟩ = some (.slice a6 ln c6) ∧ (W1.drewN nq).cell? ⟨fb, fo + k * 4 + 3, none⟩ = some (.slice a3 N c3) := ⟨d0, d1, d2, d3, d4, d5⟩
  have H2 := hid7 (H1.out nq)
  clear d0 d1 d2 d3 d4 d5 H1
  generalize W1.drewN nq = V1 at *
  obtain ⟨d0, d1, d2, d3, d4, d5⟩ := e2
  have l0 := World.block_lt_of_cell? V1 _ d0
  have l2 := World.block_lt_of_cell? V1 _ d2
  go_wp2_with (first
    | (go_at_call 8; refine H2.out.mono ?_; clear H2; rintro e W2 ⟨x0, y0, x1, y1, rfl, H3⟩)
    | (go_at_call 9; refine H3.out.mono ?_; clear H3; rintro e W3 ⟨a, c, rfl, z3, K3⟩)
    | (go_at_call 12; refine (num7_any _ _).mono ?_; rintro e w9 ⟨rfl, w9e⟩; rw [w9e]; clear w9e)
    | (go_at_call 14; refine (knows7_any _).mono ?_; rintro e w8 ⟨rfl, b8⟩)
    | fail)
  go_ret
  exact ⟨rfl, K3.out.2.bel.trans (b8.mono K3.out.2.bel.size)⟩
end Go.Proofs.Ytnidakplcaanfaa
