/- The law CallsGraphs. -/
import Derived.Test.YtikomfbpaimnmaaXQb
namespace Go.Proofs.Ytikomfbpaimnmaa
open Go.RowKit
set_option maxRecDepth 100000 in
set_option maxHeartbeats 2000000 in
theorem graphs8_any (s : Scr) (V0 V1 : Value) (f : Int) (w : World) (hs : ScIs w.cell? s V0 V1) (hsf : s.fits) (hI64 : ∀ f ∈ s.funcs, ∀ x ∈ f.code, -9223372036854775808 ≤ x.2 ∧ x.2 ≤ 9223372036854775807) :
    Calls Try.prog 3 #[.agg #[V0, V1], .int .i64 f] w fun e w' => e = .returned (.bool true) ∧ Below w.heap.size w w' := by
  obtain ⟨⟨a0, c0, rfl, n0⟩, ⟨a1, c1, rfl, n1⟩⟩ := hs
  have hs : ScIs w.cell? s (.slice a0 s.consts.length c0) (.slice a1 s.funcs.length c1) := ⟨⟨a0, c0, rfl, n0⟩, ⟨a1, c1, rfl, n1⟩⟩
  have hl := grR_len s
  have hq := reachS_len s f
  have HC : Hid (Calls Try.prog 8 #[.agg #[.slice a0 s.consts.length c0, .slice a1 s.funcs.length c1]] (w.alloc (.cells #[.slice a0 s.consts.length c0, .slice a1 s.funcs.length c1] 25)) fun e w2 => ∃ b0 d0 b1 d1, e = .returned (.agg #[.slice b0 s.consts.length d0, .slice b1 s.funcs.length d1]) ∧
      Hid (Calls Try.prog 9 #[.agg #[.slice b0 s.consts.length d0, .slice b1 s.funcs.length d1]] (w2.alloc (.cells #[.slice b0 s.consts.length d0, .slice b1 s.funcs.length d1] 25)) fun e w3 => ∃ a c, e = .returned (.tuple #[.slice a (grR s).length c, .int .i64 (grE s)]) ∧ (w3.cell? ⟨w.heap.size, 0, none⟩ = some (.slice a0 s.consts.length c0) ∧ w3.cell? ⟨w.heap.size, 1, none⟩ = some (.slice a1 s.funcs.length c1)) ∧
        Hid (Calls Try.prog 10 #[.agg #[.slice a0 s.consts.length c0, .slice a1 s.funcs.length c1]] w3 fun e w4 => ∃ b d, e = .returned (.tuple #[.slice b (grR s).length d, .int .i64 (grE s)]) ∧
          Hid (Bx2 s (.slice a0 s.consts.length c0) (.slice a1 s.funcs.length c1) (.slice b0 s.consts.length d0) (.slice b1 s.funcs.length d1) w2.heap.size w w4 ∧ RsAt w4.cell? a (grR s) ∧ RsAt w4.cell? b (grR s))))) := hid7 ((clone_box s _ _ w hs hsf).mono fun e w2 ⟨b0, d0, b1, d1, h1, h2⟩ => ⟨b0, d0, b1, d1, h1, hid7 ((graph_any s _ _ _ h2.out.c hsf).mono fun e w3 hg3 => by
    obtain ⟨a, c, h3, h4, h5⟩ := graph_end hg3
    have x3 := h2.out.below h5
    refine ⟨a, c, h3, x3.sc, hid7 ((rgraph_any s _ _ w3 (hs.keep (below_keep x3.b)) hsf hI64).mono fun e w4 hg4 => ?_)⟩
    obtain ⟨b, d, h6, h7, h8⟩ := graph_end hg4
    exact ⟨b, d, h6, hid7 ⟨x3.below h8, h4.keep (below_keep h8), h7⟩⟩)⟩)
  have HSt : Hid (∀ W a b c d, RsAt W.cell? a (grR s) → RsAt W.cell? b (grR s) → Calls Try.prog 11 #[.slice a (grR s).length c, .slice b (grR s).length d] W.drew fun e w5 => e = .returned (.bool true) ∧ Hid (Below W.heap.size W w5)) := hid7 fun W a b c d h1 h2 => (lstacks_any (grR s) (grR s) a b c d _ _ rfl rfl (by omega) (by omega) (fun r hr => by have := hl.2 r hr; omega) (fun r hr => by have := hl.2 r hr; omega) W.drew h1 h2).mono fun e w5 ⟨h9, k5, e5⟩ => ⟨by rw [h9]; simp, hid7 (by rw [e5]; exact below_draws2 (Below.refl _ W).drew k5)⟩
  have HRe : Hid (∀ W u0 u1, ScIs W.cell? s u0 u1 → Calls Try.prog 14 #[.agg #[u0, u1], .int .i64 f] W fun e w6 => ∃ ra rc, e = .returned (.slice ra (reachS s f).length rc) ∧ Hid (NsAt w6.cell? ra (rowI (reachS s f)) ∧ Below W.heap.size W w6)) := hid7 fun W u0 u1 h => (reach_any s _ _ f _ h hsf).mono fun e w6 ⟨ra, rc, h10, h11, h12⟩ => ⟨ra, rc, h10, hid7 ⟨h11, h12⟩⟩
  have HRr : Hid (∀ W, Below w.heap.size w W → Calls Try.prog 15 #[.agg #[.slice a0 s.consts.length c0, .slice a1 s.funcs.length c1], .int .i64 f] W fun e w6 => ∃ ra rc, e = .returned (.slice ra (reachS s f).length rc) ∧ Hid (NsAt w6.cell? ra (rowI (reachS s f)) ∧ Below W.heap.size W w6)) := hid7 fun W h => (rreach_any s _ _ f _ (hs.keep (below_keep h)) hsf hI64).mono fun e w6 ⟨ra, rc, h10, h11, h12⟩ => ⟨ra, rc, h10, hid7 ⟨h11, h12⟩⟩
  have HIn : Hid (∀ W ra rc qa qc, NsAt W.cell? ra (rowI (reachS s f)) → NsAt W.cell? qa (rowI (reachS s f)) → Calls Try.prog 13 #[.slice ra (reachS s f).length rc, .slice qa (reachS s f).length qc] W fun e w8 => e = .returned (.bool true) ∧ Hid (Below W.heap.size W w8)) := hid7 fun W ra rc qa qc h1 h2 => (lints_any ra qa rc qc _ _ (rowI (reachS s f)) (rowI (reachS s f)) (by simp [rowI]) (by simp [rowI]) W h1 h2 (by omega) (by omega)).mono fun e w8 ⟨h16, k8, e8⟩ => ⟨by rw [h16]; simp, hid7 (by rw [e8]; exact below_draws2 (Below.refl _ W) k8)⟩
  have HSm : Hid (∀ W u0 u1, ScIs W.cell? s u0 u1 → Below w.heap.size w W → Calls Try.prog 16 #[.agg #[u0, u1], .agg #[.slice a0 s.consts.length c0, .slice a1 s.funcs.length c1]] W fun e w9 => e = .returned (.bool true) ∧ Hid (Below W.heap.size W w9)) := hid7 fun W u0 u1 h1 h2 => (rsame_any s s _ _ _ _ _ h1 (hs.keep (below_keep h2)) hsf hsf).mono fun e w9 ⟨h17, h18⟩ => ⟨by rw [h17]; simp, hid7 h18⟩
  clear hs n0 n1 hsf hI64 hl hq
  generalize hrl : (grR s).length = rl at HC HSt
  generalize grE s = er at HC
  generalize hql : (reachS s f).length = ql at HRe HRr HIn
  clear hrl hql
  generalize hfl : s.funcs.length = fl at HC HRr HSm ⊢
  generalize hcl : s.consts.length = cl at HC HRr HSm ⊢
  clear hfl hcl
  go_enter Try.func3, Try.ntmps3
  go_wp2_with (first
    | (go_at_call 8; refine HC.out.mono ?_; clear HC; rintro e w2 ⟨b0, d0, b1, d1, rfl, H2⟩)
    | (go_at_call 9; refine H2.out.mono ?_; clear H2; rintro e w3 ⟨a, c, rfl, ⟨s0, s1⟩, H3⟩)
    | (go_at_call 10; refine H3.out.mono ?_; clear H3; rintro e w4 ⟨b, d, rfl, H4⟩)
    | fail)
  obtain ⟨x4, r4, r5⟩ := H4.out
  obtain ⟨p0, p1⟩ := x4.sc
  obtain ⟨p2, p3⟩ := x4.xc
  have hSk : ∀ W, Below w4.heap.size w4 W → (W.cell? ⟨w.heap.size, 0, none⟩ = some (.slice a0 cl c0) ∧ W.cell? ⟨w.heap.size, 1, none⟩ = some (.slice a1 fl c1)) ∧ (W.cell? ⟨w2.heap.size, 0, none⟩ = some (.slice b0 cl d0) ∧ W.cell? ⟨w2.heap.size, 1, none⟩ = some (.slice b1 fl d1)) := fun W hW => by
    have hk := below_keep hW
    exact ⟨⟨hk _ _ p0, hk _ _ p1⟩, ⟨hk _ _ p2, hk _ _ p3⟩⟩
  have hX : Hid (∀ W, Below w4.heap.size w4 W → ScIs W.cell? s (.slice b0 cl d0) (.slice b1 fl d1) ∧ Below w.heap.size w W) := hid7 fun W hW => ⟨x4.c.keep (below_keep hW), x4.b.trans (hW.mono x4.b.size)⟩
  have hSt := HSt.out w4 a b c d r4 r5
  have hee : (er == er) = true := by simp
  clear H4 x4 r4 r5 HSt s0 s1
  go_region_held3 (fun W => (W.cell? ⟨w.heap.size, 0, none⟩ = some (.slice a0 cl c0) ∧ W.cell? ⟨w.heap.size, 1, none⟩ = some (.slice a1 fl c1)) ∧ (W.cell? ⟨w2.heap.size, 0, none⟩ = some (.slice b0 cl d0) ∧ W.cell? ⟨w2.heap.size, 1, none⟩ = some (.slice b1 fl d1))) (first | go_keep | exact hSk _ q11 | exact hSk _ q9 | exact hSk _ q8 | exact hSk _ q7 | exact hSk _ q6 | exact hSk _ q5) (first
    | (go_at_call 11; refine hSt.mono ?_; rintro e w5 ⟨rfl, y5⟩; clear hSt; have q5 := y5.out; have hR5 := HRe.out w5 _ _ (hX.out w5 q5).1; clear HRe)
    | (go_at_call 12; refine (num8_any _ _).mono ?_; rintro e w10 ⟨rfl, w10e⟩; rw [w10e]; clear w10e)
    | (go_at_call 14; refine hR5.mono ?_; rintro e w6 ⟨ra, rc, rfl, y6⟩; clear hR5; have q6 := q5.trans (y6.out.2.mono q5.size); have hR6 := HRr.out w6 (hX.out w6 q6).2; clear HRr)
    | (go_at_call 15; refine hR6.mono ?_; rintro e w7 ⟨qa, qc, rfl, y7⟩; clear hR6; have q7 := q6.trans (y7.out.2.mono q6.size); have hI7 := HIn.out w7 ra rc qa qc (y6.out.1.keep (below_keep y7.out.2)) y7.out.1; clear HIn)
    | (go_at_call 13; refine hI7.mono ?_; rintro e w8 ⟨rfl, y8⟩; clear hI7; have q8 := q7.trans (y8.out.mono q7.size); have hS8 := HSm.out w8 _ _ (hX.out w8 q8).1 (hX.out w8 q8).2; clear HSm)
    | (go_at_call 16; refine hS8.mono ?_; rintro e w9 ⟨rfl, y9⟩; clear hS8; have q9 := q8.trans (y9.out.mono q8.size))
    | (go_at_call 17; refine (knows8_any w9).mono ?_; rintro e w11 ⟨rfl, y11⟩; have q11 := q9.trans (y11.mono q9.size)))
  go_wp2_with fail
  go_ret
  exact ⟨rfl, (hX.out _ q11).2⟩
end Go.Proofs.Ytikomfbpaimnmaa
