/- The law BoundFuncs. -/
import Derived.Test.YtodagpmcmjleaaaGreatYU
import Derived.Test.YtodagpmcmjleaaaGreatXQa
namespace Go.Proofs.YtodagpmcmjleaaaGreat
open Go.RowKit
theorem funL_len (s : Scr) : (funS s).2.length ≤ 16 := by
  rcases fun_err s with ⟨_, h, hr, _⟩ | ⟨_, h⟩
  · have := (right_calls hr).1; omega
  · rw [h]; simp
set_option maxRecDepth 100000 in
set_option maxHeartbeats 2000000 in
theorem funcs_law (s : Scr) (V0 V1 : Value) (w : World) (hs : ScIs w.cell? s V0 V1) (hsf : s.fits) (hI64 : ∀ f ∈ s.funcs, ∀ x ∈ f.code, -9223372036854775808 ≤ x.2 ∧ x.2 ≤ 9223372036854775807) :
    Calls Tryz.prog 3 #[.agg #[V0, V1]] w fun e w' => e = .returned (.bool true) ∧ Below w.heap.size w w' := by
  obtain ⟨⟨a0, c0, rfl, n0⟩, ⟨a1, c1, rfl, n1⟩⟩ := hs
  have hs : ScIs w.cell? s (.slice a0 s.consts.length c0) (.slice a1 s.funcs.length c1) := ⟨⟨a0, c0, rfl, n0⟩, ⟨a1, c1, rfl, n1⟩⟩
  have hl := funL_len s
  have HC : Hid (Calls Tryz.prog 4 #[.agg #[.slice a0 s.consts.length c0, .slice a1 s.funcs.length c1]] (w.alloc (.cells #[.slice a0 s.consts.length c0, .slice a1 s.funcs.length c1] 25)) fun e w2 => ∃ b0 d0 b1 d1, e = .returned (.agg #[.slice b0 s.consts.length d0, .slice b1 s.funcs.length d1]) ∧
      Hid (Calls Tryz.prog 5 #[.agg #[.slice b0 s.consts.length d0, .slice b1 s.funcs.length d1]] (w2.alloc (.cells #[.slice b0 s.consts.length d0, .slice b1 s.funcs.length d1] 25)) fun e w3 => ∃ a c, e = .returned (.tuple #[.slice a (funS s).2.length c, .int .i64 (funS s).1]) ∧ (w3.cell? ⟨w.heap.size, 0, none⟩ = some (.slice a0 s.consts.length c0) ∧ w3.cell? ⟨w.heap.size, 1, none⟩ = some (.slice a1 s.funcs.length c1)) ∧
        Hid (Calls Tryz.prog 6 #[.agg #[.slice a0 s.consts.length c0, .slice a1 s.funcs.length c1]] w3 fun e w4 => ∃ b d, e = .returned (.tuple #[.slice b (funS s).2.length d, .int .i64 (funS s).1]) ∧ (w4.cell? ⟨w2.heap.size, 0, none⟩ = some (.slice b0 s.consts.length d0) ∧ w4.cell? ⟨w2.heap.size, 1, none⟩ = some (.slice b1 s.funcs.length d1)) ∧
          Hid (Calls Tryz.prog 7 #[.agg #[.slice b0 s.consts.length d0, .slice b1 s.funcs.length d1]] w4 fun e w5 => e = .returned (.tuple #[.int .i64 (totS s).2, .int .i64 (totS s).1]) ∧ (w5.cell? ⟨w.heap.size, 0, none⟩ = some (.slice a0 s.consts.length c0) ∧ w5.cell? ⟨w.heap.size, 1, none⟩ = some (.slice a1 s.funcs.length c1)) ∧
            Hid (Calls Tryz.prog 8 #[.agg #[.slice a0 s.consts.length c0, .slice a1 s.funcs.length c1]] w5 fun e w6 => e = .returned (.tuple #[.int .i64 (totS s).2, .int .i64 (totS s).1]) ∧
              Hid (Calls Tryz.prog 9 #[.slice a (funS s).2.length c, .slice b (funS s).2.length d] w6 fun e w8 => e = .returned (.bool true) ∧ (w8.cell? ⟨w.heap.size, 0, none⟩ = some (.slice a0 s.consts.length c0) ∧ w8.cell? ⟨w.heap.size, 1, none⟩ = some (.slice a1 s.funcs.length c1) ∧ w8.cell? ⟨w2.heap.size, 0, none⟩ = some (.slice b0 s.consts.length d0) ∧ w8.cell? ⟨w2.heap.size, 1, none⟩ = some (.slice b1 s.funcs.length d1)) ∧
                  Hid (Calls Tryz.prog 11 #[.agg #[.slice b0 s.consts.length d0, .slice b1 s.funcs.length d1], .agg #[.slice a0 s.consts.length c0, .slice a1 s.funcs.length c1]] w8 fun e w9 => e = .returned (.bool true) ∧ Hid (Below w.heap.size w w9)))))))) := hid9 ((clone_box s _ _ w hs hsf).mono fun e w2 ⟨b0, d0, b1, d1, h1, h2⟩ => ⟨b0, d0, b1, d1, h1, hid9 ((funcs9_any s _ _ _ h2.out.c hsf).mono fun e w3 ⟨a, c, h3, h4, h5⟩ => by
    have x3 := h2.out.below h5
    refine ⟨a, c, h3, x3.sc, hid9 ((rfuncs9_any s _ _ w3 (hs.keep (below_keep x3.b)) hsf hI64).mono fun e w4 ⟨b, d, h6, h7, h8⟩ => ?_)⟩
    have x4 := x3.below h8
    refine ⟨b, d, h6, x4.xc, hid9 ((total9_any s _ _ w4 x4.c hsf).mono fun e w5 ⟨h9, h10⟩ => ?_)⟩
    have x5 := x4.below h10
    refine ⟨h9, x5.sc, hid9 ((rtotal9_any s _ _ w5 (hs.keep (below_keep x5.b)) hsf hI64).mono fun e w6 ⟨h11, h12⟩ => ?_)⟩
    have x6 := x5.below h12
    have k46 : Below w4.heap.size w4 w6 := h10.trans (h12.mono h10.size)
    refine ⟨h11, hid9 ((lints_any a b c d _ _ (funS s).2 (funS s).2 rfl rfl w6 ((h4.keep (below_keep h8)).keep (below_keep k46)) (h7.keep (below_keep k46)) (by omega) (by omega)).mono fun e w7 ⟨h17, k7, e7⟩ => ?_)⟩
    subst e7
    have x8 := x6.below (below_draws2 (Below.refl _ w6) k7)
    refine ⟨by rw [h17]; simp, ⟨x8.sc.1, x8.sc.2, x8.xc.1, x8.xc.2⟩, hid9 ((rsame_any s s _ _ _ _ _ x8.c (hs.keep (below_keep x8.b)) hsf hsf).mono fun e w9 ⟨h19, h20⟩ => ⟨by rw [h19]; simp, hid9 (x8.b.trans (h20.mono x8.b.size))⟩)⟩)⟩)
  clear hs n0 n1 hsf hI64 hl
  generalize (funS s).2.length = rl at HC
  generalize (funS s).1 = er at HC
  generalize (totS s).1 = te at HC
  generalize (totS s).2 = tv at HC
  generalize s.funcs.length = fl at HC ⊢
  generalize s.consts.length = cl at HC ⊢
  have hee : (er == er) = true := by simp
  have htt : (te == te) = true := by simp
  have hvv : (tv == tv) = true := by simp
  go_enter Tryz.func3, Tryz.ntmps3
  go_wp2_with (first
    | (go_at_call 4; refine HC.out.mono ?_; clear HC; rintro e w2 ⟨b0, d0, b1, d1, rfl, H2⟩)
    | (go_at_call 5; refine H2.out.mono ?_; clear H2; rintro e w3 ⟨a, c, rfl, ⟨s0, s1⟩, H3⟩)
    | (go_at_call 6; refine H3.out.mono ?_; clear H3; rintro e w4 ⟨b, d, rfl, ⟨x0, x1⟩, H4⟩)
    | (go_at_call 7; refine H4.out.mono ?_; clear H4; rintro e w5 ⟨rfl, ⟨z0, z1⟩, H5⟩)
    | (go_at_call 8; refine H5.out.mono ?_; clear H5; rintro e w6 ⟨rfl, H6⟩)
    | (go_at_call 9; refine H6.out.mono ?_; clear H6; rintro e w8 ⟨rfl, ⟨y0, y1, y2, y3⟩, H8⟩)
    | (go_at_call 11; refine H8.out.mono ?_; clear H8; rintro e w9 ⟨rfl, B9⟩)
    | (go_at_call 10; refine (num9_any _ _).mono ?_; rintro e w10 ⟨rfl, w10e⟩; rw [w10e]; clear w10e)
    | (go_at_call 12; refine (knows9_any _).mono ?_; rintro e w11 ⟨rfl, b11⟩)
    | fail)
  go_ret
  exact ⟨rfl, B9.out.trans (b11.mono B9.out.size)⟩
end Go.Proofs.YtodagpmcmjleaaaGreat
