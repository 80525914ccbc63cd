/- The law TypesWays: where the check is good (gen_wu.py writes it). -/
import Derived.Test.YtnidakplcaanfaaLWz7
namespace Go.Proofs.Ytnidakplcaanfaa
open Go.RowKit Go.Shelf
theorem ck_code {fs : List Fn} {g : Fn} {V0 : Value} {a1 : Option Addr} {c1 fl Sb Fb : Nat} {u0 u1 u2 : Value} {a3 : Option Addr} {c3 N : Nat} {w : World} {W : World} (h : CkX fs g V0 a1 c1 fl Sb Fb u0 u1 u2 (.slice a3 N c3) w W) : IsAt W.cell? a3 g.code := by
  obtain ⟨_, _, _, ⟨a, c, e, h⟩⟩ := h.fn
  injection e with e1 e2 e3
  rw [e1]
  exact h
theorem not_le_of (j N : Nat) (h : j ≤ N) : ¬ ((N : Int) + 1 ≤ j) := by omega
theorem lt_of_le (j N : Nat) (h : j ≤ N) : (j : Int) < (N : Int) + 1 := by omega
theorem not_lt_of (j N : Nat) (h : j ≤ N) : ¬ ((N : Int) < j) := by omega
theorem wrap_succ {N : Nat} (h : N ≤ 256) : IntKind.i64.wrap ((N : Int) + 1) = N + 1 := by rw [IntKind.wrap_i64]; omega
theorem wrap64_succ {N : Nat} (h : N ≤ 256) : wrap64 ((N : Int) + 1) = N + 1 := by unfold wrap64; omega
theorem ways_match {fs : List Fn} {g : Fn} {ps : Nat → List Int} {V0 : Value} {a1 : Option Addr} {c1 fl Sb Fb : Nat} {u0 u1 u2 : Value} {a3 : Option Addr} {c3 N : Nat} {w : World} {B : Nat} {W3 : World} {a : Option Addr} {rows : List (List Int)} (hP : WP fs g ps) (hN : g.code.length = N) (bN : N ≤ 256) (hrows : rows = (List.range (N + 1)).map ps) (h : SlAt B W3 a rows) (hk : CkX fs g V0 a1 c1 fl Sb Fb u0 u1 u2 (.slice a3 N c3) w W3) :
    ∃ rb, a = some ⟨rb, 0, none⟩ ∧ Calls Try.prog 21 #[.slice a3 N c3] W3 fun e W4 => ∃ gb, e = .returned (.tuple #[.slice (some ⟨gb, 0, none⟩) N N, .int .i64 0]) ∧ Hid (WX fs g ps V0 a1 c1 fl Sb Fb u0 u1 u2 (.slice a3 N c3) rb (some ⟨gb, 0, none⟩) w W4) := by
  rcases h with h0 | ⟨rb, rfl, hc⟩
  · rw [h0] at hrows
    have := congrArg List.length hrows
    simp at this
  · refine ⟨rb, rfl, (match7 g.code a3 c3 N hN (by omega) W3 (ck_code hk)).mono fun e W4 ⟨m1, m2⟩ => ?_⟩
    rw [if_pos hP.good, hN] at m1
    obtain ⟨gb, _, he, hNb⟩ := m1
    refine ⟨gb, he, hid7 ⟨hk.below m2, fun j hj => ?_, hNb.ns⟩⟩
    obtain ⟨aj, cj, h1, h2, h3⟩ := hc j (by rw [hrows]; simp; omega)
    have ej : rows[j]'(by rw [hrows]; simp; omega) = ps j := by subst hrows; simp
    rw [ej] at h1 h2 h3
    exact ⟨aj, cj, below_keep m2 _ _ h1, h3, h2.at'.keep (below_keep m2)⟩
theorem ways_next {fs : List Fn} {g : Fn} {ps : Nat → List Int} {V0 : Value} {a1 : Option Addr} {c1 fl Sb Fb : Nat} {u0 u1 u2 : Value} {a3 : Option Addr} {c3 N : Nat} {w : World} {rb : Nat} {ma : Option Addr} {i : Nat} {q : List Int} {qa : Option Addr} {qc : Nat} {w8 : World} (hP : WP fs g ps) (hN : g.code.length = N) (bN : N ≤ 256) (hi : i < N) (yes : Bool) (hy : opA g.code i = 50 → yes = true → opA g.code (gI (matchS g.code) i).toNat = 51) (hq : q = qS fs (g.p ++ g.l) g.code ps i) (hX : WX fs g ps V0 a1 c1 fl Sb Fb u0 u1 u2 (.slice a3 N c3) rb ma w w8) (hqa : NsAt w8.cell? qa q) :
    q.length ≤ 32 ∧ ∃ (j : Nat) (aj : Option Addr) (cj : Nat), j ≤ N ∧ ∀ V, Below w8.heap.size w8 V → V.cell? ⟨rb, j, none⟩ = some (.slice aj q.length cj) ∧ Hid (Calls Try.prog 23 #[.slice a3 N c3, .slice ma N N, .int .i64 i, .bool yes] V fun e V' => e = .returned (.int .i64 j) ∧ V' = V) ∧ Hid (Calls Try.prog 17 #[.slice aj q.length cj, .slice qa q.length qc] V fun e V' => e = .returned (.bool true) ∧ Hid (Below w8.heap.size w8 V')) := by
  obtain ⟨j, h1, h2, h3⟩ := hP.way i (by omega) yes hy
  rw [← hq] at h3
  have hs := hP.short j h2
  rw [h3] at hs
  obtain ⟨aj, cj, r1, _, r3⟩ := hX.r j h2
  rw [h3] at r1 r3
  refine ⟨hs, j, aj, cj, by omega, fun V hV => ⟨below_keep hV _ _ r1, hid7 ?_, hid7 ?_⟩⟩
  · have hXV := hX.below hV
    have := next6_any g.code (matchS g.code) a3 ma c3 N N N hN ((matchS_len _).trans hN) i yes V (ck_code hXV.k) hXV.m (by omega)
    rw [h1] at this
    exact this
  · refine (lints_any aj qa cj qc _ _ q q rfl rfl V (r3.keep (below_keep hV)) (hqa.keep (below_keep hV)) (by omega) (by omega)).mono fun e V' ⟨g1, k, g2⟩ => ⟨by rw [g1]; simp, hid7 ?_⟩
    rw [g2]
    exact below_draws2 hV k
theorem ways_bh {fs : List Fn} {g : Fn} {ps : Nat → List Int} {V0 : Value} {a1 : Option Addr} {c1 fl Sb Fb : Nat} {u0 u1 u2 : Value} {a3 : Option Addr} {c3 N : Nat} {w : World} {rb : Nat} {ma : Option Addr} {i : Nat} {x : Int × Int} {V : World} (hP : WP fs g ps) (hFR : FnR fs g) (hh : HeadsR fs) (bf : fs.length ≤ 16) (hgf : g.fits) (hfl : fs.length = fl) (hN : g.code.length = N) (hil : i < g.code.length) (hx : g.code[i] = x) (hX : WX fs g ps V0 a1 c1 fl Sb Fb u0 u1 u2 (.slice a3 N c3) rb ma w V) :
    ∃ la lc, V.cell? ⟨rb, i, none⟩ = some (.slice la (ps i).length lc) ∧ Calls Try.prog 22 #[.agg #[V0, .slice a1 fl c1], .agg #[u0, u1, u2, .slice a3 N c3], .agg #[.int .i64 x.1, .int .i64 x.2], .slice la (ps i).length lc] V fun e w8 => ∃ qa qc, e = .returned (.slice qa (qS fs (g.p ++ g.l) g.code ps i).length qc) ∧ Hid (Below V.heap.size V w8 ∧ NsAt w8.cell? qa (qS fs (g.p ++ g.l) g.code ps i)) := by
  obtain ⟨la, lc, r1, r2, r3⟩ := hX.r i (by omega)
  have hgd : g.code.getD i (0, 0) = x := by rw [List.getD_eq_getElem?_getD, List.getElem?_eq_getElem hil, ← hx]; rfl
  have h0 := hP.step i hil
  have eq : qS fs (g.p ++ g.l) g.code ps i = (stepW fs (g.p ++ g.l) x (ps i)).2 := by rw [qS, hgd]
  rw [hgd] at h0
  rw [eq]
  have hsh := hP.short i (by omega)
  have hgs := hFR.s
  refine ⟨la, lc, r1, ?_⟩
  rw [← hfl]
  refine (behind_any x (hFR.i x (by rw [← hx]; exact List.getElem_mem _)) (ps i) V0 u0 u1 u2 (.slice a3 N c3) a1 c1 la lc (by omega) r2 V r3 hX.k.fat hX.k.fn hgf (by rw [List.length_append]; omega) (by omega) hh h0).mono fun e w8 ⟨qa, qc, h1, _, h3, h4⟩ => ⟨qa, qc, h1, hid7 ⟨h4, (ns_in_row h3).at'⟩⟩
set_option maxRecDepth 100000 in
set_option maxHeartbeats 4000000 in
theorem ways7_good (s : Scr) (a0 : Option Addr) (c0 fb fo c1 k : Nat) (n : Int) (w : World) (hs : ScIs w.cell? s (.slice a0 s.consts.length c0) (.slice (some ⟨fb, fo, none⟩) s.funcs.length c1)) (hsf : s.fits) (hI64 : ∀ f ∈ s.funcs, ∀ x ∈ f.code, -9223372036854775808 ≤ x.2 ∧ x.2 ≤ 9223372036854775807) (hr : s.right = true) (hk : k < s.funcs.length) (hn : (wrap64 (n.tmod (s.funcs.length : Int) + (s.funcs.length : Int))).tmod (s.funcs.length : Int) = k) (g : Fn) (hg : s.funcs[k] = g) (h0 : (stacksS s.funcs g).1 = 0) :
    Calls Try.prog 5 #[.agg #[.slice a0 s.consts.length c0, .slice (some ⟨fb, fo, none⟩) s.funcs.length c1], .int .i64 n] w fun e w' => e = .returned (.bool true) ∧ Below w.heap.size w w' := by
  obtain ⟨a5, c5, a4, c4, a6, c6, a3, c3, HC⟩ := ways_chain s a0 c0 fb fo c1 k w hs hsf hI64 hr hk g hg
  obtain ⟨hbf, _, hall⟩ := right_facts hr
  have hFR := hall g (hg ▸ List.getElem_mem _)
  have hh := right_heads hr
  have hgf := hsf.2.2.1 g (hg ▸ List.getElem_mem _)
  obtain ⟨ps, hP, hrows⟩ := wp_of h0
  have bN := hFR.c
  have brn := hFR.r
  generalize stacksS s.funcs g = RR at *
  obtain ⟨er, rows⟩ := RR
  simp only at *
  subst h0
  have hrl : rows.length = g.code.length + 1 := by rw [hrows]; simp
  rw [hrl] at HC
  clear hs hsf hI64 hr hg hall hrl
  generalize s.funcs = fs at *
  obtain ⟨fl, hfl⟩ : ∃ fl, fs.length = fl := ⟨_, rfl⟩
  obtain ⟨N, hN⟩ : ∃ N, g.code.length = N := ⟨_, rfl⟩
  obtain ⟨rn, hrn⟩ : ∃ rn, g.r.length = rn := ⟨_, rfl⟩
  have HI := hid7 (And.intro hP (And.intro hFR (And.intro hh (And.intro hgf (And.intro hbf (And.intro hfl (And.intro hN hrn)))))))
  rw [hfl] at HC hn hk hbf ⊢
  rw [hN] at HC hrows bN
  rw [hrn] at HC brn
  have e1 : ¬ ((fl : Int) = 0) := by omega
  have hk2 : (k : Int) < fl := by omega
  generalize s.consts.length = cl at *
  generalize g.p.length = pn at HC
  generalize g.l.length = ln at HC
  have HMt : Hid (∀ B Fb W3 a, SlAt B W3 a rows ∧ CkX fs g (.slice a0 cl c0) (some ⟨fb, fo, none⟩) c1 fl w.heap.size Fb (.slice a5 pn c5) (.slice a4 rn c4) (.slice a6 ln c6) (.slice a3 N c3) w W3 → ∃ rb, a = some ⟨rb, 0, none⟩ ∧ Calls Try.prog 21 #[.slice a3 N c3] W3 fun e W4 => ∃ gb, e = .returned (.tuple #[.slice (some ⟨gb, 0, none⟩) N N, .int .i64 0]) ∧ Hid (WX fs g ps (.slice a0 cl c0) (some ⟨fb, fo, none⟩) c1 fl w.heap.size Fb (.slice a5 pn c5) (.slice a4 rn c4) (.slice a6 ln c6) (.slice a3 N c3) rb (some ⟨gb, 0, none⟩) w W4)) := hid7 fun B Fb W3 a ⟨h1, h2⟩ => ways_match hP hN bN hrows h1 h2
  clear hP hFR hh hgf hfl hN hrn
  go_enter Try.func5, Try.ntmps5
  go_wp2_with (first
    | (go_at_call 20; refine HC.out.mono ?_; clear HC; rintro e W1 ⟨rfl, ⟨d0, d1⟩, ⟨d2, d3, d4, d5⟩, H1⟩)
    | fail)
  go_quiet (fail)
  have e2 : (W1.drewN nq).cell? ⟨w.heap.size, 0, none⟩ = some (.slice a0 cl c0) ∧ (W1.drewN nq).cell? ⟨w.heap.size, 1, none⟩ = some (.slice (some ⟨fb, fo, none⟩) fl c1) ∧ (W1.drewN nq).cell? ⟨fb, fo + k * 4, none⟩ = some (.slice a5 pn c5) ∧ (W1.drewN nq).cell? ⟨fb, fo + k * 4 + 1, none⟩ = some (.slice a4 rn c4) ∧ (W1.drewN nq).cell? ⟨fb, fo + k * 4 + 2, none⟩ = some (.slice a6 ln c6) ∧ (W1.drewN nq).cell? ⟨fb, fo + k * 4 + 3, none⟩ = some (.slice a3 N c3) := ⟨d0, d1, d2, d3, d4, d5⟩
  have H2 := hid7 (H1.out nq)
  clear d0 d1 d2 d3 d4 d5 H1
  generalize W1.drewN nq = V1 at *
  obtain ⟨d0, d1, d2, d3, d4, d5⟩ := e2
  have l0 := World.block_lt_of_cell? V1 _ d0
  have l2 := World.block_lt_of_cell? V1 _ d2
  go_wp2_with (first
    | (go_at_call 8; refine H2.out.mono ?_; clear H2; rintro e W2 ⟨x0, y0, x1, y1, rfl, H3⟩)
    | (go_at_call 9; refine H3.out.mono ?_; clear H3; rintro e W3 ⟨a, c, rfl, z3, K3⟩; obtain ⟨rb, ea, hM⟩ := HMt.out _ _ W3 a K3.out; subst ea; have HM := hid7 hM; clear hM HMt K3)
    | (go_at_call 12; refine (num7_any _ _).mono ?_; rintro e w9 ⟨rfl, w9e⟩; rw [w9e]; clear w9e)
    | (go_at_call 21; refine HM.out.mono ?_; clear HM; rintro e W4 ⟨gb, rfl, X4⟩)
    | fail)
  clear d0 d1 d2 d3 d4 d5 l0 l2 z3
  generalize V1.heap.size = Fb at *
  -- the checks ahead of the loop
  obtain ⟨y0a, y0c, y0, _, _⟩ := X4.out.r 0 (Nat.zero_le _)
  obtain ⟨yna, ync, yn, _, ynn⟩ := X4.out.r g.code.length (Nat.le_refl _)
  rw [HI.out.1.zero, List.length_nil] at y0
  rw [HI.out.1.last, HI.out.2.2.2.2.2.2.2, HI.out.2.2.2.2.2.2.1] at yn
  rw [HI.out.1.last] at ynn
  have n4 : NsAt W4.cell? a4 g.r := by
    obtain ⟨_, ⟨a, c, e, h⟩, _, _⟩ := X4.out.k.fn
    injection e with e1 e2 e3
    rw [e1]
    exact h
  have HIn : Hid (Calls Try.prog 17 #[.slice yna rn ync, .slice a4 rn c4] W4.drew fun e w5 => e = .returned (.bool true) ∧ Below W4.heap.size W4 w5) := hid7 ((lints_any yna a4 ync c4 rn rn g.r g.r HI.out.2.2.2.2.2.2.2 HI.out.2.2.2.2.2.2.2 W4.drew ynn n4 (by omega) (by omega)).mono fun e w5 ⟨h1, kk, h2⟩ => ⟨by rw [h1]; simp, by rw [h2]; exact below_draws2 (Below.refl _ W4).drew kk⟩)
  clear n4 ynn
  have i1 : IntKind.i64.wrap ((N : Int) + 1) = N + 1 := wrap_succ bN
  have i2 : wrap64 ((N : Int) + 1) = N + 1 := wrap64_succ bN
  have i3 : (((N : Int) + 1) != ((N : Int) + 1)) = false := by simp
  have i4 : ((((N + 1 : Nat) : Int)) != ((N : Int) + 1)) = false := by simp
  have i5 : ((N : Int) != (N : Int)) = false := by simp
  have i6 : (N : Int) < (N : Int) + 1 := Int.lt_add_one_of_le (Int.le_refl _)
  have i7 : (0 : Int) < (N : Int) + 1 := Int.lt_add_one_of_le (Int.natCast_nonneg N)
  have hSk : ∀ W, Below W4.heap.size W4 W → (fun W => W.cell? ⟨Fb, 3, none⟩ = some (.slice a3 N c3) ∧ W.cell? ⟨Fb, 1, none⟩ = some (.slice a4 rn c4) ∧ W.cell? ⟨rb, 0, none⟩ = some (.slice y0a 0 y0c) ∧ W.cell? ⟨rb, N, none⟩ = some (.slice yna rn ync)) W := fun W hW => ⟨(X4.out.k.below hW).f3, (X4.out.k.below hW).f1, below_keep hW _ _ y0, below_keep hW _ _ yn⟩
  have s0 := hSk W4 (Below.refl _ W4)
  obtain ⟨s3, s1, _, _⟩ := s0
  go_region_held3 (fun W => W.cell? ⟨Fb, 3, none⟩ = some (.slice a3 N c3) ∧ W.cell? ⟨Fb, 1, none⟩ = some (.slice a4 rn c4) ∧ W.cell? ⟨rb, 0, none⟩ = some (.slice y0a 0 y0c) ∧ W.cell? ⟨rb, N, none⟩ = some (.slice yna rn ync)) (first | go_keep | exact hSk _ b5) (first
    | (go_at_call 12; refine (num7_any _ _).mono ?_; rintro e w9 ⟨rfl, w9e⟩; rw [w9e]; clear w9e)
    | (go_at_call 17; refine HIn.out.mono ?_; clear HIn; rintro e w5 ⟨rfl, b5⟩))
  clear hSk y0 yn s3 s1
  have X5 := hid7 (X4.out.below b5)
  clear b5 X4
  go_wp2_with fail
  clear i1 i2 i3 i4 i5 i6 i7 hn e1 hrows hk hk2
  obtain ⟨B, hB⟩ : ∃ B, B = w5.heap.size := ⟨_, rfl⟩
  have HX : Hid (∀ V, Below B w5 V → WX fs g ps (.slice a0 cl c0) (some ⟨fb, fo, none⟩) c1 fl w.heap.size Fb (.slice a5 pn c5) (.slice a4 rn c4) (.slice a6 ln c6) (.slice a3 N c3) rb (some ⟨gb, 0, none⟩) w V) := hid7 fun V hV => X5.out.below (by rw [← hB]; exact hV)
  clear X5
  go_loopw [10] (fun iv wr => ∃ i : Nat, iv = .int .i64 i ∧ i ≤ N ∧ Hid (Below B w5 wr)) (fun iv _ => N - (intOf iv).toNat)
  case atStart => exact ⟨0, rfl, Nat.zero_le _, hid7 (Below.refl _ _)⟩
  case round =>
    obtain ⟨i, rfl, hi, hI⟩ := hrel
    have ck := HX.out wr hI.out
    have z3 := ck.k.f3
    by_cases hiN : i < N
    · have hil : i < g.code.length := by rw [HI.out.2.2.2.2.2.2.1]; exact hiN
      obtain ⟨x, hx⟩ : ∃ x, g.code[i] = x := ⟨_, rfl⟩
      obtain ⟨b3, o3, e3, x0, x1⟩ : ∃ b3 o3, a3 = some ⟨b3, o3, none⟩ ∧ wr.cell? ⟨b3, o3 + i * 2, none⟩ = some (.int .i64 x.1) ∧ wr.cell? ⟨b3, o3 + i * 2 + 1, none⟩ = some (.int .i64 x.2) := by
        rcases ck_code ck.k with h0 | ⟨b, off, e, h⟩
        · rw [h0] at hil; cases hil
        · exact ⟨b, off, e, by rw [← hx]; exact h i hil⟩
      subst e3
      have b5 := (Below.refl _ wr).alloc (Nat.le_refl _) (.cells #[.int .i64 x.1, .int .i64 x.2] 53)
      have b6 : Below wr.heap.size wr (wr.alloc (.cells #[.int .i64 x.1, .int .i64 x.2] 53)).drew := b5.drew
      have ck6 := ck.below b6
      have bB : B ≤ wr.heap.size := by rw [hB]; exact hI.out.size
      obtain ⟨la, lc, r1, hBh⟩ := ways_bh HI.out.1 HI.out.2.1 HI.out.2.2.1 HI.out.2.2.2.2.1 HI.out.2.2.2.1 HI.out.2.2.2.2.2.1 HI.out.2.2.2.2.2.2.1 hil hx ck6
      have hpl := HI.out.1.short i (by omega)
      have hop : opA g.code i = x.1 := by rw [← hx]; exact ops_at hil
      obtain ⟨q, hq⟩ : ∃ q, q = qS fs (g.p ++ g.l) g.code ps i := ⟨_, rfl⟩
      rw [← hq] at hBh
      obtain ⟨mi, hmi⟩ : ∃ mi, mi = gI (matchS g.code) i := ⟨_, rfl⟩
      have hmr := pair_rng HI.out.1.good hil
      rw [← hmi, HI.out.2.2.2.2.2.2.1] at hmr
      have hm50 : x.1 = 50 → 0 ≤ mi := fun h => by
        obtain ⟨f1, _⟩ := match_facts HI.out.1.good hil
        have := f1 (by rw [hop]; exact h)
        rw [hmi]
        unfold gI
        omega
      -- what stands behind the call
      have HQ : Hid (∀ w8 qa qc, Below (wr.alloc (.cells #[.int .i64 x.1, .int .i64 x.2] 53)).drew.heap.size (wr.alloc (.cells #[.int .i64 x.1, .int .i64 x.2] 53)).drew w8 → NsAt w8.cell? qa q → Below B w5 w8 ∧ w8.cell? ⟨wr.heap.size, 0, none⟩ = some (.int .i64 x.1) ∧ w8.cell? ⟨Fb, 3, none⟩ = some (.slice (some ⟨b3, o3, none⟩) N c3) ∧ w8.cell? ⟨gb, i, none⟩ = some (.int .i64 mi) ∧ (∀ m : Nat, mi = m → w8.cell? ⟨b3, o3 + m * 2, none⟩ = some (.int .i64 (opA g.code m))) ∧ q.length ≤ 32 ∧ ∀ yes, (x.1 = 50 → yes = true → opA g.code mi.toNat = 51) → ∃ (j : Nat) (aj : Option Addr) (cj : Nat), j ≤ N ∧ ∀ V, Below w8.heap.size w8 V → V.cell? ⟨rb, j, none⟩ = some (.slice aj q.length cj) ∧ Hid (Calls Try.prog 23 #[.slice (some ⟨b3, o3, none⟩) N c3, .slice (some ⟨gb, 0, none⟩) N N, .int .i64 i, .bool yes] V fun e V' => e = .returned (.int .i64 j) ∧ V' = V) ∧ Hid (Calls Try.prog 17 #[.slice aj q.length cj, .slice qa q.length qc] V fun e V' => e = .returned (.bool true) ∧ Hid (Below w8.heap.size w8 V'))) := hid7 fun w8 qa qc hb hqa => by
        have bw : Below B w5 w8 := (hI.out.trans (b6.mono bB)).trans (hb.mono (Nat.le_trans bB b6.size))
        have c8 := HX.out w8 bw
        have e4 : (wr.alloc (.cells #[.int .i64 x.1, .int .i64 x.2] 53)).drew.heap[wr.heap.size]? = some (.cells #[.int .i64 x.1, .int .i64 x.2] 53 (0, 0)) := heap_alloc_new wr _
        have e8 := (hb.block _ (blk_lt e4)).trans e4
        refine ⟨bw, by rw [Lib.cell_of_heap e8]; rfl, c8.k.f3, ?_, fun m hm => ?_, ?_, fun yes hy => ?_⟩
        · have := ns_at c8.m i (by rw [matchS_len]; exact hil)
          rw [Nat.zero_add] at this
          rw [hmi]
          exact this
        · exact is_at (ck_code c8.k) m (by rw [HI.out.2.2.2.2.2.2.1]; omega)
        · exact (ways_next (qc := qc) HI.out.1 HI.out.2.2.2.2.2.2.1 bN hiN false (fun _ h => by cases h) hq c8 hqa).1
        · exact (ways_next HI.out.1 HI.out.2.2.2.2.2.2.1 bN hiN yes (fun h1 h2 => by rw [← hmi]; exact hy (by rw [← hop]; exact h1) h2) hq c8 hqa).2
      have HBh : Hid (Calls Try.prog 22 #[.agg #[.slice a0 cl c0, .slice (some ⟨fb, fo, none⟩) fl c1], .agg #[.slice a5 pn c5, .slice a4 rn c4, .slice a6 ln c6, .slice (some ⟨b3, o3, none⟩) N c3], .agg #[.int .i64 x.1, .int .i64 x.2], .slice la (ps i).length lc] (wr.alloc (.cells #[.int .i64 x.1, .int .i64 x.2] 53)).drew fun e w8 => ∃ qa qc, e = .returned (.slice qa q.length qc) ∧ Below wr.heap.size wr w8 ∧ Hid (Below (wr.alloc (.cells #[.int .i64 x.1, .int .i64 x.2] 53)).drew.heap.size (wr.alloc (.cells #[.int .i64 x.1, .int .i64 x.2] 53)).drew w8 ∧ NsAt w8.cell? qa q)) := hid7 (hBh.mono fun e w8 ⟨qa, qc, h1, h2⟩ => ⟨qa, qc, h1, b6.trans (h2.out.1.mono b6.size), h2⟩)
      have hSk : ∀ W, Below (wr.alloc (.cells #[.int .i64 x.1, .int .i64 x.2] 53)).heap.size (wr.alloc (.cells #[.int .i64 x.1, .int .i64 x.2] 53)) W → (fun W => W.cell? ⟨w.heap.size, 0, none⟩ = some (.slice a0 cl c0) ∧ W.cell? ⟨w.heap.size, 1, none⟩ = some (.slice (some ⟨fb, fo, none⟩) fl c1) ∧ W.cell? ⟨Fb, 0, none⟩ = some (.slice a5 pn c5) ∧ W.cell? ⟨Fb, 1, none⟩ = some (.slice a4 rn c4) ∧ W.cell? ⟨Fb, 2, none⟩ = some (.slice a6 ln c6) ∧ W.cell? ⟨Fb, 3, none⟩ = some (.slice (some ⟨b3, o3, none⟩) N c3) ∧ W.cell? ⟨wr.heap.size, 0, none⟩ = some (.int .i64 x.1) ∧ W.cell? ⟨wr.heap.size, 1, none⟩ = some (.int .i64 x.2) ∧ W.cell? ⟨rb, i, none⟩ = some (.slice la (ps i).length lc)) W := fun W hW => by
        have e4 : (wr.alloc (.cells #[.int .i64 x.1, .int .i64 x.2] 53)).heap[wr.heap.size]? = some (.cells #[.int .i64 x.1, .int .i64 x.2] 53 (0, 0)) := heap_alloc_new wr _
        have e8 := (hW.block _ (blk_lt e4)).trans e4
        have cW := (ck.below b5).below hW
        exact ⟨cW.k.s0, cW.k.s1, cW.k.f0, cW.k.f1, cW.k.f2, cW.k.f3, by rw [Lib.cell_of_heap e8]; rfl, by rw [Lib.cell_of_heap e8]; rfl, below_keep hW _ _ r1⟩
      clear hBh ck ck6 b6 hx hil hop r1 hq hmi
      obtain ⟨nn, A⟩ := x
      simp only at *
      generalize (ps i).length = pl at *
      obtain ⟨ql, hql⟩ : ∃ ql, ql = q.length := ⟨_, rfl⟩
      rw [← hql] at HBh HQ
      clear hql
      have lx0 := World.block_lt_of_cell? wr _ x0
      have lz3 := World.block_lt_of_cell? wr _ z3
      have ii : (i : Int) < (N : Int) + 1 := lt_of_le i N hi
      have ii0 : (0 : Int) ≤ i := Int.natCast_nonneg i
      have hS0 := hSk _ (Below.refl _ (wr.alloc (.cells #[.int .i64 nn, .int .i64 A] 53))).drew
      go_wp2_with fail
      go_region_held3 (fun W => W.cell? ⟨w.heap.size, 0, none⟩ = some (.slice a0 cl c0) ∧ W.cell? ⟨w.heap.size, 1, none⟩ = some (.slice (some ⟨fb, fo, none⟩) fl c1) ∧ W.cell? ⟨Fb, 0, none⟩ = some (.slice a5 pn c5) ∧ W.cell? ⟨Fb, 1, none⟩ = some (.slice a4 rn c4) ∧ W.cell? ⟨Fb, 2, none⟩ = some (.slice a6 ln c6) ∧ W.cell? ⟨Fb, 3, none⟩ = some (.slice (some ⟨b3, o3, none⟩) N c3) ∧ W.cell? ⟨wr.heap.size, 0, none⟩ = some (.int .i64 nn) ∧ W.cell? ⟨wr.heap.size, 1, none⟩ = some (.int .i64 A) ∧ W.cell? ⟨rb, i, none⟩ = some (.slice la pl lc)) (first | exact hS0 | go_keep | exact hSk _ ((Below.refl _ _).drew.trans K8.out.1)) (first
        | (go_at_call 22; refine HBh.out.mono ?_; clear HBh; rintro e w8 ⟨qa, qc, rfl, b8, K8⟩))
      obtain ⟨bw, q0, q3, qm, qc50, hq32, HY⟩ := HQ.out w8 qa qc K8.out.1 K8.out.2
      have HG : Hid (∀ V, Below w8.heap.size w8 V → V.cell? ⟨wr.heap.size, 0, none⟩ = some (.int .i64 nn) ∧ V.cell? ⟨Fb, 3, none⟩ = some (.slice (some ⟨b3, o3, none⟩) N c3)) := hid7 fun V hV => ⟨below_keep hV _ _ q0, below_keep hV _ _ q3⟩
      have Bw : Hid (Below B w5 w8) := hid7 bw
      have hB8 : B ≤ w8.heap.size := by rw [hB]; exact bw.size
      have hq33 : ¬ ((32 : Int) < ql) := not_lt_of ql 32 hq32
      have HM50 := hid7 hm50
      clear K8 HQ hSk b8 bw hm50 x0 x1 z3 lx0 lz3
      by_cases h50 : nn = 50
      · subst h50
        obtain ⟨m, hm⟩ : ∃ m : Nat, mi = m := ⟨mi.toNat, (Int.toNat_of_nonneg (HM50.out rfl)).symm⟩
        subst hm
        have c50 := qc50 m rfl
        have hmN := hmr.2
        by_cases h51 : opA g.code m = 51
        · rw [h51] at c50
          obtain ⟨j0, v0, s0, hj0, H0⟩ := HY false (fun _ h => by cases h)
          have i8 : ¬ ((N : Int) + 1 ≤ j0) := not_le_of j0 N hj0
          have i9 : (j0 : Int) < (N : Int) + 1 := lt_of_le j0 N hj0
          have HH0 := hid7 H0
          obtain ⟨j1, v1, s1, hj1, H1⟩ := HY true (fun _ _ => by rw [Int.toNat_natCast]; exact h51)
          have i10 : ¬ ((N : Int) + 1 ≤ j1) := not_le_of j1 N hj1
          have i11 : (j1 : Int) < (N : Int) + 1 := lt_of_le j1 N hj1
          have HH1 := hid7 H1
          clear H1
          clear H0 HY qc50 HM50
          go_wp2_with fail
          go_quiet (fail)
          clear qm q0 q3
          go_wp2_with fail
          go_loopw [14] (fun kv wq => ∃ kk : Int, kv = .int .i64 kk ∧ (kk = 0 ∨ kk = 1 ∨ kk = 2) ∧ Hid (Below w8.heap.size w8 wq)) (fun kv _ => 2 - (intOf kv).toNat)
          case atStart => exact ⟨0, rfl, .inl rfl, hid7 (below_draws2 (Below.refl _ w8) _)⟩
          case round =>
            obtain ⟨kk, rfl, hkk, hK⟩ := hrel
            obtain ⟨g0, g3⟩ := HG.out wr hK.out
            rcases hkk with rfl | rfl | rfl
            · obtain ⟨t0, N0, I0⟩ := HH0.out wr hK.out
              go_wp2_with (first
                | (go_at_call 23; refine N0.out.mono ?_; clear N0; rintro e w9 ⟨rfl, w9e⟩; rw [w9e]; clear w9e)
                | (go_at_call 17; refine I0.out.mono ?_; clear I0; rintro e wz ⟨rfl, bz⟩)
                | fail)
              exact ⟨⟨1, by go_num, .inr (.inl rfl), bz⟩, by simp [intOf]⟩
            · obtain ⟨t1, N1, I1⟩ := HH1.out wr hK.out
              go_wp2_with (first
                | (go_at_call 23; refine N1.out.mono ?_; clear N1; rintro e w9 ⟨rfl, w9e⟩; rw [w9e]; clear w9e)
                | (go_at_call 17; refine I1.out.mono ?_; clear I1; rintro e wz ⟨rfl, bz⟩)
                | fail)
              exact ⟨⟨2, by go_num, .inr (.inr rfl), bz⟩, by simp [intOf]⟩
            · go_wp2_with fail
              exact ⟨⟨i + 1, by go_num, hiN, hid7 (Bw.out.trans (hK.out.mono hB8))⟩, by simp [intOf]; omega⟩
        · have t1 : (opA g.code m == 51) = false := by simpa using h51
          generalize opA g.code m = om at c50 t1
          clear h51
          obtain ⟨j0, v0, s0, hj0, H0⟩ := HY false (fun _ h => by cases h)
          have i8 : ¬ ((N : Int) + 1 ≤ j0) := not_le_of j0 N hj0
          have i9 : (j0 : Int) < (N : Int) + 1 := lt_of_le j0 N hj0
          have HH0 := hid7 H0
          clear H0 HY qc50 HM50
          go_wp2_with fail
          go_quiet (fail)
          clear qm q0 q3
          go_wp2_with fail
          go_loopw [14] (fun kv wq => ∃ kk : Int, kv = .int .i64 kk ∧ (kk = 0 ∨ kk = 1 ∨ kk = 2) ∧ Hid (Below w8.heap.size w8 wq)) (fun kv _ => 2 - (intOf kv).toNat)
          case atStart => exact ⟨0, rfl, .inl rfl, hid7 (below_draws2 (Below.refl _ w8) _)⟩
          case round =>
            obtain ⟨kk, rfl, hkk, hK⟩ := hrel
            obtain ⟨g0, g3⟩ := HG.out wr hK.out
            rcases hkk with rfl | rfl | rfl
            · obtain ⟨t0, N0, I0⟩ := HH0.out wr hK.out
              go_wp2_with (first
                | (go_at_call 23; refine N0.out.mono ?_; clear N0; rintro e w9 ⟨rfl, w9e⟩; rw [w9e]; clear w9e)
                | (go_at_call 17; refine I0.out.mono ?_; clear I0; rintro e wz ⟨rfl, bz⟩)
                | fail)
              exact ⟨⟨1, by go_num, .inr (.inl rfl), bz⟩, by simp [intOf]⟩
            · go_wp2_with fail
              exact ⟨⟨2, by go_num, .inr (.inr rfl), hK⟩, by simp [intOf]⟩
            · go_wp2_with fail
              exact ⟨⟨i + 1, by go_num, hiN, hid7 (Bw.out.trans (hK.out.mono hB8))⟩, by simp [intOf]; omega⟩
      · have t1 : (nn == 50) = false := by simpa using h50
        obtain ⟨j0, v0, s0, hj0, H0⟩ := HY false (fun _ h => by cases h)
        have i8 : ¬ ((N : Int) + 1 ≤ j0) := not_le_of j0 N hj0
        have i9 : (j0 : Int) < (N : Int) + 1 := lt_of_le j0 N hj0
        have HH0 := hid7 H0
        obtain ⟨j1, v1, s1, hj1, H1⟩ := HY true (fun h => absurd h h50)
        have i10 : ¬ ((N : Int) + 1 ≤ j1) := not_le_of j1 N hj1
        have i11 : (j1 : Int) < (N : Int) + 1 := lt_of_le j1 N hj1
        have HH1 := hid7 H1
        clear H1
        clear H0 HY qc50 HM50
        go_wp2_with fail
        go_quiet (fail)
        clear qm q0 q3
        go_wp2_with fail
        go_loopw [14] (fun kv wq => ∃ kk : Int, kv = .int .i64 kk ∧ (kk = 0 ∨ kk = 1 ∨ kk = 2) ∧ Hid (Below w8.heap.size w8 wq)) (fun kv _ => 2 - (intOf kv).toNat)
        case atStart => exact ⟨0, rfl, .inl rfl, hid7 (below_draws2 (Below.refl _ w8) _)⟩
        case round =>
          obtain ⟨kk, rfl, hkk, hK⟩ := hrel
          obtain ⟨g0, g3⟩ := HG.out wr hK.out
          rcases hkk with rfl | rfl | rfl
          · obtain ⟨t0, N0, I0⟩ := HH0.out wr hK.out
            go_wp2_with (first
              | (go_at_call 23; refine N0.out.mono ?_; clear N0; rintro e w9 ⟨rfl, w9e⟩; rw [w9e]; clear w9e)
              | (go_at_call 17; refine I0.out.mono ?_; clear I0; rintro e wz ⟨rfl, bz⟩)
              | fail)
            exact ⟨⟨1, by go_num, .inr (.inl rfl), bz⟩, by simp [intOf]⟩
          · obtain ⟨t1, N1, I1⟩ := HH1.out wr hK.out
            go_wp2_with (first
              | (go_at_call 23; refine N1.out.mono ?_; clear N1; rintro e w9 ⟨rfl, w9e⟩; rw [w9e]; clear w9e)
              | (go_at_call 17; refine I1.out.mono ?_; clear I1; rintro e wz ⟨rfl, bz⟩)
              | fail)
            exact ⟨⟨2, by go_num, .inr (.inr rfl), bz⟩, by simp [intOf]⟩
          · go_wp2_with fail
            exact ⟨⟨i + 1, by go_num, hiN, hid7 (Bw.out.trans (hK.out.mono hB8))⟩, by simp [intOf]; omega⟩
    · have hiN : i = N := by omega
      subst hiN
      have BB := hid7 (HX.out wr hI.out).k.bel
      go_wp2_with (first
        | (go_at_call 14; refine (knows7_any _).mono ?_; rintro e wk ⟨rfl, bk⟩)
        | fail)
      go_ret
      exact ⟨rfl, BB.out.trans (bk.mono BB.out.size)⟩
theorem ways7_any (s : Scr) (V0 V1 : Value) (n : Int) (w : World) (hs : ScIs w.cell? s V0 V1) (hsf : s.fits) (hI64 : ∀ f ∈ s.funcs, ∀ x ∈ f.code, -9223372036854775808 ≤ x.2 ∧ x.2 ≤ 9223372036854775807) :
    Calls Try.prog 5 #[.agg #[V0, V1], .int .i64 n] w fun e w' => e = .returned (.bool true) ∧ Below w.heap.size w w' := by
  by_cases hr : s.right = true
  · obtain ⟨⟨a0, c0, rfl, n0⟩, ⟨a1, c1, rfl, n1⟩⟩ := hs
    obtain ⟨f1, f2, _⟩ := right_facts hr
    obtain ⟨fb, fo, rfl⟩ := fs_some n1 (by omega)
    obtain ⟨k, hk, hkl⟩ := way7w n s.funcs.length (by omega) (by omega)
    by_cases h0 : (stacksS s.funcs s.funcs[k]).1 = 0
    · exact ways7_good s a0 c0 fb fo c1 k n w ⟨⟨a0, c0, rfl, n0⟩, ⟨_, c1, rfl, n1⟩⟩ hsf hI64 hr hkl hk _ rfl h0
    · exact ways7_err s a0 c0 fb fo c1 k n w ⟨⟨a0, c0, rfl, n0⟩, ⟨_, c1, rfl, n1⟩⟩ hsf hI64 hr hkl hk _ rfl h0
  · exact ways7_no s V0 V1 n w hs hsf hI64 (by simpa using hr)
end Go.Proofs.Ytnidakplcaanfaa
