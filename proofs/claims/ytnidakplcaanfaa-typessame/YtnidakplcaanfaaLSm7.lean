/- The law TypesSame. -/
import Derived.Test.YtnidakplcaanfaaTY
import Derived.Test.YtnidakplcaanfaaTV
import Derived.Test.YtnidakplcaanfaaCTg
namespace Go.Proofs.Ytnidakplcaanfaa
open Go.RowKit Go.Shelf
theorem way7 (k : Int) (n : Nat) (h1 : 1 ≤ n) (h2 : n ≤ 1048576) : ∃ j : Nat, (wrap64 (k.tmod (n : Int) + (n : Int))).tmod (n : Int) = j ∧ j < n := by
  have ha : (k.tmod (n : Int)).natAbs = k.natAbs % n := by rw [Int.natAbs_tmod]; simp
  have hb : k.natAbs % n < n := Nat.mod_lt _ (by omega)
  generalize k.tmod (n : Int) = x at *
  have e : wrap64 (x + n) = x + n := by unfold wrap64; omega
  rw [e, Int.tmod_eq_emod_of_nonneg (by omega)]
  have c1 := Int.emod_nonneg (x + n) (by omega : (n : Int) ≠ 0)
  have c2 := Int.emod_lt_of_pos (x + n) (by omega : 0 < (n : Int))
  exact ⟨((x + n) % n).toNat, by omega, by omega⟩
theorem two_writes {w3 : World} {fb o3 o2 sb : Nat} {u : Value} {cs : Array Value} {ty : TypeId} (hne : sb ≠ fb) (hsb : sb < w3.heap.size) :
    (((w3.setCell ⟨fb, o3, none⟩ u).setCell ⟨fb, o2, none⟩ u).alloc (.cells cs ty)).heap[sb]? = w3.heap[sb]? ∧ (((w3.setCell ⟨fb, o3, none⟩ u).setCell ⟨fb, o2, none⟩ u).alloc (.cells cs ty)).heap[w3.heap.size]? = some (.cells cs ty (0, 0)) := by
  have hz : ((w3.setCell ⟨fb, o3, none⟩ u).setCell ⟨fb, o2, none⟩ u).heap.size = w3.heap.size := by simp [World.setCell]
  refine ⟨?_, ?_⟩
  · rw [Below.heap_alloc _ _ _ (by rw [hz]; exact hsb), Below.heap_setCell _ _ _ _ hne, Below.heap_setCell _ _ _ _ hne]
  · have := heap_alloc_new ((w3.setCell ⟨fb, o3, none⟩ u).setCell ⟨fb, o2, none⟩ u) (.cells cs ty)
    rwa [hz] at this
set_option maxRecDepth 100000 in
set_option maxHeartbeats 2000000 in
theorem same7_any (s : Scr) (V0 V1 : Value) (x y : Int) (w : World) (hs : ScIs w.cell? s V0 V1) (hsf : s.fits) (hI64 : ∀ f ∈ s.funcs, ∀ x ∈ f.code, -9223372036854775808 ≤ x.2 ∧ x.2 ≤ 9223372036854775807) :
    Calls Try.prog 6 #[.agg #[V0, V1], .int .i64 x, .int .i64 y] w fun e w' => e = .returned (.bool true) ∧ Below w.heap.size w w' := by
  obtain ⟨⟨a0, c0, rfl, n0⟩, ⟨a1, c1, rfl, n1⟩⟩ := hs
  have b1 := (Below.refl _ w).alloc (Nat.le_refl _) (.cells #[.slice a0 s.consts.length c0, .slice a1 s.funcs.length c1] 25)
  have hsk : ∀ W, Below w.heap.size w W → ScIs W.cell? s (.slice a0 s.consts.length c0) (.slice a1 s.funcs.length c1) := fun W hb => ⟨⟨a0, c0, rfl, n0.keep fun x v h => (hb.cell (World.block_lt_of_cell? w x h)).trans h⟩, ⟨a1, c1, rfl, n1.keep fun x v h => (hb.cell (World.block_lt_of_cell? w x h)).trans h⟩⟩
  have HR : Hid (Calls Try.prog 20 #[.agg #[.slice a0 s.consts.length c0, .slice a1 s.funcs.length c1]] (w.alloc (.cells #[.slice a0 s.consts.length c0, .slice a1 s.funcs.length c1] 25)) fun e w1 => e = .returned (.bool s.right) ∧ w1.cell? ⟨w.heap.size, 0, none⟩ = some (.slice a0 s.consts.length c0) ∧ w1.cell? ⟨w.heap.size, 1, none⟩ = some (.slice a1 s.funcs.length c1) ∧ Hid (Below w.heap.size w w1) ∧ Hid (w1.heap[w.heap.size]? = some (.cells #[.slice a0 s.consts.length c0, .slice a1 s.funcs.length c1] 25 (0, 0)))) := hid7 ((rright4_any s _ _ _ (hsk _ b1) hsf hI64).mono fun e w1 ⟨h1, h2⟩ => by
    have e2 : (w.alloc (.cells #[.slice a0 s.consts.length c0, .slice a1 s.funcs.length c1] 25)).heap[w.heap.size]? = some (.cells #[.slice a0 s.consts.length c0, .slice a1 s.funcs.length c1] 25 (0, 0)) := heap_alloc_new w _
    have e3 := (h2.block _ (blk_lt e2)).trans e2
    exact ⟨h1, by simp [World.cell?, e3], by simp [World.cell?, e3], hid7 (b1.trans (h2.mono b1.size)), hid7 e3⟩)
  have hfl := hsf.2.1
  by_cases hr : s.right = true
  · rw [hr] at HR
    by_cases hl2 : (s.funcs.length : Int) < 2
    · clear hsk n0 n1 b1 hsf hI64 hr
      generalize s.funcs.length = fl at HR hfl hl2 ⊢
      generalize s.consts.length = cl at HR ⊢
      go_enter Try.func6, Try.ntmps6
      go_wp2_with (first | (go_at_call 20; refine HR.out.mono ?_; clear HR; rintro e w1 ⟨rfl, d0, d1, B1, e1⟩) | (go_at_call 14; refine (knows7_any _).mono ?_; rintro e w8 ⟨rfl, b8⟩) | fail)
      go_ret
      exact ⟨rfl, B1.out.trans (b8.mono B1.out.size)⟩
    · obtain ⟨f1, f2, _⟩ := right_facts hr
      obtain ⟨n, hn, hnl⟩ := way7 x s.funcs.length (by omega) (by omega)
      obtain ⟨k, hk, hkl⟩ := way7 y s.funcs.length (by omega) (by omega)
      by_cases hnk : n = k
      · have hnk' : ((n : Int) == (k : Int)) = true := by simp [hnk]
        clear hsk n0 n1 b1 hsf hI64 hr hnl hkl
        generalize s.funcs.length = fl at HR hfl hl2 hn hk f1 f2 ⊢
        generalize s.consts.length = cl at HR ⊢
        subst hnk
        go_enter Try.func6, Try.ntmps6
        go_wp2_with (first | (go_at_call 20; refine HR.out.mono ?_; clear HR; rintro e w1 ⟨rfl, d0, d1, B1, e1⟩) | fail)
        go_quiet (fail)
        go_wp2
        go_quiet (fail)
        go_wp2_with (first | (go_at_call 14; refine (knows7_any _).mono ?_; rintro e w8 ⟨rfl, b8⟩) | fail)
        go_ret
        exact ⟨rfl, (below_draws2 B1.out _).trans (b8.mono B1.out.size)⟩
      · have hne : k ≠ n := fun h => hnk h.symm
        have hnk' : ((n : Int) == (k : Int)) = false := by simp; omega
        obtain ⟨RR, hRR⟩ : ∃ RR, RR = checkS s n := ⟨_, rfl⟩
        have hRR2 : RR = checkS (bareS s k) n := by rw [bare_check hr hkl hnl hne]; exact hRR
        have hrows : (∀ r ∈ RR.2, r.length ≤ 100000) ∧ RR.2.length ≤ 100000 := by
          rw [hRR, checkS, if_pos hr, if_pos (by omega)]
          obtain ⟨q1, q2⟩ := stacks_rows s.funcs (fnAt s.funcs n)
          have hc := ((right_facts hr).2.2 (fnAt s.funcs n) (by rw [← fnAt_get hnl]; exact List.getElem_mem _)).c
          exact ⟨fun r hr => Nat.le_trans (q1 r hr) (by omega), by omega⟩
        -- the second half: from the second copy on
        have H2 : Hid (∀ V u0 u1 tb, Below w.heap.size w V → ScIs V.cell? (bareS s k) u0 u1 → V.heap[tb]? = some (.cells #[u0, u1] 25 (0, 0)) → Calls Try.prog 8 #[.agg #[.slice a0 s.consts.length c0, .slice a1 s.funcs.length c1]] V fun e w5 => ∃ p0 p1, e = .returned (.agg #[p0, p1]) ∧
            Hid (Calls Try.prog 9 #[.agg #[p0, p1], .int .i64 n] w5 fun e w6 => ∃ a c, e = .returned (.tuple #[.slice a RR.2.length c, .int .i64 RR.1]) ∧ w6.cell? ⟨tb, 0, none⟩ = some u0 ∧ w6.cell? ⟨tb, 1, none⟩ = some u1 ∧
              Hid (Calls Try.prog 9 #[.agg #[u0, u1], .int .i64 n] w6 fun e w7 => ∃ b d, e = .returned (.tuple #[.slice b RR.2.length d, .int .i64 RR.1]) ∧
                Hid (Calls Try.prog 11 #[.slice a RR.2.length c, .slice b RR.2.length d] w7 fun e w8 => e = .returned (.bool true) ∧ Hid (Below w.heap.size w w8))))) := hid7 fun V u0 u1 tb hV hu htb => (rclone_any s _ _ V (hsk V hV) hsf).mono fun e w5 ⟨p0, p1, h1, h2, h3⟩ => ⟨p0, p1, h1, hid7 ((check7_any s p0 p1 n w5 h2 hsf).mono fun e w6 ⟨a, c, g1, g2, g3⟩ => by
          rw [← hRR] at g1 g2
          have e6 := (g3.block tb (blk_lt ((h3.block tb (blk_lt htb)).trans htb))).trans ((h3.block tb (blk_lt htb)).trans htb)
          have bV6 : Below V.heap.size V w6 := h3.trans (g3.mono h3.size)
          refine ⟨a, c, g1, by simp [World.cell?, e6], by simp [World.cell?, e6], hid7 ?_⟩
          obtain ⟨⟨z0, y0, rfl, m0⟩, ⟨z1, y1, rfl, m1⟩⟩ := hu
          refine (check7_any (bareS s k) _ _ n w6 ⟨⟨z0, y0, rfl, m0.keep fun x v h => (bV6.cell (World.block_lt_of_cell? V x h)).trans h⟩, ⟨z1, y1, rfl, m1.keep fun x v h => (bV6.cell (World.block_lt_of_cell? V x h)).trans h⟩⟩ (bare_fits hsf k hkl)).mono fun e w7 ⟨b, d, f1, f2, f3⟩ => ?_
          rw [← hRR2] at f1 f2
          refine ⟨b, d, f1, hid7 ?_⟩
          refine (lstacks_any RR.2 RR.2 a b c d _ _ rfl rfl hrows.2 hrows.2 hrows.1 hrows.1 w7 (g2.below f3).rs f2.rs).mono fun e w8 ⟨l1, kk, l2⟩ => ?_
          rw [l2]
          have q1 := hV.trans (bV6.mono hV.size)
          exact ⟨by rw [l1]; simp, hid7 (below_draws2 (q1.trans (f3.mono q1.size)) kk)⟩)⟩
        -- the first half: the first copy, and the two writes
        have H1 : Hid (∀ W, Below w.heap.size w W → W.heap[w.heap.size]? = some (.cells #[.slice a0 s.consts.length c0, .slice a1 s.funcs.length c1] 25 (0, 0)) → Calls Try.prog 8 #[.agg #[.slice a0 s.consts.length c0, .slice a1 s.funcs.length c1]] W fun e w3 => ∃ u0a u0n u0c fb fc, e = .returned (.agg #[.slice u0a u0n u0c, .slice (some ⟨fb, 0, none⟩) s.funcs.length fc]) ∧ (∃ v, w3.cell? ⟨fb, k * 4 + 3, none⟩ = some v) ∧ w3.frozen? ⟨fb, k * 4 + 3, none⟩ = false ∧ (∃ v, w3.cell? ⟨fb, k * 4 + 2, none⟩ = some v) ∧ w3.frozen? ⟨fb, k * 4 + 2, none⟩ = false ∧ fb < w3.heap.size ∧ w.heap.size < fb ∧ w3.cell? ⟨w.heap.size, 0, none⟩ = some (.slice a0 s.consts.length c0) ∧ w3.cell? ⟨w.heap.size, 1, none⟩ = some (.slice a1 s.funcs.length c1) ∧
            Hid (Below w.heap.size w ((w3.setCell ⟨fb, k * 4 + 3, none⟩ (.slice none 0 0)).setCell ⟨fb, k * 4 + 2, none⟩ (.slice none 0 0)) ∧ ScIs ((w3.setCell ⟨fb, k * 4 + 3, none⟩ (.slice none 0 0)).setCell ⟨fb, k * 4 + 2, none⟩ (.slice none 0 0)).cell? (bareS s k) (.slice u0a u0n u0c) (.slice (some ⟨fb, 0, none⟩) s.funcs.length fc))) := hid7 fun W hW hbx => (rclone_own s _ _ W (hsk W hW) hsf).mono fun e w3 ⟨u0, u1, xs, h1, h2, h3, base, fa, fc, e1, hrow, hbase⟩ => by
          subst e1
          obtain ⟨_, _, e2, _, _, hx⟩ := row_form hrow
          cases e2
          rcases hx with ⟨_, h0, _⟩ | ⟨fb, rfl, hfb, hfl2, _⟩
          · omega
          have hbig := blk_lt hbx
          obtain ⟨⟨z0, y0, rfl, m0⟩, hfs⟩ := h2
          have hfs' := hfs
          obtain ⟨fa', fc', e3, n3⟩ := hfs'
          cases e3
          obtain ⟨v0, v1, v2, v3, _, _, c2, c3, _⟩ : ∃ v0 v1 v2 v3, w3.cell? ⟨fb, k * 4, none⟩ = some v0 ∧ w3.cell? ⟨fb, k * 4 + 1, none⟩ = some v1 ∧ w3.cell? ⟨fb, k * 4 + 2, none⟩ = some v2 ∧ w3.cell? ⟨fb, k * 4 + 3, none⟩ = some v3 ∧ True := by
            rcases n3 with h0 | ⟨b, off, e, h⟩
            · rw [h0] at hkl; cases hkl
            · cases e
              obtain ⟨v0, v1, v2, v3, g0, g1, g2, g3, _⟩ := h k hkl
              rw [Nat.zero_add] at g0 g1 g2 g3
              exact ⟨v0, v1, v2, v3, g0, g1, g2, g3, trivial⟩
          have hfz : ∀ o, w3.frozen? ⟨fb, o, none⟩ = false := fun o => by
            rcases hrow.2 with ⟨e, _⟩ | ⟨g, cap, cur, e, _, hh, _⟩
            · cases e
            · cases e
              exact Lib.frozen_of_heap hh o
          have ebx := (h3.block _ hbig).trans hbx
          have bw3 := hW.trans (h3.mono hW.size)
          refine ⟨z0, _, y0, fb, fc, h1, ⟨_, c3⟩, hfz _, ⟨_, c2⟩, hfz _, hfl2, by omega, by simp [World.cell?, ebx], by simp [World.cell?, ebx], hid7 ⟨?_, ?_⟩⟩
          · exact (bw3.setCell (p := ⟨fb, k * 4 + 3, none⟩) (by show w.heap.size ≤ fb; omega) _).setCell (p := ⟨fb, k * 4 + 2, none⟩) (by show w.heap.size ≤ fb; omega) _
          · have := scr_bare (k := k) hkl ⟨⟨z0, y0, rfl, m0⟩, hfs⟩
            rw [bare_len] at this
            exact this
        clear hsk n0 n1 b1 hsf hI64 hr hRR hRR2 hrows hnk hne
        generalize s.funcs.length = fl at HR hfl hl2 hn hk f1 f2 H1 H2 hnl hkl ⊢
        generalize s.consts.length = cl at HR H1 H2 ⊢
        obtain ⟨er, rows⟩ := RR
        simp only at H2
        generalize rows.length = rl at H2
        go_enter Try.func6, Try.ntmps6
        go_wp2_with (first | (go_at_call 20; refine HR.out.mono ?_; clear HR; rintro e w1 ⟨rfl, d0, d1, B1, e1⟩) | fail)
        go_quiet (fail)
        go_wp2
        go_quiet (fail)
        go_wp2_with (first
          | (go_at_call 8; first
            | (refine (H1.out _ (below_draws2 B1.out _) e1.out).mono ?_; clear H1; rintro e w3 ⟨u0a, u0n, u0c, fb, fc, rfl, ⟨q3, c3⟩, z3, ⟨q2, c2⟩, z2, l3, lb, s0, s1, K3⟩; obtain ⟨t1, t2⟩ := two_writes (w3 := w3) (fb := fb) (o3 := k * 4 + 3) (o2 := k * 4 + 2) (u := .slice none 0 0) (cs := #[.slice u0a u0n u0c, .slice (some ⟨fb, 0, none⟩) fl fc]) (ty := 25) (show w.heap.size ≠ fb by omega) (Nat.lt_trans lb l3); have y0 := (cell_heap7 (o := 0) t1).trans s0; have y1 := (cell_heap7 (o := 1) t1).trans s1; have X2 := hid7 (H2.out _ _ _ w3.heap.size (K3.out.1.alloc K3.out.1.size _) (K3.out.2.keep (below_keep ((Below.refl _ _).alloc (Nat.le_refl _) _))) t2); clear H2 t1 t2)
            | (refine X2.out.mono ?_; clear X2; rintro e w5 ⟨p0, p1, rfl, X5⟩))
          | (go_at_call 9; first
            | (refine X5.out.mono ?_; clear X5; rintro e w6 ⟨ra, rc, rfl, g0, g1, X6⟩)
            | (refine X6.out.mono ?_; clear X6; rintro e w7 ⟨rb, rd, rfl, X7⟩))
          | (go_at_call 11; refine X7.out.mono ?_; clear X7; rintro e w8 ⟨rfl, B8⟩)
          | (go_at_call 12; refine (num7_any _ _).mono ?_; rintro e w9 ⟨rfl, w9e⟩; rw [w9e]; clear w9e)
          | (go_at_call 14; refine (knows7_any _).mono ?_; rintro e w10 ⟨rfl, b10⟩)
          | fail)
        go_ret
        exact ⟨rfl, B8.out.trans (b10.mono B8.out.size)⟩
  · have hr' : s.right = false := by simpa using hr
    rw [hr'] at HR
    clear hsk n0 n1 b1 hsf hI64 hr hr'
    generalize s.funcs.length = fl at HR hfl ⊢
    generalize s.consts.length = cl at HR ⊢
    go_enter Try.func6, Try.ntmps6
    go_wp2_with (first | (go_at_call 20; refine HR.out.mono ?_; clear HR; rintro e w1 ⟨rfl, d0, d1, B1, e1⟩) | (go_at_call 14; refine (knows7_any _).mono ?_; rintro e w8 ⟨rfl, b8⟩) | fail)
    go_ret
    exact ⟨rfl, B1.out.trans (b8.mono B1.out.size)⟩
end Go.Proofs.Ytnidakplcaanfaa
