/- The law CodeSames. -/
import Derived.Test.YtkbmmaacmofijaaCCu
import Derived.Test.YtkbmmaacmofijaaCK
import Derived.Test.YtkbmmaacmofijaaCS
namespace Go.Proofs.Ytkbmmaacmofijaa
open Go.RowKit
theorem ScrOwn.is {w : World} {base : Nat} {s : Scr} {v0 v1 : Value} (h : ScrOwn w base s v0 v1) : ScIs w.cell? s v0 v1 := by
  obtain ⟨hn, a, c, rfl, _, hS⟩ := ss_of_row h.consts (C := w.cell?) (fun _ _ _ e => e)
  refine ⟨⟨a, c, by rw [hn], hS⟩, ?_⟩
  rcases h.funcs with h0 | ⟨F, N, c', rfl, _, _, cs, h1, _, h3, _⟩
  · obtain ⟨a', c', rfl⟩ := h.form
    exact ⟨a', c', rfl, .inl h0⟩
  · refine ⟨_, c', rfl, .inr ⟨F, 0, rfl, fun j hj => ?_⟩⟩
    obtain ⟨u0, u1, u2, u3, q0, q1, q2, q3, hO⟩ := h3 j hj hj
    rw [Nat.zero_add]
    have key : ∀ (i : Nat) (u : Value), cs[i]? = some u → w.cell? ⟨F, i, none⟩ = some u := fun i u e => by rw [Lib.cell_of_heap h1]; exact e
    obtain ⟨_, a0, c0, e0, _, n0⟩ := ns_of_row hO.1 (C := w.cell?) (fun _ _ _ e => e)
    obtain ⟨_, a1, c1, e1, _, n1⟩ := ns_of_row hO.2.1 (C := w.cell?) (fun _ _ _ e => e)
    obtain ⟨_, a2, c2, e2, _, n2⟩ := ns_of_row hO.2.2.1 (C := w.cell?) (fun _ _ _ e => e)
    obtain ⟨_, a3, c3, e3, _, n3⟩ := is_of_row hO.2.2.2 (C := w.cell?) (fun _ _ _ e => e)
    exact ⟨u0, u1, u2, u3, key _ _ q0, key _ _ q1, key _ _ q2, key _ _ q3, ⟨a0, c0, e0, n0⟩, ⟨a1, c1, e1, n1⟩, ⟨a2, c2, e2, n2⟩, ⟨a3, c3, e3, n3⟩⟩
theorem ScrOwn.below {w w' : World} {base : Nat} {s : Scr} {v0 v1 : Value} (h : ScrOwn w base s v0 v1) (hb : Below w.heap.size w w') : ScrOwn w' base s v0 v1 := by
  refine ⟨row_below2 h.consts hb, h.form, ?_⟩
  rcases h.funcs with h0 | ⟨F, N, c', e, h1, h2, h3⟩
  · exact .inl h0
  · exact .inr ⟨F, N, c', e, h1, h2, h3.below hb⟩
set_option maxRecDepth 100000 in
set_option maxHeartbeats 1000000 in
theorem same_walk4 (s t : Scr) (V0 V1 U0 U1 : Value) (w : World) (hs : ScIs w.cell? s V0 V1) (ht : ScIs w.cell? t U0 U1) (hsf : s.fits) (htf : t.fits) : Calls Try.prog 5 #[.agg #[V0, V1], .agg #[U0, U1]] w fun e w' => e = .returned (.bool true) ∧ Below w.heap.size w w' := by
  have hC1 : ∀ W, Below w.heap.size w W → _ := fun W hW => rclone_any s V0 V1 W (hs.keep (below_keep hW)) hsf
  have hC2 : ∀ W, Below w.heap.size w W → _ := fun W hW => rclone_any t U0 U1 W (ht.keep (below_keep hW)) htf
  have hE1 : ∀ W u0 u1, Below w.heap.size w W → ScIs W.cell? s u0 u1 → Calls Try.prog 15 #[.agg #[u0, u1], .agg #[V0, V1]] W fun e w' => e = .returned (.bool true) ∧ Below W.heap.size W w' := fun W u0 u1 hW hu => by
    have := rsame_any s s u0 u1 V0 V1 W hu (hs.keep (below_keep hW)) hsf hsf
    rw [decide_eq_true rfl] at this
    exact this
  have hE2 : ∀ W, Below w.heap.size w W → Calls Try.prog 15 #[.agg #[V0, V1], .agg #[U0, U1]] W fun e w' => e = .returned (.bool (decide (s = t))) ∧ Below W.heap.size W w' := fun W hW => rsame_any s t _ _ _ _ W (hs.keep (below_keep hW)) (ht.keep (below_keep hW)) hsf htf
  have hD1 : ∀ W u0 u1 v0 v1, ScIs W.cell? s u0 u1 → ScIs W.cell? t v0 v1 → Calls Try.prog 25 #[.agg #[u0, u1], .agg #[v0, v1]] W fun e w' => e = .returned (.bool (decide (s = t))) ∧ Below W.heap.size W w' := fun W u0 u1 v0 v1 h1 h2 => same4_any s t _ _ _ _ W h1 h2 hsf htf
  have hD2 : ∀ W u0 u1 v0 v1, ScIs W.cell? s u0 u1 → ScIs W.cell? s v0 v1 → Calls Try.prog 25 #[.agg #[u0, u1], .agg #[v0, v1]] W fun e w' => e = .returned (.bool true) ∧ Below W.heap.size W w' := fun W u0 u1 v0 v1 h1 h2 => by
    have := same4_any s s u0 u1 v0 v1 W h1 h2 hsf hsf
    rw [decide_eq_true rfl] at this
    exact this
  have hCl : ∀ W u0 u1, ScIs W.cell? s u0 u1 → Calls Try.prog 24 #[.agg #[u0, u1]] W (CloneSEnd s W) := fun W u0 u1 h => clone4_any s u0 u1 W h hsf
  have hKn := knows4_any
  obtain ⟨⟨A0, C0, rfl, _⟩, ⟨A1, C1, rfl, _⟩⟩ := hs
  obtain ⟨⟨B0, D0, rfl, _⟩, ⟨B1, D1, rfl, _⟩⟩ := ht
  have zf := hsf.2.1
  have zc := hsf.1
  generalize decide (s = t) = same at *
  obtain ⟨n0, hn0⟩ : ∃ n, n = s.consts.length := ⟨_, rfl⟩
  obtain ⟨n1, hn1⟩ : ∃ n, n = s.funcs.length := ⟨_, rfl⟩
  rw [← hn0] at hC1 hE1 hE2 zc ⊢
  rw [← hn1] at hC1 hE1 hE2 zf ⊢
  have HC := hid hn0
  have HF := hid hn1
  clear hn0 hn1
  generalize t.consts.length = m0 at *
  generalize t.funcs.length = m1 at *
  obtain ⟨W2, hW2⟩ : ∃ W2, W2 = (w.alloc (.cells #[.slice A0 n0 C0, .slice A1 n1 C1] 25)).alloc (.cells #[.slice B0 m0 D0, .slice B1 m1 D1] 25) := ⟨_, rfl⟩
  have hb2 : Below w.heap.size w W2 := by rw [hW2]; exact ((Below.refl _ w).alloc (Nat.le_refl _) _).alloc (by simp) _
  have bA : W2.heap[w.heap.size]? = some (.cells #[.slice A0 n0 C0, .slice A1 n1 C1] 25 (0, 0)) := by rw [hW2, Below.heap_alloc _ _ _ (by simp)]; exact heap_alloc_new w _
  have bB : W2.heap[w.heap.size + 1]? = some (.cells #[.slice B0 m0 D0, .slice B1 m1 D1] 25 (0, 0)) := by
    have := heap_alloc_new (w.alloc (.cells #[.slice A0 n0 C0, .slice A1 n1 C1] 25)) (.cells #[.slice B0 m0 D0, .slice B1 m1 D1] 25)
    rw [hW2]; simpa using this
  have hS1 := hC1 W2 hb2
  clear hC1
  go_enter Try.func5, Try.ntmps5
  go_wp2_with fail
  rw [← hW2]
  clear hW2
  refine hS1.mono ?_
  clear hS1
  rintro e w3 ⟨u0, u1, rfl, hX, hb3⟩
  have hX' := hX
  obtain ⟨⟨X0, G0, rfl, _⟩, ⟨X1, G1, rfl, _⟩⟩ := hX'
  rw [← HC.out, ← HF.out] at hX ⊢
  obtain ⟨W4, hW4⟩ : ∃ W4, W4 = w3.alloc (.cells #[.slice X0 n0 G0, .slice X1 n1 G1] 25) := ⟨_, rfl⟩
  have hb34 : Below w3.heap.size w3 W4 := by rw [hW4]; exact (Below.refl _ _).alloc (Nat.le_refl _) _
  have bX : W4.heap[w3.heap.size]? = some (.cells #[.slice X0 n0 G0, .slice X1 n1 G1] 25 (0, 0)) := by rw [hW4]; exact heap_alloc_new w3 _
  have hb24 := hb3.trans (hb34.mono hb3.size)
  replace hX := hX.keep (below_keep hb34)
  have hX4 := hX
  have hS2 := hCl W4 _ _ hX
  clear hCl
  go_wp2_with fail
  rw [← hW4]
  clear hW4
  refine hS2.mono ?_
  clear hS2
  rintro e w5 ⟨⟨v0, v1, rfl, hO⟩, hb5⟩
  have hcs := hO.consts
  obtain ⟨Y0, H0, rfl, _⟩ := row_form hcs
  obtain ⟨Y1, H1, rfl⟩ := hO.form
  rw [← HC.out, ← HF.out] at hO ⊢
  obtain ⟨W6, hW6⟩ : ∃ W6, W6 = w5.alloc (.cells #[.slice Y0 n0 H0, .slice Y1 n1 H1] 25) := ⟨_, rfl⟩
  have hb56 : Below w5.heap.size w5 W6 := by rw [hW6]; exact (Below.refl _ _).alloc (Nat.le_refl _) _
  have bC : W6.heap[w5.heap.size]? = some (.cells #[.slice Y0 n0 H0, .slice Y1 n1 H1] 25 (0, 0)) := by rw [hW6]; exact heap_alloc_new w5 _
  have hb46 := hb5.trans (hb56.mono hb5.size)
  have hb26 := hb24.trans (hb46.mono hb24.size)
  replace hX := hX.keep (below_keep hb46)
  replace hO := hO.below hb56
  clear hcs
  go_upto_region 3 with fail
  rw [← hW6]
  clear hW6
  -- the four boxes
  have hSk : ∀ W, Below W6.heap.size W6 W → (W.cell? ⟨w.heap.size, 0, none⟩ = some (.slice A0 n0 C0) ∧ W.cell? ⟨w.heap.size, 1, none⟩ = some (.slice A1 n1 C1)) ∧ (W.cell? ⟨w.heap.size + 1, 0, none⟩ = some (.slice B0 m0 D0) ∧ W.cell? ⟨w.heap.size + 1, 1, none⟩ = some (.slice B1 m1 D1)) ∧ (W.cell? ⟨w3.heap.size, 0, none⟩ = some (.slice X0 n0 G0) ∧ W.cell? ⟨w3.heap.size, 1, none⟩ = some (.slice X1 n1 G1)) ∧ W.cell? ⟨w5.heap.size, 0, none⟩ = some (.slice Y0 n0 H0) ∧ W.cell? ⟨w5.heap.size, 1, none⟩ = some (.slice Y1 n1 H1) := fun W hW => by
    have t26 := hb26.trans (hW.mono hb26.size)
    have t46 := hb46.trans (hW.mono hb46.size)
    obtain ⟨a0, a1, _, _⟩ := cells2 ((t26.block _ (lt_of_block bA)).trans bA)
    obtain ⟨b0, b1, _, _⟩ := cells2 ((t26.block _ (lt_of_block bB)).trans bB)
    obtain ⟨c0, c1, _, _⟩ := cells2 ((t46.block _ (lt_of_block bX)).trans bX)
    obtain ⟨d0, d1, _, _⟩ := cells2 ((hW.block _ (lt_of_block bC)).trans bC)
    exact ⟨⟨a0, a1⟩, ⟨b0, b1⟩, ⟨c0, c1⟩, d0, d1⟩
  have lift : ∀ W, Below W6.heap.size W6 W → Below w.heap.size w W := fun W h => (hb2.trans (hb26.mono hb2.size)).trans (h.mono (hb2.trans (hb26.mono hb2.size)).size)
  have hb7 : Below W6.heap.size W6 W6.drew := (Below.refl _ _).drew
  obtain ⟨⟨i0, i1⟩, ⟨i2, i3⟩, ⟨i4, i5⟩, i6, i7⟩ := hSk W6 (Below.refl _ _)
  have hT1 := hE1 W6.drew (.slice Y0 n0 H0) (.slice Y1 n1 H1) (lift _ hb7) (hO.is.keep (below_keep hb7))
  have q : (same != same) = false := by simp
  go_cut [36] (fun c wx => c = .bool false ∧ Below W6.heap.size W6 wx)
  case first =>
    go_region_held3 (fun W => (W.cell? ⟨w.heap.size, 0, none⟩ = some (.slice A0 n0 C0) ∧ W.cell? ⟨w.heap.size, 1, none⟩ = some (.slice A1 n1 C1)) ∧ (W.cell? ⟨w.heap.size + 1, 0, none⟩ = some (.slice B0 m0 D0) ∧ W.cell? ⟨w.heap.size + 1, 1, none⟩ = some (.slice B1 m1 D1)) ∧ (W.cell? ⟨w3.heap.size, 0, none⟩ = some (.slice X0 n0 G0) ∧ W.cell? ⟨w3.heap.size, 1, none⟩ = some (.slice X1 n1 G1)) ∧ W.cell? ⟨w5.heap.size, 0, none⟩ = some (.slice Y0 n0 H0) ∧ W.cell? ⟨w5.heap.size, 1, none⟩ = some (.slice Y1 n1 H1)) (first | go_keep | exact hSk _ hb12 | exact hSk _ hb11 | exact hSk _ hb10 | exact hSk _ hb9 | exact hSk _ hb8 | exact hSk _ hb7 | exact hSk _ (Below.refl _ _)) (first | (go_at_call 15; first | (refine hT1.mono ?_; clear hT1; rintro e w8 ⟨rfl, hb8'⟩; have hb8 := hb7.trans (hb8'.mono hb7.size); have hT2 := hC2 w8 (lift _ hb8); clear hC2) | (refine hT4.mono ?_; clear hT4; rintro e w11 ⟨rfl, hb11'⟩; have hb11 := hb10.trans (hb11'.mono hb10.size); have hT5 := hD2 w11 _ _ _ _ (hX.keep (below_keep hb11)) (hO.is.keep (below_keep hb11)))) | (go_at_call 9; refine hT2.mono ?_; clear hT2; rintro e w9 ⟨f0, f1, rfl, hZ, hb9'⟩; have hb9 := hb8.trans (hb9'.mono hb8.size); have hT3 := hD1 w9 _ _ f0 f1 (hX.keep (below_keep hb9)) hZ; clear hD1) | (go_at_call 25; first | (refine hT3.mono ?_; clear hT3; rintro e w10 ⟨rfl, hb10'⟩; have hb10 := hb9.trans (hb10'.mono hb9.size); have hT4 := hE2 w10 (lift _ hb10)) | (refine hT5.mono ?_; clear hT5; rintro e w12 ⟨rfl, hb12'⟩; have hb12 := hb11.trans (hb12'.mono hb11.size))))
    all_goals
      go_wp2_with fail
      go_meet
      exact ⟨rfl, hb12⟩
  case rest =>
    obtain ⟨rfl, hbc⟩ := hcut
    replace hO := hO.below hbc
    replace hX := hX.keep (below_keep hbc)
    have bCc := (hbc.block _ (lt_of_block bC)).trans bC
    have hconsts := hO.consts
    rw [← HC.out] at hconsts
    clear hE2 hC2 hD1 hD2 q hT1 i0 i1 i2 i3 i4 i5 i6 i7
    go_wp2_with fail
    go_loopw [7] (fun i wr => ∃ k : Nat, k ≤ n0 ∧ i = .int .i64 k ∧ Spoilt W4.heap.size wc wr) (fun i _ => n0 - (intOf i).toNat)
    case atStart => exact ⟨0, Nat.zero_le _, rfl, Spoilt.refl _ _⟩
    case round =>
      obtain ⟨k, hk, rfl, hsp⟩ := hrel
      obtain ⟨c0, c1⟩ := hsp.box bCc
      by_cases hlt : k < n0
      · obtain ⟨g, hg, hset⟩ := hsp.at hconsts (Nat.le_refl _) (by decide) (by omega)
        obtain ⟨⟨u, hu⟩, hfz, hnx⟩ := hset k (by omega)
        subst hg
        go_wp2_with fail
        exact ⟨⟨k + 1, by omega, by go_num, hnx _⟩, by simp [intOf]; omega⟩
      · have hspo := hsp
        go_wp2_with fail
        go_loopw [8] (fun i wr => ∃ k : Nat, k ≤ n1 ∧ i = .int .i64 k ∧ Spoilt W4.heap.size wc wr) (fun i _ => n1 - (intOf i).toNat)
        case atStart => exact ⟨0, Nat.zero_le _, rfl, hspo⟩
        case round =>
          obtain ⟨k, hk, rfl, hsp⟩ := hrel
          obtain ⟨c0, c1⟩ := hsp.box bCc
          by_cases hlt : k < n1
          · rcases hO.funcs with h0 | ⟨F, N, cF, hv, hF, hN, hFB⟩
            · have := HF.out; rw [h0] at this; simp at this; omega
            rw [← HF.out] at hv hFB
            cases hv
            obtain ⟨p0, p1, p2, p3, k0, k1, k2, k3, a0, a1, a2, a3, hfn, ⟨hm0, hm1, hm2, hm3⟩, x0, x1, x2, x3, r0, r1, r2, r3⟩ := fn_of (B0 := W4.heap.size) hFB HF.out hlt
            obtain ⟨y0, y1, y2, y3⟩ := hfn wr hsp
            have hsp0 := hsp
            clear hFB hO hX
            go_wp2_with fail
            go_loopw [9] (fun i wr => ∃ j : Nat, j ≤ p0 ∧ i = .int .i64 j ∧ Spoilt W4.heap.size wc wr) (fun i _ => p0 - (intOf i).toNat)
            case atStart => exact ⟨0, Nat.zero_le _, rfl, hsp0⟩
            case round =>
              obtain ⟨j, hj, rfl, hsp⟩ := hrel
              obtain ⟨c0, c1⟩ := hsp.box bCc
              obtain ⟨y0, y1, y2, y3⟩ := hfn wr hsp
              by_cases hjl : j < p0
              · obtain ⟨g, hg, hset⟩ := hsp.at r0 (Nat.le_refl _) (by decide) (by omega)
                obtain ⟨⟨u, hu⟩, hfz, hnx⟩ := hset (j) (by omega)
                subst hg
                go_wp2_with fail
                exact ⟨⟨j + 1, by omega, by go_num, hnx _⟩, by simp [intOf]; omega⟩
              · have hsp1 := hsp
                go_wp2_with fail
                go_loopw [10] (fun i wr => ∃ j : Nat, j ≤ p1 ∧ i = .int .i64 j ∧ Spoilt W4.heap.size wc wr) (fun i _ => p1 - (intOf i).toNat)
                case atStart => exact ⟨0, Nat.zero_le _, rfl, hsp1⟩
                case round =>
                  obtain ⟨j, hj, rfl, hsp⟩ := hrel
                  obtain ⟨c0, c1⟩ := hsp.box bCc
                  obtain ⟨y0, y1, y2, y3⟩ := hfn wr hsp
                  by_cases hjl : j < p1
                  · obtain ⟨g, hg, hset⟩ := hsp.at r1 (Nat.le_refl _) (by decide) (by omega)
                    obtain ⟨⟨u, hu⟩, hfz, hnx⟩ := hset (j) (by omega)
                    subst hg
                    go_wp2_with fail
                    exact ⟨⟨j + 1, by omega, by go_num, hnx _⟩, by simp [intOf]; omega⟩
                  · have hsp2 := hsp
                    go_wp2_with fail
                    go_loopw [11] (fun i wr => ∃ j : Nat, j ≤ p2 ∧ i = .int .i64 j ∧ Spoilt W4.heap.size wc wr) (fun i _ => p2 - (intOf i).toNat)
                    case atStart => exact ⟨0, Nat.zero_le _, rfl, hsp2⟩
                    case round =>
                      obtain ⟨j, hj, rfl, hsp⟩ := hrel
                      obtain ⟨c0, c1⟩ := hsp.box bCc
                      obtain ⟨y0, y1, y2, y3⟩ := hfn wr hsp
                      by_cases hjl : j < p2
                      · obtain ⟨g, hg, hset⟩ := hsp.at r2 (Nat.le_refl _) (by decide) (by omega)
                        obtain ⟨⟨u, hu⟩, hfz, hnx⟩ := hset (j) (by omega)
                        subst hg
                        go_wp2_with fail
                        exact ⟨⟨j + 1, by omega, by go_num, hnx _⟩, by simp [intOf]; omega⟩
                      · have hsp3 := hsp
                        go_wp2_with fail
                        go_loopw [12] (fun i wr => ∃ j : Nat, j ≤ p3 ∧ i = .int .i64 j ∧ Spoilt W4.heap.size wc wr) (fun i _ => p3 - (intOf i).toNat)
                        case atStart => exact ⟨0, Nat.zero_le _, rfl, hsp3⟩
                        case round =>
                          obtain ⟨j, hj, rfl, hsp⟩ := hrel
                          obtain ⟨c0, c1⟩ := hsp.box bCc
                          obtain ⟨y0, y1, y2, y3⟩ := hfn wr hsp
                          by_cases hjl : j < p3
                          · obtain ⟨g, hg, hset⟩ := hsp.at r3 (Nat.le_refl _) (by decide) (by omega)
                            obtain ⟨⟨u, hu⟩, hfz, hnx⟩ := hset (j * 2) (by omega)
                            subst hg
                            go_wp2_with fail
                            exact ⟨⟨j + 1, by omega, by go_num, hnx _⟩, by simp [intOf]; omega⟩
                          · have hsp4 := hsp
                            go_wp2_with fail
                            exact ⟨⟨k + 1, by omega, by go_num, hsp4⟩, by simp [intOf]; omega⟩
          · obtain rfl : k = n1 := by omega
            have hbw := hsp.below
            have hb4c : Below W4.heap.size W4 wc := hb46.trans (hbc.mono hb46.size)
            have hb4r : Below W4.heap.size W4 wr := hb4c.trans (hbw.mono (Nat.le_refl _))
            have hb24r := hb24.trans (hb4r.mono hb24.size)
            have hbwr := hb2.trans (hb24r.mono hb2.size)
            obtain ⟨s0, s1, _, _⟩ := cells2 ((hb4r.block _ (lt_of_block bX)).trans bX)
            obtain ⟨s2, s3, _, _⟩ := cells2 ((hb24r.block _ (lt_of_block bA)).trans bA)
            have hEr := hE1 wr _ _ hbwr (hX4.keep (below_keep hb4r))
            go_wp2_with (first | (go_at_call 15; refine hEr.mono ?_; rintro e w20 ⟨rfl, hb20⟩; clear hEr) | (go_at_call 16; refine (hKn _).mono ?_; rintro e w21 ⟨rfl, hb21⟩))
            go_ret
            exact ⟨rfl, hbwr.trans ((hb20.trans (hb21.mono hb20.size)).mono hbwr.size)⟩
end Go.Proofs.Ytkbmmaacmofijaa
