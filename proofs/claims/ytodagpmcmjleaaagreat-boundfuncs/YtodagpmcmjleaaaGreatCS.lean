/- The document's Same. -/
import Derived.Test.YtodagpmcmjleaaaGreatCB
import Derived.Deep.QuietTactic
import Derived.BigQuiet
namespace Go.Proofs.YtodagpmcmjleaaaGreat
open Go.RowKit
theorem below_draws2 {B : Nat} {a w : World} (h : Below B a w) (m : Nat) : Below B a (w.drewN m) := ⟨h.os, h.tape, h.output, h.size, h.block⟩
theorem list_ne {α : Type} [DecidableEq α] {L M : List α} {k : Nat} (h1 : k < L.length) (h2 : k < M.length) (h : L[k] ≠ M[k]) : decide (L = M) = false := decide_eq_false fun e => by subst e; exact h rfl
set_option maxRecDepth 100000 in
set_option maxHeartbeats 1000000 in
theorem ints2_any (a b : Option Addr) (c d n m : Nat) (ns ms : List Int) (hn : ns.length = n) (hm : ms.length = m) (w : World) (ha : NsAt w.cell? a ns) (hb : NsAt w.cell? b ms) (hl : n ≤ 17592186044416) (hl' : m ≤ 17592186044416) : Calls Tryz.prog 19 #[.slice a n c, .slice b m d] w fun e w' => e = .returned (.bool (decide (ns = ms))) ∧ ∃ k, w' = w.drewN k := by
  by_cases hnm : n = m
  · subst hnm
    go_enter Tryz.func19, Tryz.ntmps19
    go_wp2
    go_loopw [5] (fun i wr => ∃ k m : Nat, k ≤ n ∧ i = .int .i64 k ∧ (∀ j (h1 : j < ns.length) (h2 : j < ms.length), j < k → ns[j] = ms[j]) ∧ wr = w.drewN m) (fun i _ => n - (intOf i).toNat)
    case atStart => exact ⟨0, 0, Nat.zero_le _, rfl, by omega, rfl⟩
    case round =>
      obtain ⟨k, m, hk, rfl, hr, rfl⟩ := hrel
      by_cases hlt : k < n
      · rcases ha with h0 | ⟨b0, off0, rfl, hc0⟩
        · subst h0; simp at hn; omega
        rcases hb with h0 | ⟨b1, off1, rfl, hc1⟩
        · subst h0; simp at hm; omega
        have c0 := hc0 k (by omega)
        have d0 := hc1 k (by omega)
        have HN : Hid (ns[k] ≠ ms[k] → decide (ns = ms) = false) := hid (list_ne (by omega) (by omega))
        have HT : Hid (ns[k] = ms[k] → ∀ j (h1 : j < ns.length) (h2 : j < ms.length), j < k + 1 → ns[j] = ms[j]) := hid fun h j h1 h2 hjk => by
          rcases Nat.lt_or_ge j k with h3 | h3
          · exact hr j h1 h2 h3
          · obtain rfl : j = k := by omega
            exact h
        generalize ns[k] = x at c0 HN HT
        generalize ms[k] = y at d0 HN HT
        clear hc0 hc1
        by_cases h1 : x = y
        · subst h1
          go_wp2
          go_quiet (fail)
          go_wp2
          refine ⟨⟨k + 1, _, by omega, by go_num, HT.out (by simp), rfl⟩, by simp [intOf]; omega⟩
        · have q : (x != y) = true := by simp [h1]
          go_wp2
          go_quiet (fail)
          go_wp2
          go_ret
          exact ⟨by rw [HN.out h1]; rfl, m + nq, World.drewN_drewN _ _ _⟩
      · have HE : Hid (decide (ns = ms) = true) := hid (decide_eq_true (List.ext_getElem (by omega) fun j h1 h2 => hr j h1 h2 (by omega)))
        go_wp2
        go_ret
        exact ⟨by rw [HE.out]; rfl, m, rfl⟩
  · have hne : ((n : Int) != (m : Int)) = true := by simp; omega
    have hd : decide (ns = ms) = false := decide_eq_false fun h => hnm (by rw [← hn, ← hm, h])
    go_enter Tryz.func19, Tryz.ntmps19
    go_wp2
    go_ret
    exact ⟨by rw [hd]; rfl, 0, rfl⟩
set_option maxRecDepth 100000 in
set_option maxHeartbeats 1000000 in
theorem rsame_any (s t : Scr) (v0 v1 u0 u1 : Value) (w : World) (hS : ScIs w.cell? s v0 v1) (hT : ScIs w.cell? t u0 u1) (hf : s.fits) (hg : t.fits) : Calls Tryz.prog 11 #[.agg #[v0, v1], .agg #[u0, u1]] w fun e w' => e = .returned (.bool (decide (s = t))) ∧ Below w.heap.size w w' := by
  obtain ⟨⟨a0, c0, rfl, h0⟩, ⟨a1, c1, rfl, h1⟩⟩ := hS
  obtain ⟨⟨b0, d0, rfl, g0⟩, ⟨b1, d1, rfl, g1⟩⟩ := hT
  obtain ⟨hf0, hf1, hf2, _⟩ := hf
  obtain ⟨hg0, hg1, hg2, _⟩ := hg
  obtain ⟨N0, hN0⟩ : ∃ n, n = s.consts.length := ⟨_, rfl⟩
  obtain ⟨N1, hN1⟩ : ∃ n, n = s.funcs.length := ⟨_, rfl⟩
  obtain ⟨M0, hM0⟩ : ∃ n, n = t.consts.length := ⟨_, rfl⟩
  obtain ⟨M1, hM1⟩ : ∃ n, n = t.funcs.length := ⟨_, rfl⟩
  rw [← hN0] at hf0 ⊢
  rw [← hN1] at hf1 ⊢
  rw [← hM0] at hg0 ⊢
  rw [← hM1] at hg1 ⊢
  have HN0 := hid hN0
  have HN1 := hid hN1
  have HM0 := hid hM0
  have HM1 := hid hM1
  clear hN0 hN1 hM0 hM1
  obtain ⟨W2, hW2⟩ : ∃ W2, W2 = (w.alloc (.cells #[.slice a0 N0 c0, .slice a1 N1 c1] 25)).alloc (.cells #[.slice b0 M0 d0, .slice b1 M1 d1] 25) := ⟨_, rfl⟩
  have hb2 : Below w.heap.size w W2 := by rw [hW2]; exact ((Below.refl _ w).alloc (Nat.le_refl _) _).alloc (by simp) _
  by_cases e0 : N0 = M0
  · by_cases e1 : N1 = M1
    · subst e0 e1
      have bA : W2.heap[w.heap.size]? = some (.cells #[.slice a0 N0 c0, .slice a1 N1 c1] 25 (0, 0)) := by rw [hW2, Below.heap_alloc _ _ _ (by simp)]; exact heap_alloc_new w _
      have bB : W2.heap[w.heap.size + 1]? = some (.cells #[.slice b0 N0 d0, .slice b1 N1 d1] 25 (0, 0)) := by
        have := heap_alloc_new (w.alloc (.cells #[.slice a0 N0 c0, .slice a1 N1 c1] 25)) (.cells #[.slice b0 N0 d0, .slice b1 N1 d1] 25)
        rw [hW2]; simpa using this
      have lA := (Array.getElem?_eq_some_iff.1 bA).1
      have lB := (Array.getElem?_eq_some_iff.1 bB).1
      have pA0 : W2.cell? ⟨w.heap.size, 0, none⟩ = some (.slice a0 N0 c0) := by rw [Lib.cell_of_heap bA]; rfl
      have pA1 : W2.cell? ⟨w.heap.size, 1, none⟩ = some (.slice a1 N1 c1) := by rw [Lib.cell_of_heap bA]; rfl
      have pB0 : W2.cell? ⟨w.heap.size + 1, 0, none⟩ = some (.slice b0 N0 d0) := by rw [Lib.cell_of_heap bB]; rfl
      have pB1 : W2.cell? ⟨w.heap.size + 1, 1, none⟩ = some (.slice b1 N1 d1) := by rw [Lib.cell_of_heap bB]; rfl
      replace h0 := h0.keep (below_keep hb2)
      replace g0 := g0.keep (below_keep hb2)
      replace h1 := h1.keep (below_keep hb2)
      replace g1 := g1.keep (below_keep hb2)
      go_enter Tryz.func11, Tryz.ntmps11
      go_wp2
      rw [← hW2]
      clear hW2
      go_loopw [5] (fun i wr => ∃ k m : Nat, k ≤ N0 ∧ i = .int .i64 k ∧ (∀ j (h1 : j < s.consts.length) (h2 : j < t.consts.length), j < k → s.consts[j] = t.consts[j]) ∧ wr = W2.drewN m) (fun i _ => N0 - (intOf i).toNat)
      case atStart => exact ⟨0, 0, Nat.zero_le _, rfl, by omega, rfl⟩
      case round =>
        obtain ⟨k, m, hk, rfl, hr, rfl⟩ := hrel
        by_cases hlt : k < N0
        · rcases h0 with hz | ⟨x0, o0, rfl, hc0⟩
          · have := HN0.out; rw [hz] at this; simp at this; omega
          rcases g0 with hz | ⟨x1, o1, rfl, hc1⟩
          · have := HM0.out; rw [hz] at this; simp at this; omega
          have kl : k < s.consts.length := by have := HN0.out; omega
          have kl' : k < t.consts.length := by have := HM0.out; omega
          have q0 := hc0 k kl
          have q1 := hc1 k kl'
          have HN : Hid (s.consts[k] ≠ t.consts[k] → decide (s = t) = false) := hid fun h => decide_eq_false fun e => by subst e; exact h rfl
          have HT : Hid (s.consts[k] = t.consts[k] → ∀ j (h1 : j < s.consts.length) (h2 : j < t.consts.length), j < k + 1 → s.consts[j] = t.consts[j]) := hid fun h j h1 h2 hjk => by
            rcases Nat.lt_or_ge j k with h3 | h3
            · exact hr j h1 h2 h3
            · obtain rfl : j = k := by omega
              exact h
          generalize s.consts[k] = x at q0 HN HT
          generalize t.consts[k] = y at q1 HN HT
          clear hc0 hc1
          by_cases hxy : x = y
          · subst hxy
            go_wp2
            go_quiet (fail)
            go_wp2
            refine ⟨⟨k + 1, _, by omega, by go_num, HT.out (by simp), rfl⟩, by simp [intOf]; omega⟩
          · have q : (x != y) = true := by simp [hxy]
            have q' : (x == y) = false := by simp [hxy]
            go_wp2
            go_quiet (fail)
            go_wp2
            go_ret
            exact ⟨by rw [HN.out hxy]; rfl, below_draws2 (below_draws2 hb2 _) _⟩
        · have HC : Hid (s.consts = t.consts) := hid (List.ext_getElem (by have := HN0.out; have := HM0.out; omega) fun j h1 h2 => hr j h1 h2 (by have := HN0.out; omega))
          clear hr
          go_wp2
          go_loopw [6] (fun i wr => ∃ k : Nat, k ≤ N1 ∧ i = .int .i64 k ∧ (∀ j (h1 : j < s.funcs.length) (h2 : j < t.funcs.length), j < k → s.funcs[j] = t.funcs[j]) ∧ Below W2.heap.size W2 wr) (fun i _ => N1 - (intOf i).toNat)
          case atStart => exact ⟨0, Nat.zero_le _, rfl, by omega, below_draws2 (Below.refl _ _) _⟩
          case round =>
            obtain ⟨k, hk, rfl, hr, hbr⟩ := hrel
            have hbw : Below w.heap.size w wr := hb2.trans (hbr.mono hb2.size)
            have pA1 := below_keep hbr _ _ pA1
            have pB1 := below_keep hbr _ _ pB1
            by_cases hlt : k < N1
            · rcases h1 with hz | ⟨x0, o0, rfl, hc0⟩
              · have := HN1.out; rw [hz] at this; simp at this; omega
              rcases g1 with hz | ⟨x1, o1, rfl, hc1⟩
              · have := HM1.out; rw [hz] at this; simp at this; omega
              have kl : k < s.funcs.length := by have := HN1.out; omega
              have kl' : k < t.funcs.length := by have := HM1.out; omega
              obtain ⟨v0, v1, v2, v3, q0, q1, q2, q3, hfn⟩ := hc0 k kl
              obtain ⟨u0, u1, u2, u3, r0, r1, r2, r3, hgn⟩ := hc1 k kl'
              have HN : Hid (s.funcs[k] ≠ t.funcs[k] → decide (s = t) = false) := hid fun h => decide_eq_false fun e => by subst e; exact h rfl
              have HT : Hid (s.funcs[k] = t.funcs[k] → ∀ j (h1 : j < s.funcs.length) (h2 : j < t.funcs.length), j < k + 1 → s.funcs[j] = t.funcs[j]) := hid fun h j h1 h2 hjk => by
                rcases Nat.lt_or_ge j k with h3 | h3
                · exact hr j h1 h2 h3
                · obtain rfl : j = k := by omega
                  exact h
              have ff := hf2 s.funcs[k] (by simp)
              have gg := hg2 t.funcs[k] (by simp)
              generalize s.funcs[k] = f at hfn HN HT ff
              generalize t.funcs[k] = g at hgn HN HT gg
              clear hc0 hc1 hr
              have hkp := below_keep hbr
              replace q0 := hkp _ _ q0
              replace q1 := hkp _ _ q1
              replace q2 := hkp _ _ q2
              replace q3 := hkp _ _ q3
              replace r0 := hkp _ _ r0
              replace r1 := hkp _ _ r1
              replace r2 := hkp _ _ r2
              replace r3 := hkp _ _ r3
              replace hfn := hfn.keep hkp
              replace hgn := hgn.keep hkp
              clear hkp
              obtain ⟨⟨fa0, fc0, rfl, F0⟩, ⟨fa1, fc1, rfl, F1⟩, ⟨fa2, fc2, rfl, F2⟩, ⟨fa3, fc3, rfl, F3⟩⟩ := hfn
              obtain ⟨⟨ga0, gc0, rfl, G0⟩, ⟨ga1, gc1, rfl, G1⟩, ⟨ga2, gc2, rfl, G2⟩, ⟨ga3, gc3, rfl, G3⟩⟩ := hgn
              obtain ⟨fp, fr, fl, fcode⟩ := f
              obtain ⟨gp, gr, gl, gcode⟩ := g
              simp only [Fn.fits] at ff gg F0 F1 F2 F3 G0 G1 G2 G3 q0 q1 q2 q3 r0 r1 r2 r3
              obtain ⟨n0, hn0⟩ : ∃ n, n = fp.length := ⟨_, rfl⟩
              obtain ⟨n1, hn1⟩ : ∃ n, n = fr.length := ⟨_, rfl⟩
              obtain ⟨n2, hn2⟩ : ∃ n, n = fl.length := ⟨_, rfl⟩
              obtain ⟨n3, hn3⟩ : ∃ n, n = fcode.length := ⟨_, rfl⟩
              obtain ⟨m0, hm0⟩ : ∃ n, n = gp.length := ⟨_, rfl⟩
              obtain ⟨m1, hm1⟩ : ∃ n, n = gr.length := ⟨_, rfl⟩
              obtain ⟨m2, hm2⟩ : ∃ n, n = gl.length := ⟨_, rfl⟩
              obtain ⟨m3, hm3⟩ : ∃ n, n = gcode.length := ⟨_, rfl⟩
              rw [← hn0, ← hn1, ← hn2, ← hn3] at ff
              rw [← hm0, ← hm1, ← hm2, ← hm3] at gg
              rw [← hn0] at q0
              rw [← hn1] at q1
              rw [← hn2] at q2
              rw [← hn3] at q3
              rw [← hm0] at r0
              rw [← hm1] at r1
              rw [← hm2] at r2
              rw [← hm3] at r3
              obtain ⟨z0, z1, z2, z3⟩ := ff
              obtain ⟨y0, y1, y2, y3⟩ := gg
              obtain ⟨W4, hW4⟩ : ∃ W4, W4 = (wr.alloc (.cells #[.slice fa0 n0 fc0, .slice fa1 n1 fc1, .slice fa2 n2 fc2, .slice fa3 n3 fc3] 44)).alloc (.cells #[.slice ga0 m0 gc0, .slice ga1 m1 gc1, .slice ga2 m2 gc2, .slice ga3 m3 gc3] 44) := ⟨_, rfl⟩
              have hb4 : Below wr.heap.size wr W4 := by rw [hW4]; exact ((Below.refl _ wr).alloc (Nat.le_refl _) _).alloc (by simp) _
              have k4 : ∀ m a v, wr.cell? a = some v → (W4.drewN m).cell? a = some v := fun m => below_keep (below_draws2 hb4 m)
              have hI0 : ∀ m, Calls Tryz.prog 19 #[.slice fa0 n0 fc0, .slice ga0 m0 gc0] (W4.drewN m) fun e w' => e = .returned (.bool (decide (fp = gp))) ∧ ∃ k, w' = W4.drewN k := fun m => (ints2_any fa0 ga0 fc0 gc0 n0 m0 fp gp hn0.symm hm0.symm _ (F0.keep (k4 m)) (G0.keep (k4 m)) z0 y0).mono fun e w' ⟨he, j, hj⟩ => ⟨he, m + j, by rw [hj]; exact World.drewN_drewN _ _ _⟩
              have hI1 : ∀ m, Calls Tryz.prog 19 #[.slice fa1 n1 fc1, .slice ga1 m1 gc1] (W4.drewN m) fun e w' => e = .returned (.bool (decide (fr = gr))) ∧ ∃ k, w' = W4.drewN k := fun m => (ints2_any fa1 ga1 fc1 gc1 n1 m1 fr gr hn1.symm hm1.symm _ (F1.keep (k4 m)) (G1.keep (k4 m)) z1 y1).mono fun e w' ⟨he, j, hj⟩ => ⟨he, m + j, by rw [hj]; exact World.drewN_drewN _ _ _⟩
              have hI2 : ∀ m, Calls Tryz.prog 19 #[.slice fa2 n2 fc2, .slice ga2 m2 gc2] (W4.drewN m) fun e w' => e = .returned (.bool (decide (fl = gl))) ∧ ∃ k, w' = W4.drewN k := fun m => (ints2_any fa2 ga2 fc2 gc2 n2 m2 fl gl hn2.symm hm2.symm _ (F2.keep (k4 m)) (G2.keep (k4 m)) z2 y2).mono fun e w' ⟨he, j, hj⟩ => ⟨he, m + j, by rw [hj]; exact World.drewN_drewN _ _ _⟩
              have HN3 := hid hn3
              have HM3 := hid hm3
              clear hn0 hn1 hn2 hn3 hm0 hm1 hm2 hm3 F0 F1 F2 G0 G1 G2
              have hI00 := hI0 0
              have hW40 : W4.drewN 0 = W4 := rfl
              rw [hW40] at hI00
              have hbW4 : ∀ m, Below w.heap.size w (W4.drewN m) := fun m => below_draws2 (hbw.trans (hb4.mono hbw.size)) m
              have hb24 : ∀ m, Below W2.heap.size W2 (W4.drewN m) := fun m => below_draws2 (hbr.trans (hb4.mono hbr.size)) m
              have bF : W4.heap[wr.heap.size]? = some (.cells #[.slice fa0 n0 fc0, .slice fa1 n1 fc1, .slice fa2 n2 fc2, .slice fa3 n3 fc3] 44 (0, 0)) := by rw [hW4, Below.heap_alloc _ _ _ (by simp)]; exact heap_alloc_new wr _
              have bG : W4.heap[wr.heap.size + 1]? = some (.cells #[.slice ga0 m0 gc0, .slice ga1 m1 gc1, .slice ga2 m2 gc2, .slice ga3 m3 gc3] 44 (0, 0)) := by
                have := heap_alloc_new (wr.alloc (.cells #[.slice fa0 n0 fc0, .slice fa1 n1 fc1, .slice fa2 n2 fc2, .slice fa3 n3 fc3] 44)) (.cells #[.slice ga0 m0 gc0, .slice ga1 m1 gc1, .slice ga2 m2 gc2, .slice ga3 m3 gc3] 44)
                rw [hW4]; simpa using this
              have s0 : W4.cell? ⟨wr.heap.size, 0, none⟩ = some (.slice fa0 n0 fc0) := by rw [Lib.cell_of_heap bF]; rfl
              have s1 : W4.cell? ⟨wr.heap.size, 1, none⟩ = some (.slice fa1 n1 fc1) := by rw [Lib.cell_of_heap bF]; rfl
              have s2 : W4.cell? ⟨wr.heap.size, 2, none⟩ = some (.slice fa2 n2 fc2) := by rw [Lib.cell_of_heap bF]; rfl
              have s3 : W4.cell? ⟨wr.heap.size, 3, none⟩ = some (.slice fa3 n3 fc3) := by rw [Lib.cell_of_heap bF]; rfl
              have t0 : W4.cell? ⟨wr.heap.size + 1, 0, none⟩ = some (.slice ga0 m0 gc0) := by rw [Lib.cell_of_heap bG]; rfl
              have t1 : W4.cell? ⟨wr.heap.size + 1, 1, none⟩ = some (.slice ga1 m1 gc1) := by rw [Lib.cell_of_heap bG]; rfl
              have t2 : W4.cell? ⟨wr.heap.size + 1, 2, none⟩ = some (.slice ga2 m2 gc2) := by rw [Lib.cell_of_heap bG]; rfl
              have t3 : W4.cell? ⟨wr.heap.size + 1, 3, none⟩ = some (.slice ga3 m3 gc3) := by rw [Lib.cell_of_heap bG]; rfl
              have pB1' := keepA wr (.cells #[.slice fa0 n0 fc0, .slice fa1 n1 fc1, .slice fa2 n2 fc2, .slice fa3 n3 fc3] 44) _ _ pB1
              have r0' := keepA wr (.cells #[.slice fa0 n0 fc0, .slice fa1 n1 fc1, .slice fa2 n2 fc2, .slice fa3 n3 fc3] 44) _ _ r0
              have r1' := keepA wr (.cells #[.slice fa0 n0 fc0, .slice fa1 n1 fc1, .slice fa2 n2 fc2, .slice fa3 n3 fc3] 44) _ _ r1
              have r2' := keepA wr (.cells #[.slice fa0 n0 fc0, .slice fa1 n1 fc1, .slice fa2 n2 fc2, .slice fa3 n3 fc3] 44) _ _ r2
              have r3' := keepA wr (.cells #[.slice fa0 n0 fc0, .slice fa1 n1 fc1, .slice fa2 n2 fc2, .slice fa3 n3 fc3] 44) _ _ r3
              go_upto_region 13 with fail
              rw [← hW4]
              clear hW4 hI0 pB1' r0' r1' r2' r3' q0 q1 q2 q3 r0 r1 r2 r3
              by_cases ep : fp = gp
              · rw [decide_eq_true ep] at hI00
                by_cases er : fr = gr
                · rw [decide_eq_true er] at hI1
                  by_cases el : fl = gl
                  · rw [decide_eq_true el] at hI2
                    by_cases e3 : n3 = m3
                    · subst e3
                      go_wp2_with (go_at_call 19; first | (refine hI00.mono ?_; rintro e w' ⟨rfl, j1, rfl⟩; clear hI00) | (refine (hI1 _).mono ?_; rintro e w' ⟨rfl, j2, rfl⟩; clear hI1) | (refine (hI2 _).mono ?_; rintro e w' ⟨rfl, j3, rfl⟩; clear hI2))
                      have F4 := F3.keep (k4 0)
                      have G4 := G3.keep (k4 0)
                      rw [hW40] at F4 G4
                      clear F3 G3
                      go_loopw [9] (fun i w5 => ∃ j m : Nat, j ≤ n3 ∧ i = .int .i64 j ∧ (∀ i (h1 : i < fcode.length) (h2 : i < gcode.length), i < j → fcode[i] = gcode[i]) ∧ w5 = W4.drewN m) (fun i _ => n3 - (intOf i).toNat)
                      case atStart => exact ⟨0, _, Nat.zero_le _, rfl, by omega, rfl⟩
                      case round =>
                        obtain ⟨j, m, hj, rfl, hrj, rfl⟩ := hrel
                        by_cases hjl : j < n3
                        · rcases F4 with hz | ⟨x2, o2, rfl, hc2⟩
                          · have := HN3.out; rw [hz] at this; simp at this; omega
                          rcases G4 with hz | ⟨x3, o3, rfl, hc3⟩
                          · have := HM3.out; rw [hz] at this; simp at this; omega
                          have jl : j < fcode.length := by have := HN3.out; omega
                          have jl' : j < gcode.length := by have := HM3.out; omega
                          obtain ⟨i0, i1⟩ := hc2 j jl
                          obtain ⟨l0, l1⟩ := hc3 j jl'
                          have HN' : Hid (fcode[j] ≠ gcode[j] → decide (s = t) = false) := hid fun h => HN.out fun e => by
                            have e4 : fcode = gcode := congrArg Fn.code e
                            subst e4
                            exact h rfl
                          have HT' : Hid (fcode[j] = gcode[j] → ∀ i (h1 : i < fcode.length) (h2 : i < gcode.length), i < j + 1 → fcode[i] = gcode[i]) := hid fun h i h1 h2 hij => by
                            rcases Nat.lt_or_ge i j with h3 | h3
                            · exact hrj i h1 h2 h3
                            · obtain rfl : i = j := by omega
                              exact h
                          generalize fcode[j] = x at i0 i1 HN' HT'
                          generalize gcode[j] = y at l0 l1 HN' HT'
                          obtain ⟨xo, xa⟩ := x
                          obtain ⟨yo, ya⟩ := y
                          simp only at i0 i1 l0 l1
                          clear hc2 hc3 hrj
                          by_cases ho : xo = yo
                          · subst ho
                            by_cases haa : xa = ya
                            · subst haa
                              go_wp2
                              go_quiet (fail)
                              go_wp2
                              refine ⟨⟨j + 1, _, by omega, by go_num, HT'.out (by simp), rfl⟩, by simp [intOf]; omega⟩
                            · have q : (xa != ya) = true := by simp [haa]
                              go_wp2
                              go_quiet (fail)
                              go_wp2
                              go_ret
                              exact ⟨by rw [HN'.out (by simp [haa])]; rfl, below_draws2 (hbW4 _) _⟩
                          · have q : (xo != yo) = true := by simp [ho]
                            go_wp2
                            go_quiet (fail)
                            go_wp2
                            go_ret
                            exact ⟨by rw [HN'.out (by simp [ho])]; rfl, below_draws2 (hbW4 _) _⟩
                        · have HE : Hid (∀ j (h1 : j < s.funcs.length) (h2 : j < t.funcs.length), j < k + 1 → s.funcs[j] = t.funcs[j]) := hid (HT.out (by
                            have e4 : fcode = gcode := List.ext_getElem (by have := HN3.out; have := HM3.out; omega) fun i h1 h2 => hrj i h1 h2 (by have := HN3.out; omega)
                            subst ep er el e4
                            rfl))
                          clear hrj
                          go_wp2
                          refine ⟨⟨k + 1, by omega, by go_num, HE.out, hb24 _⟩, by simp [intOf]; omega⟩
                    · have q : ((n3 : Int) != (m3 : Int)) = true := by simp; omega
                      have HN' : Hid (decide (s = t) = false) := hid (HN.out fun e => e3 (by rw [HN3.out, HM3.out, show fcode = gcode from congrArg Fn.code e]))
                      go_wp2_with (go_at_call 19; first | (refine hI00.mono ?_; rintro e w' ⟨rfl, j1, rfl⟩; clear hI00) | (refine (hI1 _).mono ?_; rintro e w' ⟨rfl, j2, rfl⟩; clear hI1) | (refine (hI2 _).mono ?_; rintro e w' ⟨rfl, j3, rfl⟩; clear hI2))
                      go_ret
                      exact ⟨by rw [HN'.out]; rfl, hbW4 _⟩
                  · rw [decide_eq_false el] at hI2
                    have HN' : Hid (decide (s = t) = false) := hid (HN.out fun e => el (congrArg Fn.l e))
                    go_wp2_with (go_at_call 19; first | (refine hI00.mono ?_; rintro e w' ⟨rfl, j1, rfl⟩; clear hI00) | (refine (hI1 _).mono ?_; rintro e w' ⟨rfl, j2, rfl⟩; clear hI1) | (refine (hI2 _).mono ?_; rintro e w' ⟨rfl, j3, rfl⟩; clear hI2))
                    go_ret
                    exact ⟨by rw [HN'.out]; rfl, hbW4 _⟩
                · rw [decide_eq_false er] at hI1
                  have HN' : Hid (decide (s = t) = false) := hid (HN.out fun e => er (congrArg Fn.r e))
                  go_wp2_with (go_at_call 19; first | (refine hI00.mono ?_; rintro e w' ⟨rfl, j1, rfl⟩; clear hI00) | (refine (hI1 _).mono ?_; rintro e w' ⟨rfl, j2, rfl⟩; clear hI1) | (refine (hI2 _).mono ?_; rintro e w' ⟨rfl, j3, rfl⟩; clear hI2))
                  go_ret
                  exact ⟨by rw [HN'.out]; rfl, hbW4 _⟩
              · rw [decide_eq_false ep] at hI00
                have HN' : Hid (decide (s = t) = false) := hid (HN.out fun e => ep (congrArg Fn.p e))
                go_wp2_with (go_at_call 19; first | (refine hI00.mono ?_; rintro e w' ⟨rfl, j1, rfl⟩; clear hI00) | (refine (hI1 _).mono ?_; rintro e w' ⟨rfl, j2, rfl⟩; clear hI1) | (refine (hI2 _).mono ?_; rintro e w' ⟨rfl, j3, rfl⟩; clear hI2))
                go_ret
                exact ⟨by rw [HN'.out]; rfl, hbW4 _⟩
            · have HE : Hid (decide (s = t) = true) := hid (decide_eq_true (by
                have e4 : s.funcs = t.funcs := List.ext_getElem (by have := HN1.out; have := HM1.out; omega) fun i h1 h2 => hr i h1 h2 (by have := HN1.out; omega)
                have e5 := HC.out
                cases s; cases t
                simp only at e4 e5
                subst e4 e5
                rfl))
              clear hr
              go_wp2
              go_ret
              exact ⟨by rw [HE.out]; rfl, hbw⟩
    · have q : ((N1 : Int) != (M1 : Int)) = true := by simp; omega
      subst e0
      have HE : Hid (decide (s = t) = false) := hid (decide_eq_false fun e => e1 (by rw [HN1.out, HM1.out, e]))
      go_enter Tryz.func11, Tryz.ntmps11
      go_wp2
      go_ret
      exact ⟨by rw [HE.out]; rfl, by rw [← hW2]; exact hb2⟩
  · have q : ((N0 : Int) != (M0 : Int)) = true := by simp; omega
    have HE : Hid (decide (s = t) = false) := hid (decide_eq_false fun e => e0 (by rw [HN0.out, HM0.out, e]))
    go_enter Tryz.func11, Tryz.ntmps11
    go_wp2
    go_ret
    exact ⟨by rw [HE.out]; rfl, by rw [← hW2]; exact hb2⟩
end Go.Proofs.YtodagpmcmjleaaaGreat
