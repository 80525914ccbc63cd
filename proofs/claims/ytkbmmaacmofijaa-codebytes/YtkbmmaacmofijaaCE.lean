/- slices.Equal, slices.EqualFunc, and code.Same of any two scripts. code.sameFunc, slices.EqualFunc, code.Same of any two scripts. slices.EqualFunc, code.Same of any two scripts. -/
import Derived.Test.YtkbmmaacmofijaaCS
namespace Go.Proofs.Ytkbmmaacmofijaa
open Go.RowKit
set_option maxRecDepth 100000 in
set_option maxHeartbeats 1000000 in
theorem eqN_any (a b : Option Addr) (c d n m : Nat) (ns ms : List Int) (hn : ns.length = n) (hm : ms.length = m) (w : World) (ha : NsAt w.cell? a ns) (hb : NsAt w.cell? b ms) (hl : n ≤ 17592186044416) (hl' : m ≤ 17592186044416) : Calls Try.prog 84 #[.slice a n c, .slice b m d] w fun e w' => e = .returned (.bool (decide (ns = ms))) ∧ ∃ k, w' = w.drewN k := by
  by_cases hnm : n = m
  · subst hnm
    go_enter Try.func84, Try.ntmps84
    go_wp2
    go_loopw [13] (fun i wr => ∃ k m : Nat, k ≤ n ∧ i = .int .i64 k ∧ (∀ j (h1 : j < ns.length) (h2 : j < ms.length), j < k → ns[j] = ms[j]) ∧ wr = w.drewN m) (fun i _ => n - (intOf i).toNat)
    case atStart => exact ⟨0, 0, Nat.zero_le _, rfl, by omega, rfl⟩
    case round =>
      obtain ⟨k, m, hk, rfl, hr, rfl⟩ := hrel
      by_cases hlt : k < n
      · rcases ha with h0 | ⟨b0, off0, rfl, hc0⟩
        · subst h0; simp at hn; omega
        rcases hb with h0 | ⟨b1, off1, rfl, hc1⟩
        · subst h0; simp at hm; omega
        have c0 := hc0 k (by omega)
        have d0 := hc1 k (by omega)
        have HN : Hid (ns[k] ≠ ms[k] → decide (ns = ms) = false) := hid (list_ne (by omega) (by omega))
        have HT : Hid (ns[k] = ms[k] → ∀ j (h1 : j < ns.length) (h2 : j < ms.length), j < k + 1 → ns[j] = ms[j]) := hid fun h j h1 h2 hjk => by
          rcases Nat.lt_or_ge j k with h3 | h3
          · exact hr j h1 h2 h3
          · obtain rfl : j = k := by omega
            exact h
        generalize ns[k] = x at c0 HN HT
        generalize ms[k] = y at d0 HN HT
        clear hc0 hc1
        by_cases h1 : x = y
        · subst h1
          go_wp2
          go_quiet (fail)
          go_wp2
          refine ⟨⟨k + 1, _, by omega, by go_num, HT.out (by simp), rfl⟩, by simp [intOf]; omega⟩
        · have q : (x != y) = true := by simp [h1]
          have q' : (x == y) = false := by simp [h1]
          go_wp2
          go_quiet (fail)
          go_wp2
          go_ret
          exact ⟨by rw [HN.out h1]; rfl, m + nq, World.drewN_drewN _ _ _⟩
      · have HE : Hid (decide (ns = ms) = true) := hid (decide_eq_true (List.ext_getElem (by omega) fun j h1 h2 => hr j h1 h2 (by omega)))
        go_wp2
        go_ret
        exact ⟨by rw [HE.out]; rfl, m, rfl⟩
  · have hne : ((n : Int) != (m : Int)) = true := by simp; omega
    have hd : decide (ns = ms) = false := decide_eq_false fun h => hnm (by rw [← hn, ← hm, h])
    go_enter Try.func84, Try.ntmps84
    go_wp2
    go_ret
    exact ⟨by rw [hd]; rfl, 0, rfl⟩
set_option maxRecDepth 100000 in
set_option maxHeartbeats 1000000 in
theorem eqS_any (a b : Option Addr) (c d n m : Nat) (ns ms : List (List UInt8)) (hn : ns.length = n) (hm : ms.length = m) (w : World) (ha : SsAt w.cell? a ns) (hb : SsAt w.cell? b ms) (hl : n ≤ 17592186044416) (hl' : m ≤ 17592186044416) : Calls Try.prog 49 #[.slice a n c, .slice b m d] w fun e w' => e = .returned (.bool (decide (ns = ms))) ∧ ∃ k, w' = w.drewN k := by
  by_cases hnm : n = m
  · subst hnm
    go_enter Try.func49, Try.ntmps49
    go_wp2
    go_loopw [13] (fun i wr => ∃ k m : Nat, k ≤ n ∧ i = .int .i64 k ∧ (∀ j (h1 : j < ns.length) (h2 : j < ms.length), j < k → ns[j] = ms[j]) ∧ wr = w.drewN m) (fun i _ => n - (intOf i).toNat)
    case atStart => exact ⟨0, 0, Nat.zero_le _, rfl, by omega, rfl⟩
    case round =>
      obtain ⟨k, m, hk, rfl, hr, rfl⟩ := hrel
      by_cases hlt : k < n
      · rcases ha with h0 | ⟨b0, off0, rfl, hc0⟩
        · subst h0; simp at hn; omega
        rcases hb with h0 | ⟨b1, off1, rfl, hc1⟩
        · subst h0; simp at hm; omega
        have c0 := hc0 k (by omega)
        have d0 := hc1 k (by omega)
        have HN : Hid (ns[k] ≠ ms[k] → decide (ns = ms) = false) := hid (list_ne (by omega) (by omega))
        have HT : Hid (ns[k] = ms[k] → ∀ j (h1 : j < ns.length) (h2 : j < ms.length), j < k + 1 → ns[j] = ms[j]) := hid fun h j h1 h2 hjk => by
          rcases Nat.lt_or_ge j k with h3 | h3
          · exact hr j h1 h2 h3
          · obtain rfl : j = k := by omega
            exact h
        generalize ns[k] = x at c0 HN HT
        generalize ms[k] = y at d0 HN HT
        clear hc0 hc1
        by_cases h1 : x = y
        · subst h1
          go_wp2
          go_quiet (fail)
          go_wp2
          refine ⟨⟨k + 1, _, by omega, by go_num, HT.out (by simp), rfl⟩, by simp [intOf]; omega⟩
        · have q : (x != y) = true := by simp [h1]
          have q' : (x == y) = false := by simp [h1]
          go_wp2
          go_quiet (fail)
          go_wp2
          go_ret
          exact ⟨by rw [HN.out h1]; rfl, m + nq, World.drewN_drewN _ _ _⟩
      · have HE : Hid (decide (ns = ms) = true) := hid (decide_eq_true (List.ext_getElem (by omega) fun j h1 h2 => hr j h1 h2 (by omega)))
        go_wp2
        go_ret
        exact ⟨by rw [HE.out]; rfl, m, rfl⟩
  · have hne : ((n : Int) != (m : Int)) = true := by simp; omega
    have hd : decide (ns = ms) = false := decide_eq_false fun h => hnm (by rw [← hn, ← hm, h])
    go_enter Try.func49, Try.ntmps49
    go_wp2
    go_ret
    exact ⟨by rw [hd]; rfl, 0, rfl⟩
set_option maxRecDepth 100000 in
set_option maxHeartbeats 1000000 in
theorem eqX_any (a b : Option Addr) (c d n m : Nat) (ns ms : List (Int × Int)) (hn : ns.length = n) (hm : ms.length = m) (w : World) (ha : IsAt w.cell? a ns) (hb : IsAt w.cell? b ms) (hl : n ≤ 17592186044416) (hl' : m ≤ 17592186044416) : Calls Try.prog 85 #[.slice a n c, .slice b m d] w fun e w' => e = .returned (.bool (decide (ns = ms))) ∧ ∃ k, w' = w.drewN k := by
  by_cases hnm : n = m
  · subst hnm
    go_enter Try.func85, Try.ntmps85
    go_wp2
    go_loopw [13] (fun i wr => ∃ k m : Nat, k ≤ n ∧ i = .int .i64 k ∧ (∀ j (h1 : j < ns.length) (h2 : j < ms.length), j < k → ns[j] = ms[j]) ∧ wr = w.drewN m) (fun i _ => n - (intOf i).toNat)
    case atStart => exact ⟨0, 0, Nat.zero_le _, rfl, by omega, rfl⟩
    case round =>
      obtain ⟨k, m, hk, rfl, hr, rfl⟩ := hrel
      by_cases hlt : k < n
      · rcases ha with h0 | ⟨b0, off0, rfl, hc0⟩
        · subst h0; simp at hn; omega
        rcases hb with h0 | ⟨b1, off1, rfl, hc1⟩
        · subst h0; simp at hm; omega
        obtain ⟨c0, c1⟩ := hc0 k (by omega)
        obtain ⟨d0, d1⟩ := hc1 k (by omega)
        have HN : Hid (ns[k] ≠ ms[k] → decide (ns = ms) = false) := hid (list_ne (by omega) (by omega))
        have HT : Hid (ns[k] = ms[k] → ∀ j (h1 : j < ns.length) (h2 : j < ms.length), j < k + 1 → ns[j] = ms[j]) := hid fun h j h1 h2 hjk => by
          rcases Nat.lt_or_ge j k with h3 | h3
          · exact hr j h1 h2 h3
          · obtain rfl : j = k := by omega
            exact h
        generalize ns[k] = x at c0 c1 HN HT
        generalize ms[k] = y at d0 d1 HN HT
        obtain ⟨x0, x1⟩ := x
        obtain ⟨y0, y1⟩ := y
        simp only at c0 c1 d0 d1
        clear hc0 hc1
        by_cases h1 : x0 = y0
        · by_cases h2 : x1 = y1
          · subst h1 h2
            go_wp2
            go_quiet (fail)
            go_wp2
            refine ⟨⟨k + 1, _, by omega, by go_num, HT.out (by simp), rfl⟩, by simp [intOf]; omega⟩
          · subst h1
            have q : (x1 == y1) = false := by simp [h2]
            have q' : (x1 != y1) = true := by simp [h2]
            go_wp2
            go_quiet (fail)
            go_wp2
            go_ret
            exact ⟨by rw [HN.out (by simp [h2])]; rfl, m + nq, World.drewN_drewN _ _ _⟩
        · have q : (x0 == y0) = false := by simp [h1]
          have q' : (x0 != y0) = true := by simp [h1]
          go_wp2
          go_quiet (fail)
          go_wp2
          go_ret
          exact ⟨by rw [HN.out (by simp [h1])]; rfl, m + nq, World.drewN_drewN _ _ _⟩
      · have HE : Hid (decide (ns = ms) = true) := hid (decide_eq_true (List.ext_getElem (by omega) fun j h1 h2 => hr j h1 h2 (by omega)))
        go_wp2
        go_ret
        exact ⟨by rw [HE.out]; rfl, m, rfl⟩
  · have hne : ((n : Int) != (m : Int)) = true := by simp; omega
    have hd : decide (ns = ms) = false := decide_eq_false fun h => hnm (by rw [← hn, ← hm, h])
    go_enter Try.func85, Try.ntmps85
    go_wp2
    go_ret
    exact ⟨by rw [hd]; rfl, 0, rfl⟩
end Go.Proofs.Ytkbmmaacmofijaa
namespace Go.Proofs.Ytkbmmaacmofijaa
open Go.RowKit
set_option maxRecDepth 100000 in
set_option maxHeartbeats 2000000 in
theorem sameFunc_any (f g : Fn) (v0 v1 v2 v3 u0 u1 u2 u3 : Value) (w : World) (hf : FnIs w.cell? f v0 v1 v2 v3) (hg : FnIs w.cell? g u0 u1 u2 u3) (hff : f.fits) (hgf : g.fits) : Calls Try.prog 51 #[.agg #[v0, v1, v2, v3], .agg #[u0, u1, u2, u3]] w fun e w' => e = .returned (.bool (decide (f = g))) ∧ Below w.heap.size w w' := by
  obtain ⟨⟨a0, c0, rfl, h0⟩, ⟨a1, c1, rfl, h1⟩, ⟨a2, c2, rfl, h2⟩, ⟨a3, c3, rfl, h3⟩⟩ := hf
  obtain ⟨⟨b0, d0, rfl, g0⟩, ⟨b1, d1, rfl, g1⟩, ⟨b2, d2, rfl, g2⟩, ⟨b3, d3, rfl, g3⟩⟩ := hg
  obtain ⟨z0, z1, z2, z3⟩ := hff
  obtain ⟨y0, y1, y2, y3⟩ := hgf
  have HD : Hid (decide (f = g) = (decide (f.p = g.p) && decide (f.r = g.r) && decide (f.l = g.l) && decide (f.code = g.code))) := hid (by
    cases f; cases g; simp [Fn.mk.injEq, Bool.decide_and, Bool.and_assoc])
  obtain ⟨W2, hW2⟩ : ∃ W2, W2 = (w.alloc (.cells #[.slice a0 f.p.length c0, .slice a1 f.r.length c1, .slice a2 f.l.length c2, .slice a3 f.code.length c3] 32)).alloc (.cells #[.slice b0 g.p.length d0, .slice b1 g.r.length d1, .slice b2 g.l.length d2, .slice b3 g.code.length d3] 32) := ⟨_, rfl⟩
  have hb2 : Below w.heap.size w W2 := by rw [hW2]; exact ((Below.refl _ w).alloc (Nat.le_refl _) _).alloc (by simp) _
  have bA : W2.heap[w.heap.size]? = some (.cells #[.slice a0 f.p.length c0, .slice a1 f.r.length c1, .slice a2 f.l.length c2, .slice a3 f.code.length c3] 32 (0, 0)) := by rw [hW2, Below.heap_alloc _ _ _ (by simp)]; exact heap_alloc_new w _
  have bB : W2.heap[w.heap.size + 1]? = some (.cells #[.slice b0 g.p.length d0, .slice b1 g.r.length d1, .slice b2 g.l.length d2, .slice b3 g.code.length d3] 32 (0, 0)) := by
    have := heap_alloc_new (w.alloc (.cells #[.slice a0 f.p.length c0, .slice a1 f.r.length c1, .slice a2 f.l.length c2, .slice a3 f.code.length c3] 32)) (.cells #[.slice b0 g.p.length d0, .slice b1 g.r.length d1, .slice b2 g.l.length d2, .slice b3 g.code.length d3] 32)
    rw [hW2]; simpa using this
  have hk : ∀ m a v, w.cell? a = some v → (W2.drewN m).cell? a = some v := fun m => below_keep (below_draws2 hb2 m)
  have pA0 : W2.cell? ⟨w.heap.size, 0, none⟩ = some (.slice a0 f.p.length c0) := by rw [Lib.cell_of_heap bA]; rfl
  have pB0 : W2.cell? ⟨w.heap.size + 1, 0, none⟩ = some (.slice b0 g.p.length d0) := by rw [Lib.cell_of_heap bB]; rfl
  have hC0 : ∀ m, Calls Try.prog 84 #[.slice a0 f.p.length c0, .slice b0 g.p.length d0] (W2.drewN m) fun e w' => e = .returned (.bool (decide (f.p = g.p))) ∧ ∃ k, w' = W2.drewN k := fun m => (eqN_any a0 b0 c0 d0 _ _ f.p g.p rfl rfl (W2.drewN m) (h0.keep (hk m)) (g0.keep (hk m)) (by omega) (by omega)).mono (by rintro e w' ⟨rfl, k, rfl⟩; exact ⟨rfl, m + k, World.drewN_drewN _ _ _⟩)
  have pA1 : W2.cell? ⟨w.heap.size, 1, none⟩ = some (.slice a1 f.r.length c1) := by rw [Lib.cell_of_heap bA]; rfl
  have pB1 : W2.cell? ⟨w.heap.size + 1, 1, none⟩ = some (.slice b1 g.r.length d1) := by rw [Lib.cell_of_heap bB]; rfl
  have hC1 : ∀ m, Calls Try.prog 84 #[.slice a1 f.r.length c1, .slice b1 g.r.length d1] (W2.drewN m) fun e w' => e = .returned (.bool (decide (f.r = g.r))) ∧ ∃ k, w' = W2.drewN k := fun m => (eqN_any a1 b1 c1 d1 _ _ f.r g.r rfl rfl (W2.drewN m) (h1.keep (hk m)) (g1.keep (hk m)) (by omega) (by omega)).mono (by rintro e w' ⟨rfl, k, rfl⟩; exact ⟨rfl, m + k, World.drewN_drewN _ _ _⟩)
  have pA2 : W2.cell? ⟨w.heap.size, 2, none⟩ = some (.slice a2 f.l.length c2) := by rw [Lib.cell_of_heap bA]; rfl
  have pB2 : W2.cell? ⟨w.heap.size + 1, 2, none⟩ = some (.slice b2 g.l.length d2) := by rw [Lib.cell_of_heap bB]; rfl
  have hC2 : ∀ m, Calls Try.prog 84 #[.slice a2 f.l.length c2, .slice b2 g.l.length d2] (W2.drewN m) fun e w' => e = .returned (.bool (decide (f.l = g.l))) ∧ ∃ k, w' = W2.drewN k := fun m => (eqN_any a2 b2 c2 d2 _ _ f.l g.l rfl rfl (W2.drewN m) (h2.keep (hk m)) (g2.keep (hk m)) (by omega) (by omega)).mono (by rintro e w' ⟨rfl, k, rfl⟩; exact ⟨rfl, m + k, World.drewN_drewN _ _ _⟩)
  have pA3 : W2.cell? ⟨w.heap.size, 3, none⟩ = some (.slice a3 f.code.length c3) := by rw [Lib.cell_of_heap bA]; rfl
  have pB3 : W2.cell? ⟨w.heap.size + 1, 3, none⟩ = some (.slice b3 g.code.length d3) := by rw [Lib.cell_of_heap bB]; rfl
  have hC3 : ∀ m, Calls Try.prog 85 #[.slice a3 f.code.length c3, .slice b3 g.code.length d3] (W2.drewN m) fun e w' => e = .returned (.bool (decide (f.code = g.code))) ∧ ∃ k, w' = W2.drewN k := fun m => (eqX_any a3 b3 c3 d3 _ _ f.code g.code rfl rfl (W2.drewN m) (h3.keep (hk m)) (g3.keep (hk m)) (by omega) (by omega)).mono (by rintro e w' ⟨rfl, k, rfl⟩; exact ⟨rfl, m + k, World.drewN_drewN _ _ _⟩)
  generalize decide (f.p = g.p) = r0 at HD hC0
  generalize f.p.length = n0 at *
  generalize g.p.length = m0 at *
  generalize decide (f.r = g.r) = r1 at HD hC1
  generalize f.r.length = n1 at *
  generalize g.r.length = m1 at *
  generalize decide (f.l = g.l) = r2 at HD hC2
  generalize f.l.length = n2 at *
  generalize g.l.length = m2 at *
  generalize decide (f.code = g.code) = r3 at HD hC3
  generalize f.code.length = n3 at *
  generalize g.code.length = m3 at *
  generalize decide (f = g) = rr at HD ⊢
  have hC := hC0 0
  rw [show W2.drewN 0 = W2 from rfl] at hC
  clear hk bA bB h0 h1 h2 h3 g0 g1 g2 g3
  cases r0 with
  | false =>
    have HE : Hid (rr = false) := hid (by rw [HD.out]; simp)
    clear HD
    go_enter Try.func51, Try.ntmps51
    go_wp2_with fail
    rw [← hW2]
    clear hW2
    refine hC.mono ?_
    clear hC hC0
    rintro e w' ⟨rfl, k, rfl⟩
    go_wp2_with (first | (go_at_call 84; first | (refine (hC1 _).mono ?_; clear hC1; rintro e w' ⟨rfl, k, rfl⟩) | (refine (hC2 _).mono ?_; clear hC2; rintro e w' ⟨rfl, k, rfl⟩)) | (go_at_call 85; refine (hC3 _).mono ?_; rintro e w' ⟨rfl, k, rfl⟩))
    go_ret
    exact ⟨by rw [HE.out]; rfl, below_draws2 hb2 _⟩
  | true =>
  cases r1 with
  | false =>
    have HE : Hid (rr = false) := hid (by rw [HD.out]; simp)
    clear HD
    go_enter Try.func51, Try.ntmps51
    go_wp2_with fail
    rw [← hW2]
    clear hW2
    refine hC.mono ?_
    clear hC hC0
    rintro e w' ⟨rfl, k, rfl⟩
    go_wp2_with (first | (go_at_call 84; first | (refine (hC1 _).mono ?_; clear hC1; rintro e w' ⟨rfl, k, rfl⟩) | (refine (hC2 _).mono ?_; clear hC2; rintro e w' ⟨rfl, k, rfl⟩)) | (go_at_call 85; refine (hC3 _).mono ?_; rintro e w' ⟨rfl, k, rfl⟩))
    go_ret
    exact ⟨by rw [HE.out]; rfl, below_draws2 hb2 _⟩
  | true =>
  cases r2 with
  | false =>
    have HE : Hid (rr = false) := hid (by rw [HD.out]; simp)
    clear HD
    go_enter Try.func51, Try.ntmps51
    go_wp2_with fail
    rw [← hW2]
    clear hW2
    refine hC.mono ?_
    clear hC hC0
    rintro e w' ⟨rfl, k, rfl⟩
    go_wp2_with (first | (go_at_call 84; first | (refine (hC1 _).mono ?_; clear hC1; rintro e w' ⟨rfl, k, rfl⟩) | (refine (hC2 _).mono ?_; clear hC2; rintro e w' ⟨rfl, k, rfl⟩)) | (go_at_call 85; refine (hC3 _).mono ?_; rintro e w' ⟨rfl, k, rfl⟩))
    go_ret
    exact ⟨by rw [HE.out]; rfl, below_draws2 hb2 _⟩
  | true =>
  cases r3 with
  | false =>
    have HE : Hid (rr = false) := hid (by rw [HD.out]; simp)
    clear HD
    go_enter Try.func51, Try.ntmps51
    go_wp2_with fail
    rw [← hW2]
    clear hW2
    refine hC.mono ?_
    clear hC hC0
    rintro e w' ⟨rfl, k, rfl⟩
    go_wp2_with (first | (go_at_call 84; first | (refine (hC1 _).mono ?_; clear hC1; rintro e w' ⟨rfl, k, rfl⟩) | (refine (hC2 _).mono ?_; clear hC2; rintro e w' ⟨rfl, k, rfl⟩)) | (go_at_call 85; refine (hC3 _).mono ?_; rintro e w' ⟨rfl, k, rfl⟩))
    go_ret
    exact ⟨by rw [HE.out]; rfl, below_draws2 hb2 _⟩
  | true =>
    have HE : Hid (rr = true) := hid (by rw [HD.out]; simp)
    clear HD
    go_enter Try.func51, Try.ntmps51
    go_wp2_with fail
    rw [← hW2]
    clear hW2
    refine hC.mono ?_
    clear hC hC0
    rintro e w' ⟨rfl, k, rfl⟩
    go_wp2_with (first | (go_at_call 84; first | (refine (hC1 _).mono ?_; clear hC1; rintro e w' ⟨rfl, k, rfl⟩) | (refine (hC2 _).mono ?_; clear hC2; rintro e w' ⟨rfl, k, rfl⟩)) | (go_at_call 85; refine (hC3 _).mono ?_; rintro e w' ⟨rfl, k, rfl⟩))
    go_ret
    exact ⟨by rw [HE.out]; rfl, below_draws2 hb2 _⟩
end Go.Proofs.Ytkbmmaacmofijaa
namespace Go.Proofs.Ytkbmmaacmofijaa
open Go.RowKit
set_option maxRecDepth 100000 in
set_option maxHeartbeats 1000000 in
theorem eqF_any (a b : Option Addr) (c d n m : Nat) (fs gs : List Fn) (hn : fs.length = n) (hm : gs.length = m) (w : World) (ha : FsAt w.cell? a fs) (hb : FsAt w.cell? b gs) (hl : n ≤ 1466015503701) (hl' : m ≤ 1466015503701) (hf : ∀ f ∈ fs, f.fits) (hg : ∀ f ∈ gs, f.fits) : Calls Try.prog 50 #[.slice a n c, .slice b m d, .func (.func 51) #[] #[]] w fun e w' => e = .returned (.bool (decide (fs = gs))) ∧ Below w.heap.size w w' := by
  by_cases hnm : n = m
  · subst hnm
    go_enter Try.func50, Try.ntmps50
    go_wp2_with fail
    go_loopw [17] (fun i wr => ∃ k : Nat, k ≤ n ∧ i = .int .i64 k ∧ Hid (∀ j (h1 : j < fs.length) (h2 : j < gs.length), j < k → fs[j] = gs[j]) ∧ Below w.heap.size w wr) (fun i _ => n - (intOf i).toNat)
    case atStart => exact ⟨0, Nat.zero_le _, rfl, hid (by omega), Below.refl _ _⟩
    case round =>
      obtain ⟨k, hk, rfl, hr, hbr⟩ := hrel
      by_cases hlt : k < n
      · rcases ha with h0 | ⟨b0, off0, rfl, hc0⟩
        · subst h0; simp at hn; omega
        rcases hb with h0 | ⟨b1, off1, rfl, hc1⟩
        · subst h0; simp at hm; omega
        obtain ⟨v0, v1, v2, v3, p0, p1, p2, p3, hF⟩ := hc0 k (by omega)
        obtain ⟨u0, u1, u2, u3, q0, q1, q2, q3, hG⟩ := hc1 k (by omega)
        have ff := hf fs[k] (by simp)
        have gf := hg gs[k] (by simp)
        have HN : Hid (fs[k] ≠ gs[k] → decide (fs = gs) = false) := hid (list_ne (by omega) (by omega))
        have HT : Hid (fs[k] = gs[k] → ∀ j (h1 : j < fs.length) (h2 : j < gs.length), j < k + 1 → fs[j] = gs[j]) := hid fun h j h1 h2 hjk => by
          rcases Nat.lt_or_ge j k with h3 | h3
          · exact hr.out j h1 h2 h3
          · obtain rfl : j = k := by omega
            exact h
        generalize fs[k] = f at hF ff HN HT
        generalize gs[k] = g at hG gf HN HT
        have hkp := below_keep hbr
        replace p0 := hkp _ _ p0
        replace p1 := hkp _ _ p1
        replace p2 := hkp _ _ p2
        replace p3 := hkp _ _ p3
        replace q0 := hkp _ _ q0
        replace q1 := hkp _ _ q1
        replace q2 := hkp _ _ q2
        replace q3 := hkp _ _ q3
        have hCall : ∀ W, (∀ a v, wr.cell? a = some v → W.cell? a = some v) → Calls Try.prog 51 #[.agg #[v0, v1, v2, v3], .agg #[u0, u1, u2, u3]] W fun e w' => e = .returned (.bool (decide (f = g))) ∧ Below W.heap.size W w' := fun W hW => sameFunc_any f g _ _ _ _ _ _ _ _ W (hF.keep fun a v h => hW _ _ (hkp _ _ h)) (hG.keep fun a v h => hW _ _ (hkp _ _ h)) ff gf
        clear hc0 hc1 hkp
        obtain ⟨⟨fa0, fc0, rfl, _⟩, ⟨fa1, fc1, rfl, _⟩, ⟨fa2, fc2, rfl, _⟩, ⟨fa3, fc3, rfl, _⟩⟩ := hF
        obtain ⟨⟨ga0, gc0, rfl, _⟩, ⟨ga1, gc1, rfl, _⟩, ⟨ga2, gc2, rfl, _⟩, ⟨ga3, gc3, rfl, _⟩⟩ := hG
        have HX : Hid (decide (f = g) = true → f = g) := hid of_decide_eq_true
        have HY : Hid (decide (f = g) = false → f ≠ g) := hid of_decide_eq_false
        have HN' : Hid (decide (f = g) = false → decide (fs = gs) = false) := hid fun h => HN.out (HY.out h)
        have HT' : Hid (decide (f = g) = true → ∀ j (h1 : j < fs.length) (h2 : j < gs.length), j < k + 1 → fs[j] = gs[j]) := hid fun h => HT.out (HX.out h)
        clear HX HY HN HT ff gf
        generalize decide (f = g) = ok at hCall HN' HT'
        generalize f.p.length = n0 at *
        generalize g.p.length = m0 at *
        generalize f.r.length = n1 at *
        generalize g.r.length = m1 at *
        generalize f.l.length = n2 at *
        generalize g.l.length = m2 at *
        generalize f.code.length = n3 at *
        generalize g.code.length = m3 at *
        obtain ⟨W3, hW3⟩ : ∃ W3, W3 = wr.alloc (.cells #[.slice fa0 n0 fc0, .slice fa1 n1 fc1, .slice fa2 n2 fc2, .slice fa3 n3 fc3] 32) := ⟨_, rfl⟩
        have hb3 : Below wr.heap.size wr W3 := by rw [hW3]; exact (Below.refl _ wr).alloc (Nat.le_refl _) _
        have bF : W3.heap[wr.heap.size]? = some (.cells #[.slice fa0 n0 fc0, .slice fa1 n1 fc1, .slice fa2 n2 fc2, .slice fa3 n3 fc3] 32 (0, 0)) := by rw [hW3]; exact heap_alloc_new wr _
        have lF := (Array.getElem?_eq_some_iff.1 bF).1
        have r0 := below_keep hb3 _ _ q0
        have r1 := below_keep hb3 _ _ q1
        have r2 := below_keep hb3 _ _ q2
        have r3 := below_keep hb3 _ _ q3
        obtain ⟨W4, hW4⟩ : ∃ W4, W4 = W3.alloc (.cells #[.slice ga0 m0 gc0, .slice ga1 m1 gc1, .slice ga2 m2 gc2, .slice ga3 m3 gc3] 32) := ⟨_, rfl⟩
        have hb34 : Below W3.heap.size W3 W4 := by rw [hW4]; exact (Below.refl _ W3).alloc (Nat.le_refl _) _
        have bG : W4.heap[W3.heap.size]? = some (.cells #[.slice ga0 m0 gc0, .slice ga1 m1 gc1, .slice ga2 m2 gc2, .slice ga3 m3 gc3] 32 (0, 0)) := by rw [hW4]; exact heap_alloc_new W3 _
        have bF4 := (hb34.block _ lF).trans bF
        have hb4 : Below wr.heap.size wr W4 := hb3.trans (hb34.mono hb3.size)
        have s0 : W4.cell? ⟨wr.heap.size, 0, none⟩ = some (.slice fa0 n0 fc0) := by rw [Lib.cell_of_heap bF4]; rfl
        have s1 : W4.cell? ⟨wr.heap.size, 1, none⟩ = some (.slice fa1 n1 fc1) := by rw [Lib.cell_of_heap bF4]; rfl
        have s2 : W4.cell? ⟨wr.heap.size, 2, none⟩ = some (.slice fa2 n2 fc2) := by rw [Lib.cell_of_heap bF4]; rfl
        have s3 : W4.cell? ⟨wr.heap.size, 3, none⟩ = some (.slice fa3 n3 fc3) := by rw [Lib.cell_of_heap bF4]; rfl
        have t0 : W4.cell? ⟨W3.heap.size, 0, none⟩ = some (.slice ga0 m0 gc0) := by rw [Lib.cell_of_heap bG]; rfl
        have t1 : W4.cell? ⟨W3.heap.size, 1, none⟩ = some (.slice ga1 m1 gc1) := by rw [Lib.cell_of_heap bG]; rfl
        have t2 : W4.cell? ⟨W3.heap.size, 2, none⟩ = some (.slice ga2 m2 gc2) := by rw [Lib.cell_of_heap bG]; rfl
        have t3 : W4.cell? ⟨W3.heap.size, 3, none⟩ = some (.slice ga3 m3 gc3) := by rw [Lib.cell_of_heap bG]; rfl
        have hC := hCall W4 (below_keep hb4)
        have hbw4 := hbr.trans (hb4.mono hbr.size)
        cases ok with
        | false =>
          have HE := hid (HN'.out rfl)
          clear HN' HT'
          go_upto_region 6 with fail
          rw [← hW3]
          clear hW3
          go_upto_region 7 with fail
          rw [← hW4]
          clear hW4
          go_wp2_with (refine hC.mono ?_; clear hC; rintro e w6 ⟨rfl, hb6⟩)
          go_ret
          exact ⟨by rw [HE.out]; rfl, hbw4.trans (hb6.mono hbw4.size)⟩
        | true =>
          have HE := hid (HT'.out rfl)
          clear HN' HT'
          go_upto_region 6 with fail
          rw [← hW3]
          clear hW3
          go_upto_region 7 with fail
          rw [← hW4]
          clear hW4
          go_wp2_with (refine hC.mono ?_; clear hC; rintro e w6 ⟨rfl, hb6⟩)
          exact ⟨⟨k + 1, by omega, by go_num, HE, hbw4.trans (hb6.mono hbw4.size)⟩, by simp [intOf]; omega⟩
      · have HE : Hid (decide (fs = gs) = true) := hid (decide_eq_true (List.ext_getElem (by omega) fun j h1 h2 => hr.out j h1 h2 (by omega)))
        go_wp2_with fail
        go_ret
        exact ⟨by rw [HE.out]; rfl, hbr⟩
  · have hne : ((n : Int) != (m : Int)) = true := by simp; omega
    have hd : decide (fs = gs) = false := decide_eq_false fun h => hnm (by rw [← hn, ← hm, h])
    go_enter Try.func50, Try.ntmps50
    go_wp2
    go_ret
    exact ⟨by rw [hd]; rfl, Below.refl _ _⟩
set_option maxRecDepth 100000 in
set_option maxHeartbeats 1000000 in
theorem same4_any (s t : Scr) (v0 v1 u0 u1 : Value) (w : World) (hS : ScIs w.cell? s v0 v1) (hT : ScIs w.cell? t u0 u1) (hf : s.fits) (hg : t.fits) : Calls Try.prog 25 #[.agg #[v0, v1], .agg #[u0, u1]] w fun e w' => e = .returned (.bool (decide (s = t))) ∧ Below w.heap.size w w' := by
  obtain ⟨⟨a0, c0, rfl, h0⟩, ⟨a1, c1, rfl, h1⟩⟩ := hS
  obtain ⟨⟨b0, d0, rfl, g0⟩, ⟨b1, d1, rfl, g1⟩⟩ := hT
  obtain ⟨hf0, hf1, hf2, _⟩ := hf
  obtain ⟨hg0, hg1, hg2, _⟩ := hg
  have HD : Hid (decide (s = t) = (decide (s.consts = t.consts) && decide (s.funcs = t.funcs))) := hid (by
    cases s; cases t; simp [Scr.mk.injEq, Bool.decide_and])
  obtain ⟨W2, hW2⟩ : ∃ W2, W2 = (w.alloc (.cells #[.slice a0 s.consts.length c0, .slice a1 s.funcs.length c1] 25)).alloc (.cells #[.slice b0 t.consts.length d0, .slice b1 t.funcs.length d1] 25) := ⟨_, rfl⟩
  have hb2 : Below w.heap.size w W2 := by rw [hW2]; exact ((Below.refl _ w).alloc (Nat.le_refl _) _).alloc (by simp) _
  have bA : W2.heap[w.heap.size]? = some (.cells #[.slice a0 s.consts.length c0, .slice a1 s.funcs.length c1] 25 (0, 0)) := by rw [hW2, Below.heap_alloc _ _ _ (by simp)]; exact heap_alloc_new w _
  have bB : W2.heap[w.heap.size + 1]? = some (.cells #[.slice b0 t.consts.length d0, .slice b1 t.funcs.length d1] 25 (0, 0)) := by
    have := heap_alloc_new (w.alloc (.cells #[.slice a0 s.consts.length c0, .slice a1 s.funcs.length c1] 25)) (.cells #[.slice b0 t.consts.length d0, .slice b1 t.funcs.length d1] 25)
    rw [hW2]; simpa using this
  have hk : ∀ m a v, w.cell? a = some v → (W2.drewN m).cell? a = some v := fun m => below_keep (below_draws2 hb2 m)
  have pA0 : W2.cell? ⟨w.heap.size, 0, none⟩ = some (.slice a0 s.consts.length c0) := by rw [Lib.cell_of_heap bA]; rfl
  have pA1 : W2.cell? ⟨w.heap.size, 1, none⟩ = some (.slice a1 s.funcs.length c1) := by rw [Lib.cell_of_heap bA]; rfl
  have pB0 : W2.cell? ⟨w.heap.size + 1, 0, none⟩ = some (.slice b0 t.consts.length d0) := by rw [Lib.cell_of_heap bB]; rfl
  have pB1 : W2.cell? ⟨w.heap.size + 1, 1, none⟩ = some (.slice b1 t.funcs.length d1) := by rw [Lib.cell_of_heap bB]; rfl
  have hC0 : Calls Try.prog 49 #[.slice a0 s.consts.length c0, .slice b0 t.consts.length d0] W2 fun e w' => e = .returned (.bool (decide (s.consts = t.consts))) ∧ ∃ k, w' = W2.drewN k := eqS_any a0 b0 c0 d0 _ _ s.consts t.consts rfl rfl W2 (h0.keep (hk 0)) (g0.keep (hk 0)) (by omega) (by omega)
  cases hr0 : decide (s.consts = t.consts) with
  | false =>
    have HE : Hid (decide (s = t) = false) := hid (by rw [HD.out, hr0]; rfl)
    rw [hr0] at hC0
    go_enter Try.func25, Try.ntmps25
    go_wp2_with fail
    rw [← hW2]
    clear hW2
    refine hC0.mono ?_
    rintro e w' ⟨rfl, k, rfl⟩
    clear hC0
    go_wp2_with fail
    go_ret
    exact ⟨by rw [HE.out]; rfl, below_draws2 hb2 _⟩
  | true =>
    rw [hr0] at hC0
    go_enter Try.func25, Try.ntmps25
    go_wp2_with fail
    rw [← hW2]
    clear hW2
    refine hC0.mono ?_
    rintro e w' ⟨rfl, k, rfl⟩
    clear hC0
    have hC1 := eqF_any a1 b1 c1 d1 _ _ s.funcs t.funcs rfl rfl (W2.drewN k) (h1.keep (hk k)) (g1.keep (hk k)) hf1 hg1 hf2 hg2
    have HE : Hid (decide (s = t) = decide (s.funcs = t.funcs)) := hid (by rw [HD.out, hr0]; rfl)
    go_wp2_with (go_at_call 50; refine hC1.mono ?_; rintro e w' ⟨rfl, hb6⟩)
    go_ret
    exact ⟨by rw [HE.out]; rfl, (below_draws2 hb2 k).trans (hb6.mono (below_draws2 hb2 k).size)⟩
end Go.Proofs.Ytkbmmaacmofijaa
