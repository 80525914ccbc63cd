/- Layer 8: num, Stacks (law07's), whole rows of rows. Layer 8: the document's calls. -/
import Derived.Test.YtikomfbpaimnmaaCL
import Derived.Test.YtikomfbpaimnmaaWC
namespace Go.Proofs.Ytikomfbpaimnmaa
open Go.RowKit
theorem hid7 {p : Prop} (h : p) : Hid p := h
theorem num8_any (x : Int) (w : World) : Calls Try.prog 12 #[.int .i64 x] w fun e w' => e = .returned (.int .i64 x) ∧ w' = w := by
  go_enter Try.func12, Try.ntmps12
  go_wp2
  go_ret
  exact ⟨rfl, rfl⟩
/-- A row of rows of numbers. -/
def RsAt (C : Addr → Option Value) (a : Option Addr) (R : List (List Int)) : Prop := R = [] ∨ ∃ b off, a = some ⟨b, off, none⟩ ∧ ∀ j (h : j < R.length), ∃ aj cj, C ⟨b, off + j, none⟩ = some (.slice aj R[j].length cj) ∧ NsAt C aj R[j]
theorem RsAt.keep {C C' : Addr → Option Value} {a : Option Addr} {R : List (List Int)} (h : RsAt C a R) (hk : ∀ x v, C x = some v → C' x = some v) : RsAt C' a R := by
  rcases h with h | ⟨b, off, e, h⟩
  · exact .inl h
  · refine .inr ⟨b, off, e, fun j hj => ?_⟩
    obtain ⟨aj, cj, h1, h2⟩ := h j hj
    exact ⟨aj, cj, hk _ _ h1, h2.keep hk⟩
set_option maxRecDepth 100000 in
set_option maxHeartbeats 1000000 in
theorem lstacks_any (R Q : List (List Int)) (a b : Option Addr) (c d n m : Nat) (hn : R.length = n) (hm : Q.length = m) (bn : n ≤ 100000) (bm : m ≤ 100000) (bR : ∀ r ∈ R, r.length ≤ 100000) (bQ : ∀ r ∈ Q, r.length ≤ 100000) (w : World) (ha : RsAt w.cell? a R) (hb : RsAt w.cell? b Q) :
    Calls Try.prog 11 #[.slice a n c, .slice b m d] w fun e w' => e = .returned (.bool (decide (R = Q))) ∧ ∃ k, w' = w.drewN k := by
  by_cases hnm : n = m
  · subst hnm
    have HA := hid7 ha
    have HB := hid7 hb
    clear ha hb
    go_enter Try.func11, Try.ntmps11
    go_wp2
    go_loopw [5] (fun i wr => ∃ k t : Nat, k ≤ n ∧ i = .int .i64 k ∧ Hid (∀ j (h1 : j < R.length) (h2 : j < Q.length), j < k → R[j] = Q[j]) ∧ wr = w.drewN t) (fun i _ => n - (intOf i).toNat)
    case atStart => exact ⟨0, 0, Nat.zero_le _, rfl, hid7 (by omega), rfl⟩
    case round =>
      obtain ⟨k, t, hk, rfl, hr, rfl⟩ := hrel
      by_cases hlt : k < n
      · obtain ⟨b0, off0, e0, a0, c0, q0, n0⟩ : ∃ b0 off0, a = some ⟨b0, off0, none⟩ ∧ ∃ a0 c0, w.cell? ⟨b0, off0 + k, none⟩ = some (.slice a0 (R[k]'(by omega)).length c0) ∧ NsAt w.cell? a0 (R[k]'(by omega)) := by
          rcases HA.out with h0 | ⟨b0, off0, e, h⟩
          · rw [h0] at hn; simp at hn; omega
          · exact ⟨b0, off0, e, h k (by omega)⟩
        obtain ⟨b1, off1, e1, a1, c1, q1, n1⟩ : ∃ b1 off1, b = some ⟨b1, off1, none⟩ ∧ ∃ a1 c1, w.cell? ⟨b1, off1 + k, none⟩ = some (.slice a1 (Q[k]'(by omega)).length c1) ∧ NsAt w.cell? a1 (Q[k]'(by omega)) := by
          rcases HB.out with h0 | ⟨b0, off0, e, h⟩
          · rw [h0] at hm; simp at hm; omega
          · exact ⟨b0, off0, e, h k (by omega)⟩
        subst e0 e1
        have hL := hid7 fun t => lints_any a0 a1 c0 c1 _ _ (R[k]'(by omega)) (Q[k]'(by omega)) rfl rfl (w.drewN t).drew n0 n1 (by have := bR _ (List.getElem_mem (l := R) (n := k) (by omega)); omega) (by have := bQ _ (List.getElem_mem (l := Q) (n := k) (by omega)); omega)
        have HNo : Hid (R[k]'(by omega) ≠ Q[k]'(by omega) → decide (R = Q) = false) := hid7 (list_ne (by omega) (by omega))
        have HT : Hid (R[k]'(by omega) = Q[k]'(by omega) → ∀ j (h1 : j < R.length) (h2 : j < Q.length), j < k + 1 → R[j] = Q[j]) := hid7 fun h j h1 h2 hjk => by
          rcases Nat.lt_or_ge j k with h3 | h3
          · exact hr.out j h1 h2 h3
          · obtain rfl : j = k := by omega
            exact h
        generalize R[k]'(by omega) = x at q0 hL HNo HT
        generalize Q[k]'(by omega) = y at q1 hL HNo HT
        clear n0 n1 HA HB hr
        have hdd : ∀ k', (w.drewN t).drew.drewN k' = w.drewN (t + (1 + k')) := fun k' => by
          rw [← World.drewN_drewN, ← World.drewN_drewN]
          rfl
        by_cases hxy : x = y
        · skip
          have hL2 : Hid (Calls Try.prog 13 #[.slice a0 x.length c0, .slice a1 y.length c1] (w.drewN t).drew fun e w' => e = .returned (.bool true) ∧ ∃ k', w' = w.drewN k') := hid7 ((hL.out t).mono fun e w' ⟨h1, k', h2⟩ => ⟨by rw [h1, decide_eq_true hxy], _, h2.trans (hdd k')⟩)
          have HT2 := hid7 (HT.out hxy)
          clear hL HT HNo hxy hdd
          generalize x.length = xl at q0 hL2
          generalize y.length = yl at q1 hL2
          go_wp2_with fail
          go_region_with (first | (go_at_call 13; refine hL2.out.mono ?_; clear hL2; rintro e w5 ⟨rfl, k5, w5e⟩; rw [w5e]; clear w5e) | fail)
          all_goals
            go_wp2
            exact ⟨⟨k + 1, _, by omega, by go_num, HT2, rfl⟩, by simp [intOf]; omega⟩
        · skip
          have hL2 : Hid (Calls Try.prog 13 #[.slice a0 x.length c0, .slice a1 y.length c1] (w.drewN t).drew fun e w' => e = .returned (.bool false) ∧ ∃ k', w' = w.drewN k') := hid7 ((hL.out t).mono fun e w' ⟨h1, k', h2⟩ => ⟨by rw [h1, decide_eq_false hxy], _, h2.trans (hdd k')⟩)
          have HN2 := hid7 (HNo.out hxy)
          clear hL HT HNo hxy hdd
          generalize x.length = xl at q0 hL2
          generalize y.length = yl at q1 hL2
          go_wp2_with fail
          go_region_with (first | (go_at_call 13; refine hL2.out.mono ?_; clear hL2; rintro e w5 ⟨rfl, k5, w5e⟩; rw [w5e]; clear w5e) | fail)
          all_goals
            go_wp2
            go_ret
            exact ⟨by rw [HN2.out]; rfl, _, rfl⟩
      · have HE : Hid (decide (R = Q) = true) := hid7 (decide_eq_true (List.ext_getElem (by omega) fun j h1 h2 => hr.out j h1 h2 (by omega)))
        clear HA HB hr
        go_wp2
        go_ret
        exact ⟨by rw [HE.out]; rfl, t, rfl⟩
  · have hne : ((n : Int) != (m : Int)) = true := by simp; omega
    have hd : decide (R = Q) = false := decide_eq_false fun h => hnm (by rw [← hn, ← hm, h])
    clear ha hb
    go_enter Try.func11, Try.ntmps11
    go_wp2
    go_ret
    exact ⟨by rw [hd]; rfl, 0, rfl⟩
end Go.Proofs.Ytikomfbpaimnmaa
namespace Go.Proofs.Ytikomfbpaimnmaa
open Go.RowKit
/-- Among the first k instructions one calls G. -/
def callsN (cs : List (Int × Int)) (G : Int) (k : Nat) : Bool := (cs.take k).any fun x => x.1 == 53 && x.2 == G
def callsS (cs : List (Int × Int)) (G : Int) : Bool := callsN cs G cs.length
theorem callsN_succ {cs : List (Int × Int)} {G : Int} {k : Nat} (h : k < cs.length) : callsN cs G (k + 1) = (callsN cs G k || (cs[k].1 == 53 && cs[k].2 == G)) := by
  unfold callsN
  rw [List.take_succ_eq_append_getElem h, List.any_append]
  simp
theorem callsN_mono {cs : List (Int × Int)} {G : Int} {k : Nat} (h : callsN cs G k = true) : callsS cs G = true := by
  unfold callsS callsN at *
  rw [List.take_length]
  obtain ⟨x, hx, hp⟩ := List.any_eq_true.1 h
  exact List.any_eq_true.2 ⟨x, List.mem_of_mem_take hx, hp⟩
set_option maxRecDepth 100000 in
set_option maxHeartbeats 1000000 in
theorem rcalls_any (cs : List (Int × Int)) (fb fo k fl c1 : Nat) (V0 : Value) (a3 : Option Addr) (c3 N : Nat) (hN : cs.length = N) (bN : N ≤ 100000) (hk : k < fl) (G : Int) (w : World) (h3 : w.cell? ⟨fb, fo + k * 4 + 3, none⟩ = some (.slice a3 N c3)) (hc : IsAt w.cell? a3 cs) :
    Calls Try.prog 25 #[.agg #[V0, .slice (some ⟨fb, fo, none⟩) fl c1], .int .i64 k, .int .i64 G] w fun e w' => e = .returned (.bool (callsS cs G)) ∧ Below w.heap.size w w' := by
  have HW : Hid (∀ W, Below (w.alloc (.cells #[V0, .slice (some ⟨fb, fo, none⟩) fl c1] 25)).heap.size (w.alloc (.cells #[V0, .slice (some ⟨fb, fo, none⟩) fl c1] 25)) W → W.cell? ⟨w.heap.size, 1, none⟩ = some (.slice (some ⟨fb, fo, none⟩) fl c1) ∧ W.cell? ⟨fb, fo + k * 4 + 3, none⟩ = some (.slice a3 N c3) ∧ Hid (IsAt W.cell? a3 cs) ∧ Hid (Below w.heap.size w W)) := hid7 fun W hW => by
    have b1 := (Below.refl _ w).alloc (Nat.le_refl _) (.cells #[V0, .slice (some ⟨fb, fo, none⟩) fl c1] 25)
    have e1 : (w.alloc (.cells #[V0, .slice (some ⟨fb, fo, none⟩) fl c1] 25)).heap[w.heap.size]? = some (.cells #[V0, .slice (some ⟨fb, fo, none⟩) fl c1] 25 (0, 0)) := heap_alloc_new w _
    have e2 := (hW.block _ (Array.getElem?_eq_some_iff.1 e1).1).trans e1
    have bw := b1.trans (hW.mono b1.size)
    have kk := below_keep bw
    exact ⟨by rw [Lib.cell_of_heap e2]; rfl, kk _ _ h3, hid7 (hc.keep kk), hid7 bw⟩
  have HN := hid7 hN
  obtain ⟨W1, hW1⟩ : ∃ W1, W1 = w.alloc (.cells #[V0, .slice (some ⟨fb, fo, none⟩) fl c1] 25) := ⟨_, rfl⟩
  clear hc hN
  go_enter Try.func25, Try.ntmps25
  go_wp2
  rw [← hW1] at HW ⊢
  clear hW1
  go_loopw [7] (fun iv wr => ∃ i : Nat, iv = .int .i64 i ∧ i ≤ N ∧ Hid (callsN cs G i = false) ∧ Hid (Below W1.heap.size W1 wr)) (fun iv _ => N - (intOf iv).toNat)
  case atStart => exact ⟨0, rfl, Nat.zero_le _, hid7 (by simp [callsN]), hid7 (Below.refl _ _)⟩
  case round =>
    obtain ⟨i, rfl, hi, hF, hB⟩ := hrel
    obtain ⟨q1, q3, HI, Bw⟩ := HW.out wr hB.out
    by_cases hiN : i < N
    · have hil : i < cs.length := by rw [HN.out]; exact hiN
      have hS := callsN_succ (G := G) hil
      obtain ⟨b3, o3, e3, x0, x1⟩ : ∃ b3 o3, a3 = some ⟨b3, o3, none⟩ ∧ wr.cell? ⟨b3, o3 + i * 2, none⟩ = some (.int .i64 cs[i].1) ∧ wr.cell? ⟨b3, o3 + i * 2 + 1, none⟩ = some (.int .i64 cs[i].2) := by
        rcases HI.out with h0 | ⟨b, off, e, h⟩
        · rw [h0] at hil; cases hil
        · exact ⟨b, off, e, h i hil⟩
      subst e3
      rw [hF.out, Bool.false_or] at hS
      generalize cs[i] = x at *
      obtain ⟨n, A⟩ := x
      simp only at *
      have b5 := (Below.refl _ wr).alloc (Nat.le_refl _) (.cells #[.int .i64 n, .int .i64 A] 51)
      have B5 := hid7 (hB.out.trans (b5.mono hB.out.size))
      have Bw5 := hid7 (Bw.out.trans (b5.mono Bw.out.size))
      have HS := hid7 hS
      clear hS b5 hF HI
      by_cases h53 : n = 53
      · subst h53
        by_cases hA : A = G
        · subst hA
          have HT : Hid (callsS cs A = true) := hid7 (callsN_mono (k := i + 1) (by rw [HS.out]; simp))
          go_wp2
          go_ret
          exact ⟨by rw [HT.out]; rfl, Bw5.out⟩
        · have t1 : (A == G) = false := by simpa using hA
          have HT : Hid (callsN cs G (i + 1) = false) := hid7 (by rw [HS.out, t1]; simp)
          clear hA HS
          go_wp2
          exact ⟨⟨i + 1, by go_num, hiN, HT, B5⟩, by simp [intOf]; omega⟩
      · have t1 : (n == 53) = false := by simpa using h53
        have HT : Hid (callsN cs G (i + 1) = false) := hid7 (by rw [HS.out, t1]; simp)
        clear h53 HS
        go_wp2
        exact ⟨⟨i + 1, by go_num, hiN, HT, B5⟩, by simp [intOf]; omega⟩
    · have hiN : i = N := by omega
      subst hiN
      have HT : Hid (callsS cs G = false) := hid7 (by unfold callsS; rw [HN.out]; exact hF.out)
      clear hF
      go_wp2
      go_ret
      exact ⟨by rw [HT.out]; rfl, Bw.out⟩
end Go.Proofs.Ytikomfbpaimnmaa
