/- law07: num, Stacks, square, knows. law07: square, knows. -/
import Derived.Test.YtnidakplcaanfaaTT
import Derived.Test.YtnidakplcaanfaaCB
namespace Go.Proofs.Ytnidakplcaanfaa
open Go.RowKit Go.Shelf
theorem num7_any (x : Int) (w : World) : Calls Try.prog 12 #[.int .i64 x] w fun e w' => e = .returned (.int .i64 x) ∧ w' = w := by
  go_enter Try.func12, Try.ntmps12
  go_wp2
  go_ret
  exact ⟨rfl, rfl⟩
/-- A row of rows of numbers. -/
def RsAt (C : Addr → Option Value) (a : Option Addr) (R : List (List Int)) : Prop := R = [] ∨ ∃ b off, a = some ⟨b, off, none⟩ ∧ ∀ j (h : j < R.length), ∃ aj cj, C ⟨b, off + j, none⟩ = some (.slice aj R[j].length cj) ∧ NsAt C aj R[j]
theorem SlAt.rs {B : Nat} {W : World} {a : Option Addr} {R : List (List Int)} (h : SlAt B W a R) : RsAt W.cell? a R := by
  rcases h with h | ⟨b, e, h⟩
  · exact .inl h
  · refine .inr ⟨b, 0, e, fun j hj => ?_⟩
    obtain ⟨aj, cj, h1, h2⟩ := h j hj
    exact ⟨aj, cj, by rw [Nat.zero_add]; exact h1, h2.1.at'⟩
theorem RsAt.keep {C C' : Addr → Option Value} {a : Option Addr} {R : List (List Int)} (h : RsAt C a R) (hk : ∀ x v, C x = some v → C' x = some v) : RsAt C' a R := by
  rcases h with h | ⟨b, off, e, h⟩
  · exact .inl h
  · refine .inr ⟨b, off, e, fun j hj => ?_⟩
    obtain ⟨aj, cj, h1, h2⟩ := h j hj
    exact ⟨aj, cj, hk _ _ h1, h2.keep hk⟩
set_option maxRecDepth 100000 in
set_option maxHeartbeats 1000000 in
theorem lstacks_any (R Q : List (List Int)) (a b : Option Addr) (c d n m : Nat) (hn : R.length = n) (hm : Q.length = m) (bn : n ≤ 100000) (bm : m ≤ 100000) (bR : ∀ r ∈ R, r.length ≤ 100000) (bQ : ∀ r ∈ Q, r.length ≤ 100000) (w : World) (ha : RsAt w.cell? a R) (hb : RsAt w.cell? b Q) :
    Calls Try.prog 11 #[.slice a n c, .slice b m d] w fun e w' => e = .returned (.bool (decide (R = Q))) ∧ ∃ k, w' = w.drewN k := by
  by_cases hnm : n = m
  · subst hnm
    have HA := hid7 ha
    have HB := hid7 hb
    clear ha hb
    go_enter Try.func11, Try.ntmps11
    go_wp2
    go_loopw [5] (fun i wr => ∃ k t : Nat, k ≤ n ∧ i = .int .i64 k ∧ Hid (∀ j (h1 : j < R.length) (h2 : j < Q.length), j < k → R[j] = Q[j]) ∧ wr = w.drewN t) (fun i _ => n - (intOf i).toNat)
    case atStart => exact ⟨0, 0, Nat.zero_le _, rfl, hid7 (by omega), rfl⟩
    case round =>
      obtain ⟨k, t, hk, rfl, hr, rfl⟩ := hrel
      by_cases hlt : k < n
      · obtain ⟨b0, off0, e0, a0, c0, q0, n0⟩ : ∃ b0 off0, a = some ⟨b0, off0, none⟩ ∧ ∃ a0 c0, w.cell? ⟨b0, off0 + k, none⟩ = some (.slice a0 (R[k]'(by omega)).length c0) ∧ NsAt w.cell? a0 (R[k]'(by omega)) := by
          rcases HA.out with h0 | ⟨b0, off0, e, h⟩
          · rw [h0] at hn; simp at hn; omega
          · exact ⟨b0, off0, e, h k (by omega)⟩
        obtain ⟨b1, off1, e1, a1, c1, q1, n1⟩ : ∃ b1 off1, b = some ⟨b1, off1, none⟩ ∧ ∃ a1 c1, w.cell? ⟨b1, off1 + k, none⟩ = some (.slice a1 (Q[k]'(by omega)).length c1) ∧ NsAt w.cell? a1 (Q[k]'(by omega)) := by
          rcases HB.out with h0 | ⟨b0, off0, e, h⟩
          · rw [h0] at hm; simp at hm; omega
          · exact ⟨b0, off0, e, h k (by omega)⟩
        subst e0 e1
        have hL := hid7 fun t => lints_any a0 a1 c0 c1 _ _ (R[k]'(by omega)) (Q[k]'(by omega)) rfl rfl (w.drewN t).drew n0 n1 (by have := bR _ (List.getElem_mem (l := R) (n := k) (by omega)); omega) (by have := bQ _ (List.getElem_mem (l := Q) (n := k) (by omega)); omega)
        have HNo : Hid (R[k]'(by omega) ≠ Q[k]'(by omega) → decide (R = Q) = false) := hid7 (list_ne (by omega) (by omega))
        have HT : Hid (R[k]'(by omega) = Q[k]'(by omega) → ∀ j (h1 : j < R.length) (h2 : j < Q.length), j < k + 1 → R[j] = Q[j]) := hid7 fun h j h1 h2 hjk => by
          rcases Nat.lt_or_ge j k with h3 | h3
          · exact hr.out j h1 h2 h3
          · obtain rfl : j = k := by omega
            exact h
        generalize R[k]'(by omega) = x at q0 hL HNo HT
        generalize Q[k]'(by omega) = y at q1 hL HNo HT
        clear n0 n1 HA HB hr
        have hdd : ∀ k', (w.drewN t).drew.drewN k' = w.drewN (t + (1 + k')) := fun k' => by
          rw [← World.drewN_drewN, ← World.drewN_drewN]
          rfl
        by_cases hxy : x = y
        · skip
          have hL2 : Hid (Calls Try.prog 17 #[.slice a0 x.length c0, .slice a1 y.length c1] (w.drewN t).drew fun e w' => e = .returned (.bool true) ∧ ∃ k', w' = w.drewN k') := hid7 ((hL.out t).mono fun e w' ⟨h1, k', h2⟩ => ⟨by rw [h1, decide_eq_true hxy], _, h2.trans (hdd k')⟩)
          have HT2 := hid7 (HT.out hxy)
          clear hL HT HNo hxy hdd
          generalize x.length = xl at q0 hL2
          generalize y.length = yl at q1 hL2
          go_wp2_with fail
          go_region_with (first | (go_at_call 17; refine hL2.out.mono ?_; clear hL2; rintro e w5 ⟨rfl, k5, w5e⟩; rw [w5e]; clear w5e) | fail)
          all_goals
            go_wp2
            exact ⟨⟨k + 1, _, by omega, by go_num, HT2, rfl⟩, by simp [intOf]; omega⟩
        · skip
          have hL2 : Hid (Calls Try.prog 17 #[.slice a0 x.length c0, .slice a1 y.length c1] (w.drewN t).drew fun e w' => e = .returned (.bool false) ∧ ∃ k', w' = w.drewN k') := hid7 ((hL.out t).mono fun e w' ⟨h1, k', h2⟩ => ⟨by rw [h1, decide_eq_false hxy], _, h2.trans (hdd k')⟩)
          have HN2 := hid7 (HNo.out hxy)
          clear hL HT HNo hxy hdd
          generalize x.length = xl at q0 hL2
          generalize y.length = yl at q1 hL2
          go_wp2_with fail
          go_region_with (first | (go_at_call 17; refine hL2.out.mono ?_; clear hL2; rintro e w5 ⟨rfl, k5, w5e⟩; rw [w5e]; clear w5e) | fail)
          all_goals
            go_wp2
            go_ret
            exact ⟨by rw [HN2.out]; rfl, _, rfl⟩
      · have HE : Hid (decide (R = Q) = true) := hid7 (decide_eq_true (List.ext_getElem (by omega) fun j h1 h2 => hr.out j h1 h2 (by omega)))
        clear HA HB hr
        go_wp2
        go_ret
        exact ⟨by rw [HE.out]; rfl, t, rfl⟩
  · have hne : ((n : Int) != (m : Int)) = true := by simp; omega
    have hd : decide (R = Q) = false := decide_eq_false fun h => hnm (by rw [← hn, ← hm, h])
    clear ha hb
    go_enter Try.func11, Try.ntmps11
    go_wp2
    go_ret
    exact ⟨by rw [hd]; rfl, 0, rfl⟩
end Go.Proofs.Ytnidakplcaanfaa
namespace Go.Proofs.Ytnidakplcaanfaa
open Go.RowKit Go.Shelf
def sqS : Scr := ⟨[], [⟨[1], [1], [], [(9, 0), (6, 0), (13, 0)]⟩]⟩
theorem sq_check : checkS sqS 0 = (0, [[], [1], [1, 1], [1]]) := by decide
theorem sq_all : allS sqS = (0, [2]) := by decide
theorem sq_fits : sqS.fits := by
  refine ⟨by decide, by decide, fun f hf => ?_, fun x hx => by cases hx⟩
  rw [sqS, List.mem_singleton] at hf
  subst hf
  exact ⟨by decide, by decide, by decide, by decide⟩
/-- Five blocks in a row. -/
theorem five_new (w : World) (o0 o1 o2 o3 o4 : Obj) : ∃ W, W = ((((w.alloc o0).alloc o1).alloc o2).alloc o3).alloc o4 ∧ W.heap[w.heap.size]? = (w.alloc o0).heap[w.heap.size]? ∧ W.heap[w.heap.size + 1]? = ((w.alloc o0).alloc o1).heap[(w.alloc o0).heap.size]? ∧ W.heap[w.heap.size + 1 + 1]? = (((w.alloc o0).alloc o1).alloc o2).heap[((w.alloc o0).alloc o1).heap.size]? ∧ W.heap[w.heap.size + 1 + 1 + 1]? = ((((w.alloc o0).alloc o1).alloc o2).alloc o3).heap[(((w.alloc o0).alloc o1).alloc o2).heap.size]? ∧ W.heap[w.heap.size + 1 + 1 + 1 + 1]? = (((((w.alloc o0).alloc o1).alloc o2).alloc o3).alloc o4).heap[((((w.alloc o0).alloc o1).alloc o2).alloc o3).heap.size]? ∧ Below w.heap.size w W := by
  have s1 := World.size_alloc w o0
  have s2 := World.size_alloc (w.alloc o0) o1
  have s3 := World.size_alloc ((w.alloc o0).alloc o1) o2
  have s4 := World.size_alloc (((w.alloc o0).alloc o1).alloc o2) o3
  refine ⟨_, rfl, ?_, ?_, ?_, ?_, ?_, ?_⟩
  · rw [Below.heap_alloc _ _ _ (by omega), Below.heap_alloc _ _ _ (by omega), Below.heap_alloc _ _ _ (by omega), Below.heap_alloc _ _ _ (by omega)]
  · rw [s1, Below.heap_alloc _ _ _ (by omega), Below.heap_alloc _ _ _ (by omega), Below.heap_alloc _ _ _ (by omega)]
  · rw [s2, s1, Below.heap_alloc _ _ _ (by omega), Below.heap_alloc _ _ _ (by omega)]
  · rw [s3, s2, s1, Below.heap_alloc _ _ _ (by omega)]
  · rw [s4, s3, s2, s1]
  · exact (((((Below.refl _ w).alloc (Nat.le_refl _) _).alloc (by omega) _).alloc (by omega) _).alloc (by omega) _).alloc (by omega) _
set_option maxRecDepth 100000 in
set_option maxHeartbeats 1000000 in
theorem square_any (w : World) : Calls Try.prog 30 #[] w fun e w' => ∃ v0 v1, e = .returned (.agg #[v0, v1]) ∧ Hid (ScIs w'.cell? sqS v0 v1 ∧ Below w.heap.size w w') := by
  obtain ⟨W, hW, e0, e1, e2, e3, e4, hB⟩ := five_new w (.cells #[.slice none 0 0, .slice (some ⟨w.heap.size + 1 + 1 + 1 + 1, 0, none⟩) 1 1] 25) (.cells #[.int .i64 1] 3) (.cells #[.int .i64 1] 3) (.cells #[.int .i64 9, .int .i64 0, .int .i64 6, .int .i64 0, .int .i64 13, .int .i64 0] 53) (.cells #[.slice (some ⟨w.heap.size + 1, 0, none⟩) 1 1, .slice (some ⟨w.heap.size + 1 + 1, 0, none⟩) 1 1, .slice none 0 0, .slice (some ⟨w.heap.size + 1 + 1 + 1, 0, none⟩) 3 3] 50)
  rw [heap_alloc_new] at e0 e1 e2 e3 e4
  have hs : ScIs W.cell? sqS (.slice none 0 0) (.slice (some ⟨w.heap.size + 1 + 1 + 1 + 1, 0, none⟩) 1 1) := by
    refine ⟨⟨none, 0, rfl, .inl rfl⟩, ⟨_, 1, rfl, .inr ⟨_, 0, rfl, fun j hj => ?_⟩⟩⟩
    have hj0 : j = 0 := by simp [sqS] at hj; omega
    subst hj0
    refine ⟨_, _, _, _, Lib.cell_of_heap e4 _, Lib.cell_of_heap e4 _, Lib.cell_of_heap e4 _, Lib.cell_of_heap e4 _, ⟨_, 1, rfl, .inr ⟨_, 0, rfl, fun i hi => ?_⟩⟩, ⟨_, 1, rfl, .inr ⟨_, 0, rfl, fun i hi => ?_⟩⟩, ⟨none, 0, rfl, .inl rfl⟩, ⟨_, 3, rfl, .inr ⟨_, 0, rfl, fun i hi => ?_⟩⟩⟩
    · have hi0 : i = 0 := by simp [sqS] at hi; omega
      subst hi0
      rw [Lib.cell_of_heap e1]; rfl
    · have hi0 : i = 0 := by simp [sqS] at hi; omega
      subst hi0
      rw [Lib.cell_of_heap e2]; rfl
    · have hi3 : i = 0 ∨ i = 1 ∨ i = 2 := by simp [sqS] at hi; omega
      rcases hi3 with rfl | rfl | rfl
      · rw [Lib.cell_of_heap e3, Lib.cell_of_heap e3]; exact ⟨rfl, rfl⟩
      · rw [Lib.cell_of_heap e3, Lib.cell_of_heap e3]; exact ⟨rfl, rfl⟩
      · rw [Lib.cell_of_heap e3, Lib.cell_of_heap e3]; exact ⟨rfl, rfl⟩
  have HW := hid7 (And.intro hs hB)
  have HV := hid7 hW
  have H0 := hid7 e0
  clear hs hB hW e0 e1 e2 e3 e4
  go_enter Try.func30, Try.ntmps30
  go_wp2
  rw [← HV.out]
  exact ret_scr rfl rfl rfl (Lib.cell_of_heap H0.out 0) (Lib.cell_of_heap H0.out 1) ⟨_, _, rfl, hid7 HW.out⟩
/-- Four blocks in a row. -/
theorem four_new (w : World) (o0 o1 o2 o3 : Obj) : ∃ W, W = (((w.alloc o0).alloc o1).alloc o2).alloc o3 ∧ W.heap[w.heap.size]? = (w.alloc o0).heap[w.heap.size]? ∧ W.heap[w.heap.size + 1]? = ((w.alloc o0).alloc o1).heap[(w.alloc o0).heap.size]? ∧ W.heap[w.heap.size + 1 + 1]? = (((w.alloc o0).alloc o1).alloc o2).heap[((w.alloc o0).alloc o1).heap.size]? ∧ W.heap[w.heap.size + 1 + 1 + 1]? = ((((w.alloc o0).alloc o1).alloc o2).alloc o3).heap[(((w.alloc o0).alloc o1).alloc o2).heap.size]? ∧ Below w.heap.size w W := by
  have s1 := World.size_alloc w o0
  have s2 := World.size_alloc (w.alloc o0) o1
  have s3 := World.size_alloc ((w.alloc o0).alloc o1) o2
  refine ⟨_, rfl, ?_, ?_, ?_, ?_, ?_⟩
  · rw [Below.heap_alloc _ _ _ (by omega), Below.heap_alloc _ _ _ (by omega), Below.heap_alloc _ _ _ (by omega)]
  · rw [s1, Below.heap_alloc _ _ _ (by omega), Below.heap_alloc _ _ _ (by omega)]
  · rw [s2, s1, Below.heap_alloc _ _ _ (by omega)]
  · rw [s3, s2, s1]
  · exact ((((Below.refl _ w).alloc (Nat.le_refl _) _).alloc (by omega) _).alloc (by omega) _).alloc (by omega) _
theorem SlAt.below {B : Nat} {W W' : World} {a : Option Addr} {R : List (List Int)} (h : SlAt B W a R) (hb : Below W.heap.size W W') : SlAt B W' a R := by
  rcases h with h | ⟨b, e, h⟩
  · exact .inl h
  · refine .inr ⟨b, e, fun j hj => ?_⟩
    obtain ⟨aj, cj, h1, h2⟩ := h j hj
    exact ⟨aj, cj, (hb.cell (World.block_lt_of_cell? W _ h1)).trans h1, h2.1.below hb, h2.2⟩
def sqR : List (List Int) := [[], [1], [1, 1], [1]]
set_option maxRecDepth 100000 in
theorem stacks_lit (W : World) (a : Option Addr) (c : Nat) {B : Nat} (h : SlAt B W a sqR) :
    Calls Try.prog 11 #[.slice a 4 c, .slice (some ⟨W.heap.size + 1 + 1 + 1, 0, none⟩) 4 4] ((((W.alloc (.cells #[.int .i64 1] 3)).alloc (.cells #[.int .i64 1, .int .i64 1] 3)).alloc (.cells #[.int .i64 1] 3)).alloc (.cells #[.slice none 0 0, .slice (some ⟨W.heap.size, 0, none⟩) 1 1, .slice (some ⟨W.heap.size + 1, 0, none⟩) 2 2, .slice (some ⟨W.heap.size + 1 + 1, 0, none⟩) 1 1] 35)) fun e w' => e = .returned (.bool true) ∧ Below W.heap.size W w' := by
  obtain ⟨V, hV, e0, e1, e2, e3, hB⟩ := four_new W (.cells #[.int .i64 1] 3) (.cells #[.int .i64 1, .int .i64 1] 3) (.cells #[.int .i64 1] 3) (.cells #[.slice none 0 0, .slice (some ⟨W.heap.size, 0, none⟩) 1 1, .slice (some ⟨W.heap.size + 1, 0, none⟩) 2 2, .slice (some ⟨W.heap.size + 1 + 1, 0, none⟩) 1 1] 35)
  rw [heap_alloc_new] at e0 e1 e2 e3
  rw [← hV]
  have hlit : RsAt V.cell? (some ⟨W.heap.size + 1 + 1 + 1, 0, none⟩) sqR := by
    refine .inr ⟨_, 0, rfl, fun j hj => ?_⟩
    have hj4 : j = 0 ∨ j = 1 ∨ j = 2 ∨ j = 3 := by simp [sqR] at hj; omega
    rcases hj4 with rfl | rfl | rfl | rfl
    · exact ⟨none, 0, by rw [Lib.cell_of_heap e3]; rfl, .inl rfl⟩
    · refine ⟨_, 1, by rw [Lib.cell_of_heap e3]; rfl, .inr ⟨_, 0, rfl, fun i hi => ?_⟩⟩
      have hi0 : i = 0 := by simp [sqR] at hi; omega
      subst hi0
      rw [Lib.cell_of_heap e0]; rfl
    · refine ⟨_, 2, by rw [Lib.cell_of_heap e3]; rfl, .inr ⟨_, 0, rfl, fun i hi => ?_⟩⟩
      have hi0 : i = 0 ∨ i = 1 := by simp [sqR] at hi; omega
      rcases hi0 with rfl | rfl
      · rw [Lib.cell_of_heap e1]; rfl
      · rw [Lib.cell_of_heap e1]; rfl
    · refine ⟨_, 1, by rw [Lib.cell_of_heap e3]; rfl, .inr ⟨_, 0, rfl, fun i hi => ?_⟩⟩
      have hi0 : i = 0 := by simp [sqR] at hi; omega
      subst hi0
      rw [Lib.cell_of_heap e2]; rfl
  have hb : ∀ r ∈ sqR, r.length ≤ 100000 := by decide
  refine (lstacks_any sqR sqR a _ c 4 4 4 rfl rfl (by omega) (by omega) hb hb V (h.rs.keep fun x v hh => (hB.cell (World.block_lt_of_cell? W x hh)).trans hh) hlit).mono fun e w' ⟨h1, k, h2⟩ => ?_
  rw [h2]
  exact ⟨by rw [h1]; simp, below_draws2 hB k⟩
theorem ints_lit (W : World) (a : Option Addr) (c : Nat) (h : NsAt W.cell? a [2]) :
    Calls Try.prog 17 #[.slice a 1 c, .slice (some ⟨W.heap.size, 0, none⟩) 1 1] (W.alloc (.cells #[.int .i64 2] 3)) fun e w' => e = .returned (.bool true) ∧ Below W.heap.size W w' := by
  have b1 := (Below.refl _ W).alloc (Nat.le_refl _) (.cells #[.int .i64 2] 3)
  refine (lints_any a _ c 1 1 1 [2] [2] rfl rfl _ (h.keep fun x v hh => (b1.cell (World.block_lt_of_cell? W x hh)).trans hh) (ns_one_new W 2) (by omega) (by omega)).mono fun e w' ⟨h1, k, h2⟩ => ?_
  rw [h2]
  exact ⟨by rw [h1]; simp, below_draws2 b1 k⟩
set_option maxRecDepth 100000 in
set_option maxHeartbeats 1000000 in
theorem knows7_any (w : World) : Calls Try.prog 14 #[] w fun e w' => e = .returned (.bool true) ∧ Below w.heap.size w w' := by
  have hC : ∀ W v0 v1, ScIs W.cell? sqS v0 v1 → Calls Try.prog 9 #[.agg #[v0, v1], .int .i64 0] W fun e w' => ∃ a c, e = .returned (.tuple #[.slice a 4 c, .int .i64 0]) ∧ Hid (SlAt W.heap.size w' a sqR) ∧ Hid (Below W.heap.size W w') := fun W v0 v1 h => (check7_any sqS v0 v1 0 W h sq_fits).mono fun e w' ⟨a, c, h1, h2, h3⟩ => by
    rw [sq_check] at h1 h2
    exact ⟨a, c, h1, hid7 h2, hid7 h3⟩
  have hA : ∀ W v0 v1, ScIs W.cell? sqS v0 v1 → Calls Try.prog 15 #[.agg #[v0, v1]] W fun e w' => ∃ a c, e = .returned (.tuple #[.slice a 1 c, .int .i64 0]) ∧ Hid (NsAt w'.cell? a [2]) ∧ Hid (Below W.heap.size W w') := fun W v0 v1 h => (all7_any sqS v0 v1 W h sq_fits).mono fun e w' ⟨a, c, h1, h2, h3⟩ => by
    rw [sq_all] at h1 h2
    exact ⟨a, c, h1, hid7 h2, hid7 h3⟩
  have HC := hid7 hC
  have HA := hid7 hA
  have HQ := hid7 fun W => square_any W
  clear hC hA
  have HQ1 := hid7 (HQ.out w)
  go_enter Try.func14, Try.ntmps14
  go_wp2_with (first
    | (go_at_call 30; first
      | (refine HQ1.out.mono ?_; clear HQ1; rintro e w1 ⟨v0, v1, rfl, K1⟩; have X1 := hid7 (HC.out w1 v0 v1 K1.out.1); clear HC)
      | (refine HQ2.out.mono ?_; clear HQ2; rintro e w3 ⟨u0, u1, rfl, K3⟩; have X3 := hid7 (HA.out w3 u0 u1 K3.out.1); clear HA))
    | (go_at_call 9; refine X1.out.mono ?_; clear X1; rintro e w2 ⟨a2, c2, rfl, S2, B2⟩; have HQ2 := hid7 (HQ.out w2); clear HQ)
    | (go_at_call 15; refine X3.out.mono ?_; clear X3; rintro e w4 ⟨a4, c4, rfl, S4, B4⟩; have BB := hid7 ((B2.out.trans (K3.out.2.mono B2.out.size)).trans (B4.out.mono (Nat.le_trans B2.out.size K3.out.2.size))); have XS := hid7 (stacks_lit w4 a2 c2 ((S2.out.below K3.out.2).below B4.out)))
    | (go_at_call 12; refine (num7_any _ _).mono ?_; rintro e w9 ⟨rfl, w9e⟩; rw [w9e]; clear w9e)
    | (go_at_call 11; refine XS.out.mono ?_; clear XS; rintro e w5 ⟨rfl, b5⟩; have B5 := hid7 b5; have XI := hid7 (ints_lit w5 a4 c4 (S4.out.keep fun x v hh => (b5.cell (World.block_lt_of_cell? w4 x hh)).trans hh)); clear b5)
    | (go_at_call 17; refine XI.out.mono ?_; clear XI; rintro e w6 ⟨rfl, b6⟩)
    | fail)
  go_ret
  have q1 := K1.out.2.trans (BB.out.mono K1.out.2.size)
  have q2 := q1.trans (B5.out.mono q1.size)
  exact ⟨rfl, q2.trans (b6.mono q2.size)⟩
end Go.Proofs.Ytnidakplcaanfaa
