/- The law CallsReach. -/
import Derived.Test.YtikomfbpaimnmaaXW
namespace Go.Proofs.Ytikomfbpaimnmaa
open Go.RowKit
theorem way8 (k : Int) (n : Nat) (h1 : 1 ≤ n) (h2 : n ≤ 1048576) : ∃ j : Nat, (wrap64 (k.tmod (n : Int) + (n : Int))).tmod (n : Int) = j ∧ j < n := by
  have ha : (k.tmod (n : Int)).natAbs = k.natAbs % n := by rw [Int.natAbs_tmod]; simp
  have hb : k.natAbs % n < n := Nat.mod_lt _ (by omega)
  generalize k.tmod (n : Int) = x at *
  have e : wrap64 (x + (n : Int)) = x + (n : Int) := by unfold wrap64; omega
  rw [e, Int.tmod_eq_emod_of_nonneg (by omega)]
  refine ⟨((x + (n : Int)) % (n : Int)).toNat, ?_, ?_⟩
  · have := Int.emod_nonneg (x + (n : Int)) (show (n : Int) ≠ 0 by omega); omega
  · have := Int.emod_lt_of_pos (x + (n : Int)) (show (0 : Int) < n by omega); omega
set_option maxRecDepth 100000 in
set_option maxHeartbeats 2000000 in
theorem reach8_err (s : Scr) (V0 V1 : Value) (f : Int) (w : World) (hs : ScIs w.cell? s V0 V1) (hsf : s.fits) (hr : ¬ s.right = true) :
    Calls Try.prog 7 #[.agg #[V0, V1], .int .i64 f] w fun e w' => e = .returned (.bool true) ∧ Below w.heap.size w w' := by
  obtain ⟨⟨a0, c0, rfl, n0⟩, ⟨a1, c1, rfl, n1⟩⟩ := hs
  have hs : ScIs w.cell? s (.slice a0 s.consts.length c0) (.slice a1 s.funcs.length c1) := ⟨⟨a0, c0, rfl, n0⟩, ⟨a1, c1, rfl, n1⟩⟩
  have b1 := (Below.refl _ w).alloc (Nat.le_refl _) (.cells #[.slice a0 s.consts.length c0, .slice a1 s.funcs.length c1] 25)
  have e0 := heap_alloc_new w (.cells #[.slice a0 s.consts.length c0, .slice a1 s.funcs.length c1] 25)
  have HC : Hid (Calls Try.prog 8 #[.agg #[.slice a0 s.consts.length c0, .slice a1 s.funcs.length c1]] (w.alloc (.cells #[.slice a0 s.consts.length c0, .slice a1 s.funcs.length c1] 25)) fun e w2 => ∃ b0 d0 b1 d1, e = .returned (.agg #[.slice b0 s.consts.length d0, .slice b1 s.funcs.length d1]) ∧
      Hid (Calls Try.prog 9 #[.agg #[.slice b0 s.consts.length d0, .slice b1 s.funcs.length d1]] w2 fun e w3 => e = .returned (.tuple #[.slice none 0 0, .int .i64 30]) ∧ (w3.cell? ⟨w.heap.size, 0, none⟩ = some (.slice a0 s.consts.length c0) ∧ w3.cell? ⟨w.heap.size, 1, none⟩ = some (.slice a1 s.funcs.length c1)) ∧ Hid (Below w.heap.size w w3))) := hid7 ((clone_at hs hsf _ b1).mono fun e w2 ⟨b0, d0, b1', d1, h1, h2⟩ => ⟨b0, d0, b1', d1, h1, hid7 ((graph_any s _ _ _ h2.out.1 hsf).mono fun e w3 ⟨h3, h4⟩ => by
    rw [if_neg hr] at h3
    have bb := h2.out.2.trans (h4.mono h2.out.2.size)
    have e3 := (bb.block _ (heap_lt e0)).trans e0
    exact ⟨h3, ⟨Lib.cell_of_heap e3 0, Lib.cell_of_heap e3 1⟩, hid7 (b1.trans (bb.mono b1.size))⟩)⟩)
  have HC2 : Hid (∀ W, Below w.heap.size w W → Calls Try.prog 8 #[.agg #[.slice a0 s.consts.length c0, .slice a1 s.funcs.length c1]] W fun e w2 => ∃ b0 d0 b1 d1, e = .returned (.agg #[.slice b0 s.consts.length d0, .slice b1 s.funcs.length d1]) ∧
      Hid (Calls Try.prog 14 #[.agg #[.slice b0 s.consts.length d0, .slice b1 s.funcs.length d1], .int .i64 f] w2 fun e w3 => ∃ ra rc, e = .returned (.slice ra 0 rc) ∧ Hid (Below w.heap.size w w3))) := hid7 fun W hW => (clone_at hs hsf _ hW).mono fun e w2 ⟨b0, d0, b1', d1, h1, h2⟩ => ⟨b0, d0, b1', d1, h1, hid7 ((reach_any s _ _ f _ h2.out.1 hsf).mono fun e w3 ⟨ra, rc, h3, h4, h5⟩ => by
    rw [reachS, if_neg (fun h => hr h.1)] at h3
    exact ⟨ra, rc, h3, hid7 ((hW.trans (h2.out.2.mono hW.size)).trans (h5.mono (Nat.le_trans hW.size h2.out.2.size)))⟩)⟩
  clear hs n0 n1 hsf hr b1 e0
  generalize s.funcs.length = fl at HC HC2 ⊢
  generalize s.consts.length = cl at HC HC2 ⊢
  go_enter Try.func7, Try.ntmps7
  go_wp2_with (first
    | (go_at_call 8; refine HC.out.mono ?_; clear HC; rintro e w2 ⟨b0, d0, b1, d1, rfl, H2⟩)
    | (go_at_call 9; refine H2.out.mono ?_; clear H2; rintro e w3 ⟨rfl, ⟨s0, s1⟩, B3⟩; have HC3 := hid7 (HC2.out w3 B3.out); clear HC2)
    | (go_at_call 12; refine (num8_any _ _).mono ?_; rintro e w10 ⟨rfl, w10e⟩; rw [w10e]; clear w10e)
    | (go_at_call 8; refine HC3.out.mono ?_; clear HC3; rintro e w4 ⟨b2, d2, b3, d3, rfl, H4⟩)
    | (go_at_call 14; refine H4.out.mono ?_; clear H4; rintro e w5 ⟨ra, rc, rfl, B5⟩)
    | (go_at_call 17; refine (knows8_any _).mono ?_; rintro e w11 ⟨rfl, b11⟩)
    | fail)
  go_ret
  exact ⟨rfl, B5.out.trans (b11.mono B5.out.size)⟩
/-- What a function's first k callees reach, and itself. -/
def SK (n : Nat) (g : Nat → List Nat) (j k : Nat) : Nat → Bool := fun x => x == j || ((g j).take k).any fun c => reachN n g c n x
def SKi (S : Nat → Bool) (L : List Nat) (i : Nat) : Nat → Bool := fun x => S x || (L.take i).contains x
theorem SK_zero (n : Nat) (g : Nat → List Nat) (j : Nat) : bput (fun _ => false) j = SK n g j 0 := by funext x; simp [bput, SK]
theorem SKi_zero (S : Nat → Bool) (L : List Nat) : SKi S L 0 = S := by funext x; simp [SKi]
theorem SKi_succ {S : Nat → Bool} {L : List Nat} {i : Nat} (h : i < L.length) : bput (SKi S L i) L[i] = SKi S L (i + 1) := by
  funext x
  simp only [bput, SKi, List.take_succ_eq_append_getElem h]
  rw [Bool.eq_iff_iff]
  simp only [Bool.or_eq_true, beq_iff_eq, List.contains_iff_mem, List.mem_append, List.mem_singleton]
  constructor
  · rintro (h | h | h)
    · exact .inr (.inr h)
    · exact .inl h
    · exact .inr (.inl h)
  · rintro (h | h | h)
    · exact .inr (.inl h)
    · exact .inr (.inr h)
    · exact .inl h
theorem SK_succ {n : Nat} {g : Nat → List Nat} {j k : Nat} (h : k < (g j).length) (x : Nat) (hx : x < n) : SKi (SK n g j k) ((List.range n).filter (reachN n g (g j)[k] n)) ((List.range n).filter (reachN n g (g j)[k] n)).length x = SK n g j (k + 1) x := by
  simp only [SKi, SK, List.take_length, List.take_succ_eq_append_getElem h, List.any_append]
  rw [Bool.eq_iff_iff]
  simp [hx, or_assoc]
theorem MapB.congr {w : World} {b n : Nat} {S S' : Nat → Bool} (h : MapB w b n S) (hs : ∀ x, S x = S' x) : MapB w b n S' := by
  have : S = S' := funext hs
  rw [← this]; exact h
theorem SK_low {n : Nat} {g : Nat → List Nat} {j : Nat} (hI : Inn n g) (hj : j < n) (k x : Nat) (hx : ¬ x < n) : SK n g j k x = false := by
  have h1 : x ≠ j := by omega
  simp only [SK, Bool.or_eq_false_iff, beq_eq_false_iff_ne]
  refine ⟨h1, List.any_eq_false.2 fun c hc => ?_⟩
  intro h
  exact hx ((reach_sound n x h).lt hI (hI j hj c (List.mem_of_mem_take hc)))
theorem SKi_low {n : Nat} {S : Nat → Bool} {p : Nat → Bool} (hS : ∀ x, ¬ x < n → S x = false) (i x : Nat) (hx : ¬ x < n) : SKi S ((List.range n).filter p) i x = false := by
  simp only [SKi, Bool.or_eq_false_iff]
  refine ⟨hS x hx, ?_⟩
  rw [← Bool.not_eq_true, List.contains_iff_mem]
  intro h
  have := (List.mem_filter.1 (List.mem_of_mem_take h)).1
  simp at this
  omega
theorem SK_all {n : Nat} {g : Nat → List Nat} {j : Nat} (hI : Inn n g) (hj : j < n) (x : Nat) : SK n g j (g j).length x = reachN n g j n x := by
  rw [Bool.eq_iff_iff, reach_iff hI hj]
  simp only [SK, List.take_length, Bool.or_eq_true, beq_iff_eq, List.any_eq_true]
  constructor
  · rintro (h | ⟨c, hc, h⟩)
    · subst h; exact .refl _
    · exact .step hc ((reach_iff hI (hI j hj c hc) x).1 h)
  · intro h
    cases h with
    | refl => exact .inl rfl
    | step h1 h2 => exact .inr ⟨_, h1, (reach_iff hI (hI j hj _ h1) x).2 h2⟩
set_option maxRecDepth 100000 in
set_option maxHeartbeats 2000000 in
theorem reach8_ok (s : Scr) (V0 V1 : Value) (f : Int) (w : World) (hs : ScIs w.cell? s V0 V1) (hsf : s.fits) (hr : s.right = true) :
    Calls Try.prog 7 #[.agg #[V0, V1], .int .i64 f] w fun e w' => e = .returned (.bool true) ∧ Below w.heap.size w w' := by
  obtain ⟨⟨a0, c0, rfl, n0⟩, ⟨a1, c1, rfl, n1⟩⟩ := hs
  have hs : ScIs w.cell? s (.slice a0 s.consts.length c0) (.slice a1 s.funcs.length c1) := ⟨⟨a0, c0, rfl, n0⟩, ⟨a1, c1, rfl, n1⟩⟩
  obtain ⟨r1, r2, r3⟩ := right_calls hr
  obtain ⟨i1, i2, i3, i4⟩ := graph_inn s
  have b1 := (Below.refl _ w).alloc (Nat.le_refl _) (.cells #[.slice a0 s.consts.length c0, .slice a1 s.funcs.length c1] 25)
  have e0 := heap_alloc_new w (.cells #[.slice a0 s.consts.length c0, .slice a1 s.funcs.length c1] 25)
  have HC : Hid (Calls Try.prog 8 #[.agg #[.slice a0 s.consts.length c0, .slice a1 s.funcs.length c1]] (w.alloc (.cells #[.slice a0 s.consts.length c0, .slice a1 s.funcs.length c1] 25)) fun e w2 => ∃ b0 d0 b1 d1, e = .returned (.agg #[.slice b0 s.consts.length d0, .slice b1 s.funcs.length d1]) ∧
      Hid (Calls Try.prog 9 #[.agg #[.slice b0 s.consts.length d0, .slice b1 s.funcs.length d1]] w2 fun e w3 => ∃ ga gc, e = .returned (.tuple #[.slice ga s.funcs.length gc, .int .i64 0]) ∧ w3.cell? ⟨w.heap.size, 0, none⟩ = some (.slice a0 s.consts.length c0) ∧ w3.cell? ⟨w.heap.size, 1, none⟩ = some (.slice a1 s.funcs.length c1) ∧ Hid (RsAt w3.cell? ga (rowsI (graphS s)) ∧ Below w.heap.size w w3))) := hid7 ((clone_at hs hsf _ b1).mono fun e w2 ⟨b0, d0, b1', d1, h1, h2⟩ => ⟨b0, d0, b1', d1, h1, hid7 ((graph_any s _ _ _ h2.out.1 hsf).mono fun e w3 ⟨h3, h4⟩ => by
    rw [if_pos hr] at h3
    obtain ⟨ga, gc, h5, h6⟩ := h3
    have bb := h2.out.2.trans (h4.mono h2.out.2.size)
    have e3 := (bb.block _ (heap_lt e0)).trans e0
    exact ⟨ga, gc, h5, Lib.cell_of_heap e3 0, Lib.cell_of_heap e3 1, hid7 ⟨h6, b1.trans (bb.mono b1.size)⟩⟩)⟩)
  have HC2 : Hid (∀ W c, Below w.heap.size w W → c < s.funcs.length → Calls Try.prog 8 #[.agg #[.slice a0 s.consts.length c0, .slice a1 s.funcs.length c1]] W fun e w2 => ∃ b0 d0 b1 d1, e = .returned (.agg #[.slice b0 s.consts.length d0, .slice b1 s.funcs.length d1]) ∧ Hid (Below W.heap.size W w2) ∧
      Hid (Calls Try.prog 14 #[.agg #[.slice b0 s.consts.length d0, .slice b1 s.funcs.length d1], .int .i64 (c : Nat)] w2 fun e w3 => ∃ ra rc, e = .returned (.slice ra ((List.range s.funcs.length).filter (reachN s.funcs.length (gF s) c s.funcs.length)).length rc) ∧ Hid (NsAt w3.cell? ra (rowI ((List.range s.funcs.length).filter (reachN s.funcs.length (gF s) c s.funcs.length))) ∧ Below W.heap.size W w3))) := hid7 fun W c hW hc => (clone_at hs hsf _ hW).mono fun e w2 ⟨b0, d0, b1', d1, h1, h2⟩ => ⟨b0, d0, b1', d1, h1, hid7 h2.out.2, hid7 ((reach_any s _ _ c _ h2.out.1 hsf).mono fun e w3 ⟨ra, rc, h3, h4, h5⟩ => by
    have hR : reachS s c = (List.range s.funcs.length).filter (reachN s.funcs.length (gF s) c s.funcs.length) := by rw [reachS, if_pos ⟨hr, by omega, by omega⟩, Int.toNat_natCast]
    rw [hR] at h3 h4
    exact ⟨ra, rc, h3, hid7 ⟨h4, h2.out.2.trans (h5.mono h2.out.2.size)⟩⟩)⟩
  have HI := hid7 (And.intro i1 (And.intro i3 i4))
  obtain ⟨G, hGe⟩ : ∃ G, G = graphS s := ⟨_, rfl⟩
  obtain ⟨n, hfe⟩ : ∃ fl, fl = s.funcs.length := ⟨_, rfl⟩
  unfold gF at HI HC2
  rw [← hfe, ← hGe] at HC HI HC2
  rw [← hfe] at r1 r2 ⊢
  generalize s.consts.length = cl at HC HC2 ⊢
  obtain ⟨j, hj1, hj2⟩ := way8 f n r2 (by omega)
  have hmk : ∀ W : World, (Instr.makeMap 46 none).run Try.prog W = .ok (.map (some W.heap.size)) (W.alloc (.map #[] 0)) := fun W => by kernel_rfl
  have HPut : Hid (∀ W : World, ∃ W2, (Instr.mapUpdate 46 (.map (some W.heap.size)) (.int .i64 (j : Nat)) (.bool true)).run Try.prog (W.alloc (.map #[] 0)) = .ok () W2 ∧ Hid (MapB W2 W.heap.size n (SK n (gOf G) j 0) ∧ Below W.heap.size W W2)) := hid7 fun W => by
    obtain ⟨W2, h1, h2, h3, h4⟩ := (MapB.new W n (by omega)).put j hj2
    refine ⟨W2, h1, hid7 ⟨by rw [← SK_zero]; exact h2, ?_⟩⟩
    have bA := (Below.refl _ W).alloc (Nat.le_refl _) (.map #[] 0)
    exact bA.grown h3 (by simp) (fun k hk => by cases hk; exact Nat.le_refl _)
  clear hs n0 n1 hsf hr b1 e0 i1 i2 i3 i4 hGe hfe r3
  go_enter Try.func7, Try.ntmps7
  go_wp2_with (first
    | (go_at_call 8; refine HC.out.mono ?_; clear HC; rintro e w2 ⟨b0, d0, b1, d1, rfl, H2⟩)
    | (go_at_call 9; refine H2.out.mono ?_; clear H2; rintro e w3 ⟨ga, gc, rfl, s0, s1, K3⟩; obtain ⟨w4, hu4, K4⟩ := HPut.out w3; clear HPut)
    | (go_at_call 12; refine (num8_any _ _).mono ?_; rintro e w10 ⟨rfl, w10e⟩; rw [w10e]; clear w10e)
    | fail)
  have hn0 : ((n : Int) == 0) = false := by simp; omega
  try rw [hn0]
  generalize wrap64 (f.tmod (n : Int) + (n : Int)) = t2 at *
  generalize f.tmod (n : Int) = t1 at *
  have hGl := HI.out.2.2
  have HRow : Hid (∀ W, Below w3.heap.size w3 W → ∃ gb go aj cj, ga = some ⟨gb, go, none⟩ ∧ W.cell? ⟨gb, go + j, none⟩ = some (.slice aj (gOf G j).length cj) ∧ NsAt (lowC w3.heap.size W) aj (rowI (gOf G j)) ∧ (gOf G j).length ≤ 16) := hid7 fun W hW => by
    obtain ⟨gb, go, aj, cj, h1, h2, h3, h4⟩ := row_at (K3.out.1.low hW) (f := j) (by omega)
    refine ⟨gb, go, aj, cj, h1, h3, h4, ?_⟩
    have : (gOf G j) ∈ G := by
      unfold gOf
      rw [List.getD_eq_getElem?_getD, List.getElem?_eq_getElem (by omega)]
      exact List.getElem_mem _
    have := HI.out.2.1 _ this
    omega
  have HIn : Hid (Inn n (gOf G)) := hid7 HI.out.1
  have B3 := hid7 K3.out.2
  have HSb : Hid (∀ W, Below w3.heap.size w3 W → W.cell? ⟨w.heap.size, 0, none⟩ = some (.slice a0 cl c0) ∧ W.cell? ⟨w.heap.size, 1, none⟩ = some (.slice a1 n c1)) := hid7 fun W hW => ⟨(hW.cell (World.block_lt_of_cell? w3 _ s0)).trans s0, (hW.cell (World.block_lt_of_cell? w3 _ s1)).trans s1⟩
  clear hj1 hu4 hmk HI hGl
  obtain ⟨g, hg⟩ : ∃ g, g = gOf G := ⟨_, rfl⟩
  rw [← hg] at HC2 HRow HIn K4
  clear hg K3 s0 s1
  go_loopw [8] (fun kv wr => ∃ k : Nat, kv = .int .i64 k ∧ k ≤ (g j).length ∧ Hid (MapB wr w3.heap.size n (SK n g j k) ∧ Below w3.heap.size w3 wr)) (fun kv _ => (g j).length - (intOf kv).toNat)
  case atStart => exact ⟨0, rfl, Nat.zero_le _, K4⟩
  case round =>
    obtain ⟨k, rfl, hk, HL⟩ := hrel
    obtain ⟨wo, rfl⟩ : ∃ wo, wo = wr := ⟨_, rfl⟩
    clear K4
    obtain ⟨gb, go, aj, cj, ega, hrow, hns, hlen⟩ := HRow.out wo HL.out.2
    subst ega
    by_cases hkl : k < (g j).length
    · obtain ⟨bj, oj, eaj, _, hc⟩ := row_cell hns hkl
      have hcn : (g j)[k] < n := HIn.out j hj2 _ (List.getElem_mem hkl)
      obtain ⟨p0, p1⟩ := HSb.out wo HL.out.2
      have Bwo := B3.out.trans (HL.out.2.mono B3.out.size)
      have hCl := hid7 (HC2.out wo.drew (g j)[k] Bwo.drew hcn)
      have HSx : Hid (∀ x, SKi (SK n g j k) ((List.range n).filter (reachN n g (g j)[k] n)) ((List.range n).filter (reachN n g (g j)[k] n)).length x = SK n g j (k + 1) x) := hid7 fun x => by
        by_cases hx : x < n
        · exact SK_succ hkl x hx
        · rw [SKi_low (SK_low HIn.out hj2 k) _ x hx, SK_low HIn.out hj2 (k + 1) x hx]
      subst eaj
      obtain ⟨L, hL⟩ : ∃ L, L = (List.range n).filter (reachN n g (g j)[k] n) := ⟨_, rfl⟩
      rw [← hL] at hCl HSx
      have HLn : Hid (L.length ≤ 16 ∧ ∀ i (h : i < L.length), L[i] < n) := hid7 ⟨by rw [hL]; exact Nat.le_trans (List.length_filter_le _ _) (by simp; exact r1), fun i h => by
        have hA : ∀ x ∈ L, x < n := by
          rw [hL]
          intro x hx
          simpa using (List.mem_filter.1 hx).1
        exact hA _ (List.getElem_mem h)⟩
      generalize (g j)[k] = c at *
      obtain ⟨gl, hgl⟩ : ∃ gl, gl = (g j).length := ⟨_, rfl⟩
      rw [← hgl] at hrow hlen hkl hk ⊢
      have HGL := hid7 hgl
      have HK : Hid (MapB wo w3.heap.size n (SK n g j k) ∧ Below w3.heap.size w3 wo) := HL
      have hSk : ∀ W, Below wo.heap.size wo W → (W.cell? ⟨w.heap.size, 0, none⟩ = some (.slice a0 cl c0) ∧ W.cell? ⟨w.heap.size, 1, none⟩ = some (.slice a1 n c1)) ∧ W.cell? ⟨gb, go + j, none⟩ = some (.slice (some ⟨bj, oj, none⟩) gl cj) ∧ W.cell? ⟨bj, oj + k, none⟩ = some (.int .i64 (c : Nat)) := fun W hW => by
        have hk := below_keep hW
        exact ⟨⟨hk _ _ p0, hk _ _ p1⟩, hk _ _ hrow, hk _ _ hc⟩
      clear hL hns HRow HIn HSb HC2 HL hgl Bwo
      go_wp2_with fail
      go_region_held3 (fun W => (W.cell? ⟨w.heap.size, 0, none⟩ = some (.slice a0 cl c0) ∧ W.cell? ⟨w.heap.size, 1, none⟩ = some (.slice a1 n c1)) ∧ W.cell? ⟨gb, go + j, none⟩ = some (.slice (some ⟨bj, oj, none⟩) gl cj) ∧ W.cell? ⟨bj, oj + k, none⟩ = some (.int .i64 (c : Nat))) (first | go_keep | exact hSk _ q6 | exact hSk _ q5) (first
        | (go_at_call 8; refine hCl.out.mono ?_; clear hCl; rintro e w5 ⟨b2, d2, b3, d3, rfl, y5, H5⟩; have q5 := (Below.refl _ wo).drew.trans y5.out)
        | (go_at_call 14; refine H5.out.mono ?_; clear H5; rintro e w6 ⟨ra, rc, rfl, y6⟩; have q6 := (Below.refl _ wo).drew.trans y6.out.2))
      have hM6 : Hid (MapB w6 w3.heap.size n (SKi (SK n g j k) L 0) ∧ NsAt w6.cell? ra (rowI L) ∧ Below w3.heap.size w3 w6) := hid7 ⟨by rw [SKi_zero]; exact HK.out.1.keep (q6.block _ HK.out.1.lt), y6.out.1, HK.out.2.trans (q6.mono HK.out.2.size)⟩
      clear y6 q6 q5 y5 hSk HK
      obtain ⟨ll, hll⟩ : ∃ ll, ll = L.length := ⟨_, rfl⟩
      have HLL := hid7 hll
      rw [← hll]
      clear hll
      go_wp2_with fail
      go_loopw [10] (fun iv wr => ∃ i : Nat, iv = .int .i64 i ∧ i ≤ ll ∧ Hid (MapB wr w3.heap.size n (SKi (SK n g j k) L i) ∧ NsAt wr.cell? ra (rowI L) ∧ Below w3.heap.size w3 wr)) (fun iv _ => ll - (intOf iv).toNat)
      case atStart => exact ⟨0, rfl, Nat.zero_le _, hM6⟩
      case round =>
        obtain ⟨i, rfl, hi, HI⟩ := hrel
        clear hM6
        have hll16 : ll ≤ 16 := by rw [HLL.out]; exact HLn.out.1
        by_cases hil : i < ll
        · have hil2 : i < L.length := by rw [← HLL.out]; exact hil
          obtain ⟨rb, ro, era, hc2⟩ : ∃ rb ro, ra = some ⟨rb, ro, none⟩ ∧ wr.cell? ⟨rb, ro + i, none⟩ = some (.int .i64 (L[i] : Nat)) := by
            rcases HI.out.2.1 with h | ⟨b, o, e, h⟩
            · rw [rowI, List.map_eq_nil_iff] at h; rw [h] at hil2; cases hil2
            · refine ⟨b, o, e, ?_⟩
              have := h i (by simpa [rowI] using hil2)
              rw [this]
              simp [rowI]
          obtain ⟨w7, hu7, M7, g7, z7⟩ := HI.out.1.put L[i] (HLn.out.2 i hil2)
          have L7 : Hid (MapB w7 w3.heap.size n (SKi (SK n g j k) L (i + 1)) ∧ NsAt w7.cell? ra (rowI L) ∧ Below w3.heap.size w3 w7) := hid7 ⟨by rw [← SKi_succ hil2]; exact M7, HI.out.2.1.keep (HI.out.1.cells g7), HI.out.2.2.grown g7 HI.out.2.2.size (fun q hq => by cases hq; exact Nat.le_refl _)⟩
          subst era
          generalize L[i] = x at *
          clear HI M7 g7 z7 HSx HLn
          go_wp2_with fail
          exact ⟨⟨i + 1, by go_num, by omega, L7⟩, by simp [intOf]; omega⟩
        · obtain rfl : i = ll := by omega
          have L7 : Hid (MapB wr w3.heap.size n (SK n g j (k + 1)) ∧ Below w3.heap.size w3 wr) := hid7 ⟨by
            have := HI.out.1
            rw [HLL.out] at this
            exact this.congr HSx.out, HI.out.2.2⟩
          clear HI HSx HLn
          go_wp2_with fail
          exact ⟨⟨k + 1, by go_num, by omega, L7⟩, by simp [intOf]; omega⟩
    · obtain rfl : k = (g j).length := by omega
      have hRN : ∀ x, SK n g j (g j).length x = reachN n g j n x := SK_all HIn.out hj2
      have hM : MapB wo w3.heap.size n (reachN n g j n) := HL.out.1.congr hRN
      obtain ⟨L, hL⟩ : ∃ L, L = (List.range n).filter (reachN n g j n) := ⟨_, rfl⟩
      have HLn : Hid (L.length ≤ 16 ∧ L.length = cntB n (reachN n g j n) ∧ (∀ i (h : i < L.length), L[i] < n ∧ reachN n g j n L[i] = true) ∧ (rowI L).Pairwise (· < ·)) := hid7 ⟨by rw [hL]; exact Nat.le_trans (List.length_filter_le _ _) (by simp; exact r1), by rw [hL, cnt_filter], fun i h => by
        have hA : ∀ x ∈ L, x < n ∧ reachN n g j n x = true := by
          rw [hL]
          intro x hx
          exact ⟨by simpa using (List.mem_filter.1 hx).1, (List.mem_filter.1 hx).2⟩
        exact hA _ (List.getElem_mem h), by rw [hL]; exact rowI_rise _⟩
      have Bwo := B3.out.trans (HL.out.2.mono B3.out.size)
      have hCl' := HC2.out wo j Bwo hj2
      rw [← hL] at hCl'
      have HCl' := hid7 hCl'
      obtain ⟨p0, p1⟩ := HSb.out wo HL.out.2
      have HM := hid7 (And.intro hM Bwo)
      generalize reachN n g j n = RN at *
      generalize (g j).length = gl at *
      clear hL hns HRow HIn HSb HC2 HL Bwo hRN hM hCl'
      obtain ⟨ll, hll⟩ : ∃ ll, ll = L.length := ⟨_, rfl⟩
      have HLL := hid7 hll
      rw [← hll] at HCl'
      clear hll
      go_wp2_with (first
        | (go_at_call 8; refine HCl'.out.mono ?_; clear HCl'; rintro e w5 ⟨b2, d2, b3, d3, rfl, y5, H5⟩)
        | (go_at_call 14; refine H5.out.mono ?_; clear H5; rintro e w6 ⟨ra, rc, rfl, y6⟩)
        | fail)
      have HM6 : Hid (MapB w6 w3.heap.size n RN ∧ NsAt w6.cell? ra (rowI L) ∧ Below w.heap.size w w6) := hid7 ⟨HM.out.1.keep (y6.out.2.block _ HM.out.1.lt), y6.out.1, HM.out.2.trans (y6.out.2.mono HM.out.2.size)⟩
      have hll16 : ll ≤ 16 := by rw [HLL.out]; exact HLn.out.1
      clear HM y5 y6
      go_loopw [12] (fun iv wr => ∃ i : Nat, iv = .int .i64 i ∧ i ≤ ll ∧ Hid (MapB wr w3.heap.size n RN ∧ NsAt wr.cell? ra (rowI L) ∧ Below w.heap.size w wr)) (fun iv _ => ll - (intOf iv).toNat)
      case atStart => exact ⟨0, rfl, Nat.zero_le _, HM6⟩
      case round =>
        obtain ⟨i, rfl, hi, HI⟩ := hrel
        obtain ⟨M6, N6, B6⟩ := HI.out
        clear HM6
        by_cases hil : i < ll
        · have hil2 : i < L.length := by rw [← HLL.out]; exact hil
          obtain ⟨hx1, hx2⟩ := HLn.out.2.2.1 i hil2
          obtain ⟨rb, ro, era, hcs⟩ : ∃ rb ro, ra = some ⟨rb, ro, none⟩ ∧ ∀ i (h : i < L.length), wr.cell? ⟨rb, ro + i, none⟩ = some (.int .i64 (L[i] : Nat)) := by
            rcases N6 with h | ⟨b, o, e, h⟩
            · rw [rowI, List.map_eq_nil_iff] at h; rw [h] at hil2; cases hil2
            · refine ⟨b, o, e, fun i hi => ?_⟩
              have := h i (by simpa [rowI] using hi)
              rw [this]
              simp [rowI]
          subst era
          have hc2 := hcs i hil2
          have hlk := MapB.at (w := wr.drew) M6 L[i] (by omega)
          rw [hx2] at hlk
          have HN : Hid (MapB wr.drew w3.heap.size n RN ∧ NsAt wr.drew.cell? (some ⟨rb, ro, none⟩) (rowI L) ∧ Below w.heap.size w wr.drew) := hid7 ⟨M6, N6, B6.drew⟩
          cases i with
          | zero =>
            rw [Nat.add_zero] at hc2
            generalize L[0] = x at *
            clear HI M6 N6 hcs HLn B6 hx2
            go_wp2_with fail
            go_region
            all_goals
              go_wp2_with fail
              exact ⟨⟨1, by go_num, by omega, HN⟩, by simp [intOf]; omega⟩
          | succ i =>
            have hc3 := hcs i (by omega)
            have hlt : L[i] < L[i + 1] := by
              have := List.pairwise_iff_getElem.1 HLn.out.2.2.2 i (i + 1) (by simp [rowI]; omega) (by simp [rowI]; omega) (by omega)
              simpa [rowI] using this
            generalize L[i + 1] = x at *
            generalize L[i] = y at *
            have hd1 : decide (x ≤ y) = false := by simp; omega
            have hd2 : ((i : Int) + 1 > 0) := by omega
            clear HI M6 N6 hcs HLn B6 hx2
            go_wp2_with fail
            go_region
            all_goals
              go_wp2_with fail
              exact ⟨⟨i + 1 + 1, by go_num, by omega, HN⟩, by simp [intOf]; omega⟩
        · obtain rfl : i = ll := by omega
          have hlen2 := M6.len 3
          rw [← HLn.out.2.1, ← HLL.out] at hlen2
          have HB := hid7 B6
          clear HI M6 N6 HLn B6
          go_wp2_with (first
            | (go_at_call 17; refine (knows8_any _).mono ?_; rintro e w11 ⟨rfl, b11⟩)
            | fail)
          go_ret
          exact ⟨by simp, HB.out.trans (b11.mono HB.out.size)⟩
theorem reach8_law (s : Scr) (V0 V1 : Value) (f : Int) (w : World) (hs : ScIs w.cell? s V0 V1) (hsf : s.fits) :
    Calls Try.prog 7 #[.agg #[V0, V1], .int .i64 f] w fun e w' => e = .returned (.bool true) ∧ Below w.heap.size w w' := by
  by_cases hr : s.right = true
  · exact reach8_ok s V0 V1 f w hs hsf hr
  · exact reach8_err s V0 V1 f w hs hsf hr
end Go.Proofs.Ytikomfbpaimnmaa
