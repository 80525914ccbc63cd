/- The law CallsRound. -/
import Derived.Test.YtikomfbpaimnmaaXW
import Derived.Test.YtikomfbpaimnmaaLOr8
namespace Go.Proofs.Ytikomfbpaimnmaa
open Go.RowKit
/-- Where no function comes back to itself, each reaches more than those that it calls. -/
theorem acy_of {n : Nat} {g : Nat → List Nat} (hI : Inn n g) (h : ∀ x < n, ¬ Rnd g x x) : Acy n g := by
  refine ⟨fun x => cntB n (reachN n g x n), fun x hx c hc => ?_⟩
  have hcn := hI x hx c hc
  have h1 : reachN n g c n x = false := by
    cases e : reachN n g c n x with
    | false => rfl
    | true => exact absurd ⟨c, hc, reach_sound n x e⟩ (h x hx)
  exact cnt_lt (fun y hy => (reach_iff hI hx y).2 (.step hc (reach_sound n y hy))) h1 (reach_self n) n hx
/-- Does i come back to itself? -/
def rnd1 (n : Nat) (g : Nat → List Nat) (i k : Nat) : Bool := ((g i).take k).any fun c => reachN n g c n i
def rndN (n : Nat) (g : Nat → List Nat) (i : Nat) : Bool := (List.range i).any fun x => rnd1 n g x (g x).length
theorem rndN_succ (n : Nat) (g : Nat → List Nat) (i : Nat) : rndN n g (i + 1) = (rndN n g i || rnd1 n g i (g i).length) := by
  simp [rndN, List.range_succ]
theorem rnd1_succ {n : Nat} {g : Nat → List Nat} {i k : Nat} (h : k < (g i).length) : rnd1 n g i (k + 1) = (rnd1 n g i k || reachN n g (g i)[k] n i) := by
  simp only [rnd1, List.take_succ_eq_append_getElem h, List.any_append]
  simp
theorem rnd_iff {n : Nat} {g : Nat → List Nat} (hI : Inn n g) : rndN n g n = (ordS n g).isNone := by
  rw [Bool.eq_iff_iff]
  have h1 : rndN n g n = true ↔ ∃ x < n, Rnd g x x := by
    simp only [rndN, rnd1, List.any_eq_true, List.mem_range, List.take_length]
    constructor
    · rintro ⟨x, hx, c, hc, h⟩; exact ⟨x, hx, c, hc, reach_sound n x h⟩
    · rintro ⟨x, hx, c, hc, h⟩; exact ⟨x, hx, c, hc, (reach_iff hI (hI x hx c hc) x).2 h⟩
  rw [h1]
  constructor
  · rintro ⟨x, hx, h⟩
    cases e : ordS n g with
    | none => rfl
    | some o => exact absurd h (((ord_iff hI).2 ⟨o, e⟩).none hI hx)
  · intro h
    false_or_by_contra
    rename_i hn
    obtain ⟨o, ho⟩ := (ord_iff hI).1 (acy_of hI fun x hx hr => hn ⟨x, hx, hr⟩)
    rw [ho] at h
    cases h
set_option maxRecDepth 100000 in
set_option maxHeartbeats 2000000 in
theorem round8_err (s : Scr) (V0 V1 : Value) (w : World) (hs : ScIs w.cell? s V0 V1) (hsf : s.fits) (hr : ¬ s.right = true) :
    Calls Try.prog 6 #[.agg #[V0, V1]] w fun e w' => e = .returned (.bool true) ∧ Below w.heap.size w w' := by
  obtain ⟨⟨a0, c0, rfl, n0⟩, ⟨a1, c1, rfl, n1⟩⟩ := hs
  have hs : ScIs w.cell? s (.slice a0 s.consts.length c0) (.slice a1 s.funcs.length c1) := ⟨⟨a0, c0, rfl, n0⟩, ⟨a1, c1, rfl, n1⟩⟩
  have b1 := (Below.refl _ w).alloc (Nat.le_refl _) (.cells #[.slice a0 s.consts.length c0, .slice a1 s.funcs.length c1] 25)
  have HC : Hid (Calls Try.prog 8 #[.agg #[.slice a0 s.consts.length c0, .slice a1 s.funcs.length c1]] (w.alloc (.cells #[.slice a0 s.consts.length c0, .slice a1 s.funcs.length c1] 25)) fun e w2 => ∃ b0 d0 b1 d1, e = .returned (.agg #[.slice b0 s.consts.length d0, .slice b1 s.funcs.length d1]) ∧
      Hid (Calls Try.prog 9 #[.agg #[.slice b0 s.consts.length d0, .slice b1 s.funcs.length d1]] w2 fun e w3 => e = .returned (.tuple #[.slice none 0 0, .int .i64 30]) ∧ Hid (Below w.heap.size w w3))) := hid7 ((clone_at hs hsf _ b1).mono fun e w2 ⟨b0, d0, b1', d1, h1, h2⟩ => ⟨b0, d0, b1', d1, h1, hid7 ((graph_any s _ _ _ h2.out.1 hsf).mono fun e w3 ⟨h3, h4⟩ => by
    rw [if_neg hr] at h3
    have bb := h2.out.2.trans (h4.mono h2.out.2.size)
    exact ⟨h3, hid7 (b1.trans (bb.mono b1.size))⟩)⟩)
  clear hs n0 n1 hsf hr b1
  generalize s.funcs.length = fl at HC ⊢
  generalize s.consts.length = cl at HC ⊢
  go_enter Try.func6, Try.ntmps6
  go_wp2_with (first
    | (go_at_call 8; refine HC.out.mono ?_; clear HC; rintro e w2 ⟨b0, d0, b1, d1, rfl, H2⟩)
    | (go_at_call 9; refine H2.out.mono ?_; clear H2; rintro e w3 ⟨rfl, B3⟩)
    | (go_at_call 12; refine (num8_any _ _).mono ?_; rintro e w10 ⟨rfl, w10e⟩; rw [w10e]; clear w10e)
    | (go_at_call 17; refine (knows8_any _).mono ?_; rintro e w11 ⟨rfl, b11⟩)
    | fail)
  go_ret
  exact ⟨rfl, B3.out.trans (b11.mono B3.out.size)⟩
set_option maxRecDepth 100000 in
set_option maxHeartbeats 2000000 in
theorem round8_ok (s : Scr) (V0 V1 : Value) (w : World) (hs : ScIs w.cell? s V0 V1) (hsf : s.fits) (hr : s.right = true) :
    Calls Try.prog 6 #[.agg #[V0, V1]] w fun e w' => e = .returned (.bool true) ∧ Below w.heap.size w w' := by
  obtain ⟨⟨a0, c0, rfl, n0⟩, ⟨a1, c1, rfl, n1⟩⟩ := hs
  have hs : ScIs w.cell? s (.slice a0 s.consts.length c0) (.slice a1 s.funcs.length c1) := ⟨⟨a0, c0, rfl, n0⟩, ⟨a1, c1, rfl, n1⟩⟩
  obtain ⟨r1, r2, r3⟩ := right_calls hr
  obtain ⟨i1, i2, i3, i4⟩ := graph_inn s
  have b1 := (Below.refl _ w).alloc (Nat.le_refl _) (.cells #[.slice a0 s.consts.length c0, .slice a1 s.funcs.length c1] 25)
  have e0 := heap_alloc_new w (.cells #[.slice a0 s.consts.length c0, .slice a1 s.funcs.length c1] 25)
  have HC : Hid (Calls Try.prog 8 #[.agg #[.slice a0 s.consts.length c0, .slice a1 s.funcs.length c1]] (w.alloc (.cells #[.slice a0 s.consts.length c0, .slice a1 s.funcs.length c1] 25)) fun e w2 => ∃ b0 d0 b1 d1, e = .returned (.agg #[.slice b0 s.consts.length d0, .slice b1 s.funcs.length d1]) ∧
      Hid (Calls Try.prog 9 #[.agg #[.slice b0 s.consts.length d0, .slice b1 s.funcs.length d1]] w2 fun e w3 => ∃ ga gc, e = .returned (.tuple #[.slice ga s.funcs.length gc, .int .i64 0]) ∧ w3.cell? ⟨w.heap.size, 0, none⟩ = some (.slice a0 s.consts.length c0) ∧ w3.cell? ⟨w.heap.size, 1, none⟩ = some (.slice a1 s.funcs.length c1) ∧ Hid (RsAt w3.cell? ga (rowsI (graphS s)) ∧ Below w.heap.size w w3))) := hid7 ((clone_at hs hsf _ b1).mono fun e w2 ⟨b0, d0, b1', d1, h1, h2⟩ => ⟨b0, d0, b1', d1, h1, hid7 ((graph_any s _ _ _ h2.out.1 hsf).mono fun e w3 ⟨h3, h4⟩ => by
    rw [if_pos hr] at h3
    obtain ⟨ga, gc, h5, h6⟩ := h3
    have bb := h2.out.2.trans (h4.mono h2.out.2.size)
    have e3 := (bb.block _ (heap_lt e0)).trans e0
    exact ⟨ga, gc, h5, Lib.cell_of_heap e3 0, Lib.cell_of_heap e3 1, hid7 ⟨h6, b1.trans (bb.mono b1.size)⟩⟩)⟩)
  have HC2 : Hid (∀ W c, Below w.heap.size w W → c < s.funcs.length → Calls Try.prog 8 #[.agg #[.slice a0 s.consts.length c0, .slice a1 s.funcs.length c1]] W fun e w2 => ∃ b0 d0 b1 d1, e = .returned (.agg #[.slice b0 s.consts.length d0, .slice b1 s.funcs.length d1]) ∧ Hid (Below W.heap.size W w2) ∧
      Hid (Calls Try.prog 14 #[.agg #[.slice b0 s.consts.length d0, .slice b1 s.funcs.length d1], .int .i64 (c : Nat)] w2 fun e w3 => ∃ ra rc, e = .returned (.slice ra ((List.range s.funcs.length).filter (reachN s.funcs.length (gF s) c s.funcs.length)).length rc) ∧ Hid (NsAt w3.cell? ra (rowI ((List.range s.funcs.length).filter (reachN s.funcs.length (gF s) c s.funcs.length))) ∧ Below W.heap.size W w3))) := hid7 fun W c hW hc => (clone_at hs hsf _ hW).mono fun e w2 ⟨b0, d0, b1', d1, h1, h2⟩ => ⟨b0, d0, b1', d1, h1, hid7 h2.out.2, hid7 ((reach_any s _ _ c _ h2.out.1 hsf).mono fun e w3 ⟨ra, rc, h3, h4, h5⟩ => by
    have hR : reachS s c = (List.range s.funcs.length).filter (reachN s.funcs.length (gF s) c s.funcs.length) := by rw [reachS, if_pos ⟨hr, by omega, by omega⟩, Int.toNat_natCast]
    rw [hR] at h3 h4
    exact ⟨ra, rc, h3, hid7 ⟨h4, h2.out.2.trans (h5.mono h2.out.2.size)⟩⟩)⟩
  have HC3 : Hid (∀ W, Below w.heap.size w W → Calls Try.prog 8 #[.agg #[.slice a0 s.consts.length c0, .slice a1 s.funcs.length c1]] W fun e w2 => ∃ b0 d0 b1 d1, e = .returned (.agg #[.slice b0 s.consts.length d0, .slice b1 s.funcs.length d1]) ∧
      Hid (Calls Try.prog 18 #[.agg #[.slice b0 s.consts.length d0, .slice b1 s.funcs.length d1]] w2 fun e w3 => ∃ oa ol oc, e = .returned (.tuple #[.slice oa ol oc, .int .i64 (if rndN s.funcs.length (gF s) s.funcs.length = true then 34 else 0)]) ∧ Hid (Below w.heap.size w w3))) := hid7 fun W hW => (clone_at hs hsf _ hW).mono fun e w2 ⟨b0, d0, b1', d1, h1, h2⟩ => ⟨b0, d0, b1', d1, h1, hid7 ((order_any s _ _ _ h2.out.1 hsf).mono fun e w3 h3 => by
    obtain ⟨la, lc, h4, _, h5⟩ := ord_end h3
    refine ⟨la, _, lc, by rw [h4, ordE, if_pos hr, rnd_iff i1], hid7 ((hW.trans (h2.out.2.mono hW.size)).trans (h5.mono (Nat.le_trans hW.size h2.out.2.size)))⟩)⟩
  have HI := hid7 (And.intro i1 (And.intro i3 i4))
  obtain ⟨G, hGe⟩ : ∃ G, G = graphS s := ⟨_, rfl⟩
  obtain ⟨n, hfe⟩ : ∃ fl, fl = s.funcs.length := ⟨_, rfl⟩
  unfold gF at HI HC2 HC3
  rw [← hfe, ← hGe] at HC HI HC2 HC3
  rw [← hfe] at r1 r2 ⊢
  generalize s.consts.length = cl at HC HC2 HC3 ⊢
  clear hs n0 n1 hsf hr b1 e0 i1 i2 i3 i4 hGe hfe r3
  go_enter Try.func6, Try.ntmps6
  go_wp2_with (first
    | (go_at_call 8; refine HC.out.mono ?_; clear HC; rintro e w2 ⟨b0, d0, b1, d1, rfl, H2⟩)
    | (go_at_call 9; refine H2.out.mono ?_; clear H2; rintro e w3 ⟨ga, gc, rfl, s0, s1, K3⟩)
    | (go_at_call 12; refine (num8_any _ _).mono ?_; rintro e w10 ⟨rfl, w10e⟩; rw [w10e]; clear w10e)
    | fail)
  have hGl := HI.out.2.2
  have HRow : Hid (∀ W, Below w3.heap.size w3 W → ∀ j < n, ∃ gb go aj cj, ga = some ⟨gb, go, none⟩ ∧ W.cell? ⟨gb, go + j, none⟩ = some (.slice aj (gOf G j).length cj) ∧ NsAt (lowC w3.heap.size W) aj (rowI (gOf G j)) ∧ (gOf G j).length ≤ 16) := hid7 fun W hW j hj2 => by
    obtain ⟨gb, go, aj, cj, h1, h2, h3, h4⟩ := row_at (K3.out.1.low hW) (f := j) (by omega)
    refine ⟨gb, go, aj, cj, h1, h3, h4, ?_⟩
    have : (gOf G j) ∈ G := by
      unfold gOf
      rw [List.getD_eq_getElem?_getD, List.getElem?_eq_getElem (by omega)]
      exact List.getElem_mem _
    have := HI.out.2.1 _ this
    omega
  have HIn : Hid (Inn n (gOf G)) := hid7 HI.out.1
  have B3 := hid7 K3.out.2
  have HSb : Hid (∀ W, Below w3.heap.size w3 W → W.cell? ⟨w.heap.size, 0, none⟩ = some (.slice a0 cl c0) ∧ W.cell? ⟨w.heap.size, 1, none⟩ = some (.slice a1 n c1)) := hid7 fun W hW => ⟨(hW.cell (World.block_lt_of_cell? w3 _ s0)).trans s0, (hW.cell (World.block_lt_of_cell? w3 _ s1)).trans s1⟩
  clear HI hGl
  obtain ⟨g, hg⟩ : ∃ g, g = gOf G := ⟨_, rfl⟩
  rw [← hg] at HC2 HC3 HRow HIn
  clear hg K3 s0 s1
  go_loopw [5, 6] (fun bv iv wr => ∃ (i : Nat) (b : Bool), bv = .bool b ∧ iv = .int .i64 i ∧ i ≤ n ∧ Hid (b = rndN n g i) ∧ Hid (Below w3.heap.size w3 wr)) (fun _ iv _ => n - (intOf iv).toNat)
  case atStart => exact ⟨0, false, rfl, rfl, Nat.zero_le _, hid7 rfl, hid7 (Below.refl _ _)⟩
  case round =>
    obtain ⟨i, b, rfl, rfl, hi, Hb, HB⟩ := hrel
    by_cases hin : i < n
    · have HL2 : Hid (b = (rndN n g i || rnd1 n g i 0)) := hid7 (by rw [Hb.out]; simp [rnd1])
      have HN : Hid (rndN n g (i + 1) = (rndN n g i || rnd1 n g i (g i).length)) := hid7 (rndN_succ n g i)
      obtain ⟨w30, rfl⟩ : ∃ w30, w30 = wr := ⟨_, rfl⟩
      clear Hb HC3
      go_wp2_with fail
      go_loopw [5, 7] (fun bv kv wr => ∃ (k : Nat) (b : Bool), bv = .bool b ∧ kv = .int .i64 k ∧ k ≤ (g i).length ∧ Hid (b = (rndN n g i || rnd1 n g i k)) ∧ Hid (Below w3.heap.size w3 wr)) (fun _ kv _ => (g i).length - (intOf kv).toNat)
      case atStart => exact ⟨0, b, rfl, rfl, Nat.zero_le _, HL2, HB⟩
      case round =>
        obtain ⟨k, b', rfl, rfl, hk, Hb, HBo⟩ := hrel
        clear HL2 HB
        obtain ⟨wo, rfl⟩ : ∃ wo, wo = wr := ⟨_, rfl⟩
        obtain ⟨gb, go, aj, cj, ega, hrow, hns, hlen⟩ := HRow.out wo HBo.out i hin
        subst ega
        by_cases hkl : k < (g i).length
        · obtain ⟨bj, oj, eaj, _, hc⟩ := row_cell hns hkl
          have hcn : (g i)[k] < n := HIn.out i hin _ (List.getElem_mem hkl)
          obtain ⟨p0, p1⟩ := HSb.out wo HBo.out
          have Bwo := B3.out.trans (HBo.out.mono B3.out.size)
          have hCl := hid7 (HC2.out wo.drew (g i)[k] Bwo.drew hcn)
          have HS1 : Hid (rnd1 n g i (k + 1) = (rnd1 n g i k || reachN n g (g i)[k] n i)) := hid7 (rnd1_succ hkl)
          subst eaj
          obtain ⟨L, hL⟩ : ∃ L, L = (List.range n).filter (reachN n g (g i)[k] n) := ⟨_, rfl⟩
          rw [← hL] at hCl
          have HLn : Hid (L.length ≤ 16 ∧ reachN n g (g i)[k] n i = L.contains i) := hid7 ⟨by rw [hL]; exact Nat.le_trans (List.length_filter_le _ _) (by simp; exact r1), by rw [hL, Bool.eq_iff_iff]; simp [hin]⟩
          generalize reachN n g (g i)[k] n i = rc0 at *
          generalize (g i)[k] = c at *
          obtain ⟨gl, hgl⟩ : ∃ gl, gl = (g i).length := ⟨_, rfl⟩
          rw [← hgl] at hrow hlen hkl hk ⊢
          have hSk : ∀ W, Below wo.heap.size wo W → (W.cell? ⟨w.heap.size, 0, none⟩ = some (.slice a0 cl c0) ∧ W.cell? ⟨w.heap.size, 1, none⟩ = some (.slice a1 n c1)) ∧ W.cell? ⟨gb, go + i, none⟩ = some (.slice (some ⟨bj, oj, none⟩) gl cj) ∧ W.cell? ⟨bj, oj + k, none⟩ = some (.int .i64 (c : Nat)) := fun W hW => by
            have hk := below_keep hW
            exact ⟨⟨hk _ _ p0, hk _ _ p1⟩, hk _ _ hrow, hk _ _ hc⟩
          clear hL hns HRow HIn HSb HC2 hgl Bwo HN
          go_wp2_with fail
          go_region_held3 (fun W => (W.cell? ⟨w.heap.size, 0, none⟩ = some (.slice a0 cl c0) ∧ W.cell? ⟨w.heap.size, 1, none⟩ = some (.slice a1 n c1)) ∧ W.cell? ⟨gb, go + i, none⟩ = some (.slice (some ⟨bj, oj, none⟩) gl cj) ∧ W.cell? ⟨bj, oj + k, none⟩ = some (.int .i64 (c : Nat))) (first | go_keep | exact hSk _ q6 | exact hSk _ q5) (first
            | (go_at_call 8; refine hCl.out.mono ?_; clear hCl; rintro e w5 ⟨b2, d2, b3, d3, rfl, y5, H5⟩; have q5 := (Below.refl _ wo).drew.trans y5.out)
            | (go_at_call 14; refine H5.out.mono ?_; clear H5; rintro e w6 ⟨ra, rc, rfl, y6⟩; have q6 := (Below.refl _ wo).drew.trans y6.out.2))
          have hM6 : Hid (NsAt w6.cell? ra (rowI L) ∧ Below w3.heap.size w3 w6) := hid7 ⟨y6.out.1, HBo.out.trans (q6.mono HBo.out.size)⟩
          clear y6 q6 q5 y5 hSk
          obtain ⟨ll, hll⟩ : ∃ ll, ll = L.length := ⟨_, rfl⟩
          have HLL := hid7 hll
          rw [← hll]
          clear hll
          have hll16 : ll ≤ 16 := by rw [HLL.out]; exact HLn.out.1
          have HQ0 : Hid (b' = (b' || (L.take 0).contains i)) := hid7 (by simp)
          go_wp2_with fail
          go_loopw [5, 9] (fun bv qv wr => ∃ (q : Nat) (b2 : Bool), bv = .bool b2 ∧ qv = .int .i64 q ∧ q ≤ ll ∧ Hid (b2 = (b' || (L.take q).contains i)) ∧ w6 = wr) (fun _ qv _ => ll - (intOf qv).toNat)
          case atStart => exact ⟨0, b', rfl, rfl, Nat.zero_le _, HQ0, rfl⟩
          case round =>
            obtain ⟨q, b2, rfl, rfl, hq, Hb2, rfl⟩ := hrel
            clear HQ0
            by_cases hql : q < ll
            · have hql2 : q < L.length := by rw [← HLL.out]; exact hql
              obtain ⟨rb, ro, era, hc2⟩ : ∃ rb ro, ra = some ⟨rb, ro, none⟩ ∧ w6.cell? ⟨rb, ro + q, none⟩ = some (.int .i64 (L[q] : Nat)) := by
                rcases hM6.out.1 with h | ⟨b, o, e, h⟩
                · rw [rowI, List.map_eq_nil_iff] at h; rw [h] at hql2; cases hql2
                · refine ⟨b, o, e, ?_⟩
                  have := h q (by simpa [rowI] using hql2)
                  rw [this]
                  simp [rowI]
              have HS : Hid ((b' || (L.take (q + 1)).contains i) = (b2 || decide ((L[q] : Int) = (i : Int)))) := hid7 (by
                rw [Hb2.out, List.take_succ_eq_append_getElem hql2, Bool.eq_iff_iff]
                simp only [Bool.or_eq_true, List.contains_iff_mem, List.mem_append, List.mem_singleton, decide_eq_true_eq]
                constructor
                · rintro (h | h | h)
                  · exact .inl (.inl h)
                  · exact .inl (.inr h)
                  · exact .inr (by omega)
                · rintro ((h | h) | h)
                  · exact .inl h
                  · exact .inr (.inl h)
                  · exact .inr (.inr (by omega)))
              subst era
              generalize L[q] = x at *
              clear HLn HS1 Hb Hb2 HLL
              cases b2 with
              | true =>
                go_wp2_with fail
                exact ⟨⟨q + 1, true, rfl, by go_num, by omega, hid7 (by rw [HS.out]; simp), trivial⟩, by simp [intOf]; omega⟩
              | false =>
                by_cases hxi : x = i
                · subst hxi
                  go_wp2_with fail
                  exact ⟨⟨q + 1, true, by simp, by go_num, by omega, hid7 (by rw [HS.out]; simp), trivial⟩, by simp [intOf]; omega⟩
                · have t1 : ((x : Int) == (i : Int)) = false := by simp; omega
                  have HS2 : Hid ((b' || (L.take (q + 1)).contains i) = false) := hid7 (by rw [HS.out]; simp; omega)
                  clear HS
                  go_wp2_with fail
                  exact ⟨⟨q + 1, false, by simp, by go_num, by omega, hid7 HS2.out.symm, trivial⟩, by simp [intOf]; omega⟩
            · obtain rfl : q = ll := by omega
              have L7 : Hid (b2 = (rndN n g i || rnd1 n g i (k + 1))) := hid7 (by
                rw [Hb2.out, HS1.out, HLn.out.2, HLL.out, List.take_length, Hb.out, Bool.or_assoc])
              have HB7 := hid7 hM6.out.2
              clear HLn HS1 Hb Hb2 hM6
              go_wp2_with fail
              exact ⟨⟨k + 1, b2, rfl, by go_num, by omega, L7, HB7⟩, by simp [intOf]; omega⟩
        · obtain rfl : k = (g i).length := by omega
          have L7 : Hid (b' = rndN n g (i + 1)) := hid7 (by rw [HN.out]; exact Hb.out)
          generalize (g i).length = gl at *
          clear Hb HN hns HRow HIn HSb HC2
          go_wp2_with fail
          exact ⟨⟨i + 1, b', rfl, by go_num, by omega, L7, HBo⟩, by simp [intOf]; omega⟩
    · obtain rfl : i = n := by omega
      have Bwo := B3.out.trans (HB.out.mono B3.out.size)
      have hCl := hid7 (HC3.out wr Bwo)
      obtain ⟨p0, p1⟩ := HSb.out wr HB.out
      rw [← Hb.out] at hCl
      clear HC3 HC2 HRow HIn HSb Hb Bwo HB
      cases b with
      | true =>
        go_wp2_with (first
          | (go_at_call 8; refine hCl.out.mono ?_; clear hCl; rintro e w5 ⟨b2, d2, b3, d3, rfl, H5⟩)
          | (go_at_call 18; refine H5.out.mono ?_; clear H5; rintro e w6 ⟨oa, ol, oc, rfl, B6⟩)
          | (go_at_call 12; refine (num8_any _ _).mono ?_; rintro e w10 ⟨rfl, w10e⟩; rw [w10e]; clear w10e)
          | (go_at_call 17; refine (knows8_any _).mono ?_; rintro e w11 ⟨rfl, b11⟩)
          | fail)
        go_ret
        exact ⟨rfl, B6.out.trans (b11.mono B6.out.size)⟩
      | false =>
        go_wp2_with (first
          | (go_at_call 8; refine hCl.out.mono ?_; clear hCl; rintro e w5 ⟨b2, d2, b3, d3, rfl, H5⟩)
          | (go_at_call 18; refine H5.out.mono ?_; clear H5; rintro e w6 ⟨oa, ol, oc, rfl, B6⟩)
          | (go_at_call 12; refine (num8_any _ _).mono ?_; rintro e w10 ⟨rfl, w10e⟩; rw [w10e]; clear w10e)
          | (go_at_call 17; refine (knows8_any _).mono ?_; rintro e w11 ⟨rfl, b11⟩)
          | fail)
        go_ret
        exact ⟨rfl, B6.out.trans (b11.mono B6.out.size)⟩
theorem round8_law (s : Scr) (V0 V1 : Value) (w : World) (hs : ScIs w.cell? s V0 V1) (hsf : s.fits) :
    Calls Try.prog 6 #[.agg #[V0, V1]] w fun e w' => e = .returned (.bool true) ∧ Below w.heap.size w w' := by
  by_cases hr : s.right = true
  · exact round8_ok s V0 V1 w hs hsf hr
  · exact round8_err s V0 V1 w hs hsf hr
end Go.Proofs.Ytikomfbpaimnmaa
