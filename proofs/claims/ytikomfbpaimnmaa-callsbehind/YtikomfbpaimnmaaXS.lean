/- Layer 8: the document's Reach. -/
import Derived.Test.YtikomfbpaimnmaaXR
import Derived.Test.YtikomfbpaimnmaaXP
namespace Go.Proofs.Ytikomfbpaimnmaa
open Go.RowKit
theorem swp_at (g : Nat → List Nat) (m : Nat → Bool) (i k : Nat) : swp g m i k i = m i := by
  unfold swp
  cases m i <;> simp
theorem swp_no {g : Nat → List Nat} {m : Nat → Bool} {i : Nat} (h : m i = false) (k : Nat) : swp g m i k = m := by
  funext x
  simp [swp, h]
theorem swp_succ {g : Nat → List Nat} {m : Nat → Bool} {i k : Nat} (h : m i = true) (hk : k < (g i).length) : (fun x => if x = (g i)[k] then true else swp g m i k x) = swp g m i (k + 1) := by
  funext x
  have ht : ∀ y, y ∈ (g i).take (k + 1) ↔ y ∈ (g i).take k ∨ y = (g i)[k] := fun y => by rw [List.take_succ_eq_append_getElem hk]; simp only [List.mem_append, List.mem_singleton]
  rw [Bool.eq_iff_iff]
  simp only [swp, h, Bool.true_and, Bool.or_eq_true, List.contains_iff_mem, ht]
  by_cases e : x = (g i)[k]
  · simp [e]
  · simp [e]
theorem filt_succ (p : Nat → Bool) (i : Nat) : rowI ((List.range (i + 1)).filter p) = rowI ((List.range i).filter p) ++ if p i then [(i : Int)] else [] := by
  rw [List.range_succ, List.filter_append, rowI, List.map_append]
  congr 1
  by_cases h : p i
  · simp [h]
  · simp [h]
theorem filt_len (p : Nat → Bool) (i : Nat) : (rowI ((List.range i).filter p)).length ≤ i := by
  rw [rowI, List.length_map]
  exact Nat.le_trans (List.length_filter_le _ _) (by simp)
def boolV (m : Nat → Bool) : Nat → Value := fun x => .bool (m x)
set_option maxRecDepth 100000 in
set_option maxHeartbeats 1000000 in
theorem rreach_any (s : Scr) (V0 V1 : Value) (f : Int) (w : World) (hs : ScIs w.cell? s V0 V1) (hsf : s.fits) (hI64 : ∀ f ∈ s.funcs, ∀ x ∈ f.code, -9223372036854775808 ≤ x.2 ∧ x.2 ≤ 9223372036854775807) : Calls Try.prog 15 #[.agg #[V0, V1], .int .i64 f] w (ReachEnd (reachS s f) w) := by
  obtain ⟨⟨a0, c0, rfl, n0⟩, ⟨a1, c1, rfl, n1⟩⟩ := hs
  have b1 := (Below.refl _ w).alloc (Nat.le_refl _) (.cells #[.slice a0 s.consts.length c0, .slice a1 s.funcs.length c1] 25)
  have hG := rgraph_any s _ _ (w.alloc (.cells #[.slice a0 s.consts.length c0, .slice a1 s.funcs.length c1] 25)) ⟨⟨a0, c0, rfl, n0.keep (below_keep b1)⟩, ⟨a1, c1, rfl, n1.keep (below_keep b1)⟩⟩ hsf hI64
  by_cases hr : s.right = true
  · obtain ⟨r1, r2, r3⟩ := right_calls hr
    obtain ⟨i1, i2, i3, i4⟩ := graph_inn s
    have HG : Hid (Calls Try.prog 10 #[.agg #[.slice a0 s.consts.length c0, .slice a1 s.funcs.length c1]] (w.alloc (.cells #[.slice a0 s.consts.length c0, .slice a1 s.funcs.length c1] 25)) fun e w1 => ∃ ga gc, e = .returned (.tuple #[.slice ga s.funcs.length gc, .int .i64 0]) ∧ Hid (RsAt w1.cell? ga (rowsI (graphS s)) ∧ Below w.heap.size w w1)) := hid7 (hG.mono fun e w1 ⟨h1, h2⟩ => by
      rw [if_pos hr] at h1
      obtain ⟨ga, gc, e1, h3⟩ := h1
      exact ⟨ga, gc, e1, hid7 ⟨h3, b1.trans (h2.mono b1.size)⟩⟩)
    by_cases hf : 0 ≤ f ∧ f < s.funcs.length
    · obtain ⟨k, rfl⟩ : ∃ k : Nat, f = k := ⟨f.toNat, by omega⟩
      have hk : k < s.funcs.length := by omega
      have HI := hid7 (And.intro i1 (And.intro i3 i4))
      have HE : Hid (∀ W L, L = (List.range s.funcs.length).filter (reachN s.funcs.length (gF s) k s.funcs.length) → ∀ a c, NsAt W.cell? a (rowI L) → Below w.heap.size w W → ReachEnd (reachS s k) w (.returned (.slice a L.length c)) W) := hid7 fun W L hL a c h1 h2 => by
        rw [reachS, if_pos ⟨hr, hf⟩, Int.toNat_natCast, ← hL]
        exact ⟨a, c, rfl, h1, h2⟩
      generalize reachS s k = RR at HE ⊢
      obtain ⟨G, hGe⟩ : ∃ G, G = graphS s := ⟨_, rfl⟩
      obtain ⟨n, hfe⟩ : ∃ fl, fl = s.funcs.length := ⟨_, rfl⟩
      have t1 : ¬ ((s.funcs.length : Int) ≤ k) := by omega
      unfold gF at HI HE
      rw [← hfe, ← hGe] at HG HI HE
      rw [← hfe] at r1 t1 hk ⊢
      have HMk : Hid (∀ W : World, ∃ W2, (Instr.makeSlice 61 (.int .i64 (n : Int)) (.int .i64 (n : Int))).run Try.prog W = .ok (.slice (some ⟨W.heap.size, 0, none⟩) n n) W2 ∧ W2.cell? ⟨W.heap.size, k, none⟩ = some (.bool false) ∧ W2.frozen? ⟨W.heap.size, k, none⟩ = false ∧ Hid (Fill (W2.setCell ⟨W.heap.size, k, none⟩ (.bool true)) W.heap.size 4 n (boolV (reachN n (gOf G) k 0)) ∧ Below W.heap.size W (W2.setCell ⟨W.heap.size, k, none⟩ (.bool true)))) := hid7 fun W => by
        obtain ⟨W2, h1, h2, h3⟩ := made8 W 61 4 (.bool false) 1 n Try.underlying61 (by kernel_rfl) rfl (by omega) (by omega)
        refine ⟨W2, h1, h2.cell hk, h2.frozen k, hid7 ⟨(h2.set k (.bool true)).congr fun j _ => ?_, h3.setCell (p := ⟨W.heap.size, k, none⟩) (Nat.le_refl _) _⟩⟩
        simp only [boolV, reachN]
        by_cases e : j = k
        · rw [if_pos e, e]; simp
        · rw [if_neg e]; simp [e]
      generalize s.consts.length = cl at HG ⊢
      clear hG hr r2 r3 i1 i2 i3 i4 n0 n1 hsf hfe b1 hf hI64 hGe
      have t2 : decide ((k : Int) < 0) = false := by simp
      have t3 : decide (n ≤ k) = false := by simp; omega
      go_enter Try.func15, Try.ntmps15
      go_wp2_with (first
        | (go_at_call 10; refine HG.out.mono ?_; clear HG; rintro e w1 ⟨ga, gc, rfl, K1⟩; obtain ⟨w2, hm2, g2, g3, K2⟩ := HMk.out w1; clear HMk)
        | fail)
      try rw [t3]
      clear t2 t3
      have hGl := HI.out.2.2
      have HRow : Hid (∀ W, Below w1.heap.size w1 W → ∀ i < n, ∃ gb go aj cj, ga = some ⟨gb, go, none⟩ ∧ W.cell? ⟨gb, go + i, none⟩ = some (.slice aj (gOf G i).length cj) ∧ NsAt (lowC w1.heap.size W) aj (rowI (gOf G i)) ∧ (gOf G i).length ≤ 16) := hid7 fun W hW i hi => by
        obtain ⟨gb, go, aj, cj, h1, h2, h3, h4⟩ := row_at (K1.out.1.low hW) (f := i) (by omega)
        refine ⟨gb, go, aj, cj, h1, h3, h4, ?_⟩
        have : (gOf G i) ∈ G := by
          unfold gOf
          rw [List.getD_eq_getElem?_getD, List.getElem?_eq_getElem (by omega)]
          exact List.getElem_mem _
        have := HI.out.2.1 _ this
        omega
      have HIn : Hid (Inn n (gOf G)) := hid7 HI.out.1
      have B1 := hid7 K1.out.2
      generalize hw3 : w2.setCell ⟨w1.heap.size, k, none⟩ (.bool true) = w3 at *
      clear hm2 g2 g3 hw3 HI hGl
      obtain ⟨g, hg⟩ : ∃ g, g = gOf G := ⟨_, rfl⟩
      rw [← hg] at HE HRow HIn K2
      clear hg K1
      go_loopw [8] (fun tv wr => ∃ t : Nat, tv = .int .i64 t ∧ t ≤ n ∧ Hid (Fill wr w1.heap.size 4 n (boolV (reachN n g k t)) ∧ Below w1.heap.size w1 wr)) (fun tv _ => n - (intOf tv).toNat)
      case atStart => exact ⟨0, rfl, Nat.zero_le _, K2⟩
      case round =>
        obtain ⟨t, rfl, ht, HL⟩ := hrel
        clear K2
        by_cases htn : t < n
        · obtain ⟨M, hM⟩ : ∃ M, M = reachN n g k t := ⟨_, rfl⟩
          have HM : Hid (reachN n g k (t + 1) = turnK g M n) := hid7 (by rw [hM]; rfl)
          rw [← hM] at HL
          clear hM HE
          go_wp2_with fail
          go_loopw [9] (fun iv wr => ∃ i : Nat, iv = .int .i64 i ∧ i ≤ n ∧ Hid (Fill wr w1.heap.size 4 n (boolV (turnK g M i)) ∧ Below w1.heap.size w1 wr)) (fun iv _ => n - (intOf iv).toNat)
          case atStart => exact ⟨0, rfl, Nat.zero_le _, HL⟩
          case round =>
            obtain ⟨i, rfl, hi, HL2⟩ := hrel
            clear HL
            by_cases hin : i < n
            · obtain ⟨T, hT⟩ : ∃ T, T = turnK g M i := ⟨_, rfl⟩
              have HT : Hid (turnK g M (i + 1) = swp g T i (g i).length) := hid7 (by rw [hT]; rfl)
              rw [← hT] at HL2
              have HL3 : Hid (Fill wr w1.heap.size 4 n (boolV (swp g T i 0)) ∧ Below w1.heap.size w1 wr) := hid7 (by rw [swp_zero]; exact HL2.out)
              clear hT HM HL2
              go_wp2_with fail
              go_loopw [10] (fun qv wr => ∃ q : Nat, qv = .int .i64 q ∧ q ≤ (g i).length ∧ Hid (Fill wr w1.heap.size 4 n (boolV (swp g T i q)) ∧ Below w1.heap.size w1 wr)) (fun qv _ => (g i).length - (intOf qv).toNat)
              case atStart => exact ⟨0, rfl, Nat.zero_le _, HL3⟩
              case round =>
                obtain ⟨q, rfl, hq, HL4⟩ := hrel
                clear HL3
                obtain ⟨gb, go, aj, cj, ega, hrow, hns, hlen⟩ := HRow.out wr HL4.out.2 i hin
                have hmi := HL4.out.1.cell hin
                rw [boolV, swp_at] at hmi
                subst ega
                by_cases hql : q < (g i).length
                · obtain ⟨bj, oj, eaj, _, hc⟩ := row_cell hns hql
                  have hcn : (g i)[q] < n := HIn.out i hin _ (List.getElem_mem hql)
                  have hc1 := HL4.out.1.cell hcn
                  have hc2 := HL4.out.1.frozen (g i)[q]
                  subst eaj
                  cases hTi : T i with
                  | true =>
                    have L5 : Hid (Fill (wr.setCell ⟨w1.heap.size, (g i)[q], none⟩ (.bool true)) w1.heap.size 4 n (boolV (swp g T i (q + 1))) ∧ Below w1.heap.size w1 (wr.setCell ⟨w1.heap.size, (g i)[q], none⟩ (.bool true))) := hid7 ⟨(HL4.out.1.set _ _).congr fun j _ => by
                      rw [← swp_succ hTi hql]
                      simp only [boolV]
                      by_cases e : j = (g i)[q]
                      · rw [if_pos e, if_pos e]
                      · rw [if_neg e, if_neg e], HL4.out.2.setCell (p := ⟨w1.heap.size, _, none⟩) (Nat.le_refl _) _⟩
                    rw [hTi] at hmi
                    unfold boolV at hc1
                    generalize swp g T i q (g i)[q] = oldb at hc1
                    generalize (g i)[q] = c at *
                    generalize (g i).length = gl at *
                    clear HL4 HRow HT HIn hns hTi
                    go_wp2_with fail
                    exact ⟨⟨q + 1, by go_num, by omega, L5⟩, by simp [intOf]; omega⟩
                  | false =>
                    have L5 : Hid (Fill wr w1.heap.size 4 n (boolV (turnK g M (i + 1))) ∧ Below w1.heap.size w1 wr) := hid7 (by rw [HT.out, swp_no hTi]; rw [swp_no hTi] at HL4; exact HL4.out)
                    rw [hTi] at hmi
                    generalize (g i)[q] = c at *
                    generalize (g i).length = gl at *
                    clear HL4 HRow HT HIn hns hTi hc1 hc2
                    go_wp2_with fail
                    exact ⟨⟨i + 1, by go_num, by omega, L5⟩, by simp [intOf]; omega⟩
                · obtain rfl : q = (g i).length := by omega
                  have L5 : Hid (Fill wr w1.heap.size 4 n (boolV (turnK g M (i + 1))) ∧ Below w1.heap.size w1 wr) := hid7 (by rw [HT.out]; exact HL4.out)
                  generalize (g i).length = gl at *
                  clear HL4 HRow HT HIn hns
                  go_wp2_with fail
                  exact ⟨⟨i + 1, by go_num, by omega, L5⟩, by simp [intOf]; omega⟩
            · obtain rfl : i = n := by omega
              have L5 : Hid (Fill wr w1.heap.size 4 i (boolV (reachN i g k (t + 1))) ∧ Below w1.heap.size w1 wr) := hid7 (by rw [HM.out]; exact HL2.out)
              clear HL2 HM HRow HIn
              go_wp2_with fail
              exact ⟨⟨t + 1, by go_num, by omega, L5⟩, by simp [intOf]; omega⟩
        · obtain rfl : t = n := by omega
          generalize reachN t g k t = RN at *
          clear HRow HIn
          obtain ⟨wo, rfl⟩ : ∃ wo, wo = wr := ⟨_, rfl⟩
          have s0 : w1.heap.size ≤ wo.heap.size := HL.out.2.size
          have HF : Hid (∀ W, Below wo.heap.size wo W → ∀ i < t, W.cell? ⟨w1.heap.size, i, none⟩ = some (.bool (RN i))) := hid7 fun W hW i hi => (HL.out.1.keep (hW.block _ HL.out.1.lt)).cell hi
          have HB : Hid (∀ W, Below wo.heap.size wo W → Below w.heap.size w W) := hid7 fun W hW => (B1.out.trans (HL.out.2.mono B1.out.size)).trans (hW.mono (Nat.le_trans B1.out.size s0))
          clear HL
          go_wp2_with fail
          go_loopw [11, 12] (fun lv iv wr => ∃ i : Nat, iv = .int .i64 i ∧ i ≤ t ∧ Hid (wr.ownsRow wo.heap.size 3 1 lv (rowI ((List.range i).filter RN)).length (cellsN (rowI ((List.range i).filter RN))) ∧ Below wo.heap.size wo wr)) (fun _ iv _ => t - (intOf iv).toNat)
          case atStart => exact ⟨0, rfl, Nat.zero_le _, hid7 ⟨World.ownsRow_nil _ _ _ _, Below.refl _ _⟩⟩
          case round =>
            obtain ⟨i, rfl, hi, HI⟩ := hrel
            obtain ⟨la, lc, elv, hlc, _⟩ := row_form HI.out.1
            subst elv
            have hll := filt_len RN i
            have s1 : wo.heap.size ≤ wr.heap.size := HI.out.2.size
            by_cases hit : i < t
            · have hci := HF.out wr HI.out.2 i hit
              have hS := filt_succ RN i
              obtain ⟨al, hal⟩ : ∃ al, al = (rowI ((List.range i).filter RN)).length := ⟨_, rfl⟩
              rw [← hal] at hll hlc HI ⊢
              have HAL := hid7 hal
              clear hal
              cases hc : RN i with
              | true =>
                rw [hc] at hci hS
                have HS : Hid (rowI ((List.range (i + 1)).filter RN) = rowI ((List.range i).filter RN) ++ [(i : Int)]) := hid7 (by rw [hS]; simp)
                have R4 : Hid ((wr.alloc (.cells #[.int .i64 (i : Int)] 3)).ownsRow wo.heap.size 3 1 (.slice la al lc) al (cellsN (rowI ((List.range i).filter RN)))) := hid7 (HI.out.1.alloc _)
                clear hS hc HF HB HE
                go_wp2_with (first
                  | (at_builtin; refine wpList_appN _ rfl _ _ 36 rfl elemN_int wo.heap.size _ al (cellsN (rowI ((List.range i).filter RN))) rfl R4.out _ rfl 1 [.int .i64 (i : Int)] (.inr ⟨⟨_, 0, none⟩, 1, rfl, cells_new8 _ [.int .i64 (i : Int)] 3 _ rfl⟩) rfl (by simp [Value.oneCell']) (by unfold maxLen; omega) (by omega) (by simp; omega) ?_; intro v' w6 hr6 hs6)
                  | fail)
                have bA : Below wr.heap.size wr (wr.alloc (.cells #[.int .i64 (i : Int)] 3)) := (Below.refl _ _).alloc (Nat.le_refl _) _
                have b6 := hs6.below (B := wo.heap.size) (by simp; omega) (fun g e => (R4.out.lt g e).1)
                refine ⟨⟨i + 1, by go_num, by omega, hid7 ⟨?_, (HI.out.2.trans (bA.mono s1)).trans b6⟩⟩, by simp [intOf]; omega⟩
                rw [HS.out, List.length_append, List.length_singleton, ← HAL.out, show cellsN (rowI ((List.range i).filter RN) ++ [(i : Int)]) = cellsN (rowI ((List.range i).filter RN)) ++ [.int .i64 (i : Int)] by simp [cellsN]]
                exact hr6
              | false =>
                rw [hc] at hci hS
                have HS : Hid (rowI ((List.range (i + 1)).filter RN) = rowI ((List.range i).filter RN)) := hid7 (by rw [hS]; simp)
                clear hS hc HF HB HE
                go_wp2_with fail
                refine ⟨⟨i + 1, by go_num, by omega, hid7 ⟨?_, HI.out.2⟩⟩, by simp [intOf]; omega⟩
                rw [HS.out, ← HAL.out]
                exact HI.out.1
            · obtain rfl : i = t := by omega
              have hE := HE.out wr _ rfl la lc (nst_own HI.out.1).ns (HB.out wr HI.out.2)
              have hle : (rowI ((List.range i).filter RN)).length = ((List.range i).filter RN).length := by simp [rowI]
              rw [← hle] at hE
              have HE2 := hid7 hE
              generalize (rowI ((List.range i).filter RN)).length = al at *
              clear hE hle HE HB HF HI
              go_wp2_with fail
              go_ret
              exact HE2.out
    · have HE : Hid (∀ W, Below w.heap.size w W → ReachEnd (reachS s f) w (.returned (.slice none 0 0)) W) := hid7 fun W hW => by
        rw [reachS, if_neg (fun h => hf h.2)]
        exact ⟨none, 0, rfl, .inl rfl, hW⟩
      have t1 : f < 0 ∨ (s.funcs.length : Int) ≤ f := by omega
      generalize reachS s f = RR at HE ⊢
      obtain ⟨fl, hfe⟩ : ∃ fl, fl = s.funcs.length := ⟨_, rfl⟩
      rw [← hfe] at HG r1 t1 ⊢
      generalize s.consts.length = cl at HG ⊢
      clear hG hr r2 r3 i1 i2 i3 i4 n0 n1 hsf hfe b1 hf hI64
      by_cases h0 : f < 0
      · clear t1
        go_enter Try.func15, Try.ntmps15
        go_wp2_with (first | (go_at_call 10; refine HG.out.mono ?_; clear HG; rintro e w1 ⟨ga, gc, rfl, K1⟩) | fail)
        go_ret
        exact HE.out _ K1.out.2
      · have t2 : (fl : Int) ≤ f := by omega
        clear t1
        go_enter Try.func15, Try.ntmps15
        go_wp2_with (first | (go_at_call 10; refine HG.out.mono ?_; clear HG; rintro e w1 ⟨ga, gc, rfl, K1⟩) | fail)
        go_ret
        exact HE.out _ K1.out.2
  · have HG : Hid (Calls Try.prog 10 #[.agg #[.slice a0 s.consts.length c0, .slice a1 s.funcs.length c1]] (w.alloc (.cells #[.slice a0 s.consts.length c0, .slice a1 s.funcs.length c1] 25)) fun e w1 => e = .returned (.tuple #[.slice none 0 0, .int .i64 30]) ∧ Hid (ReachEnd (reachS s f) w (.returned (.slice none 0 0)) w1)) := hid7 (hG.mono fun e w1 ⟨h1, h2⟩ => by
      rw [if_neg hr] at h1
      refine ⟨h1, hid7 ?_⟩
      rw [reachS, if_neg (fun h => hr h.1)]
      exact ⟨none, 0, rfl, .inl rfl, b1.trans (h2.mono b1.size)⟩)
    generalize reachS s f = RR at HG ⊢
    generalize s.consts.length = cl at HG ⊢
    generalize s.funcs.length = fl at HG ⊢
    clear hG hr n0 n1 hsf b1 hI64
    go_enter Try.func15, Try.ntmps15
    go_wp2_with (first | (go_at_call 10; refine HG.out.mono ?_; clear HG; rintro e w1 ⟨rfl, K1⟩) | fail)
    go_ret
    exact K1.out
end Go.Proofs.Ytikomfbpaimnmaa
