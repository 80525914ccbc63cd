/- The document's Clone: all its rows are its own, and apart. A copy that grows: a constant more, a function more, a local more (TypesMore). -/
import Derived.Test.YtpmlnkjamhelnaaGreatRK
namespace Go.Proofs.YtpmlnkjamhelnaaGreat
open Go.RowKit
/-- The copy: the constants' row and the functions' row are its own, and so is each row of numbers. -/
def CloneAll (s : Scr) (w : World) (e : Ending) (w' : World) : Prop := ∃ u0 u1 xs γ B fb, e = .returned (.agg #[u0, u1]) ∧ Below w.heap.size w w' ∧ w.heap.size ≤ B ∧ B < w'.heap.size ∧ w'.ownsRow w.heap.size 9 1 u0 s.consts.length (cellsS s.consts) ∧ w'.ownsRow fb 49 4 u1 s.funcs.length xs ∧ w.heap.size ≤ fb ∧ FRo (offH w' u1 B) γ s.funcs xs
set_option maxRecDepth 100000 in
set_option maxHeartbeats 1000000 in
theorem rclone_all (s : Scr) (v0 v1 : Value) (w : World) (hS : ScIs w.cell? s v0 v1) (hfit : s.fits) : Calls Tryz.prog 12 #[.agg #[v0, v1]] w (CloneAll s w) := by
  obtain ⟨⟨a0, c0, rfl, h0⟩, ⟨a1, c1, rfl, h1⟩⟩ := hS
  obtain ⟨hfc, hff, hfe, _⟩ := hfit
  obtain ⟨N, hN⟩ : ∃ N, N = s.funcs.length := ⟨_, rfl⟩
  rw [← hN] at hff ⊢
  obtain ⟨M, hM⟩ : ∃ M, M = s.consts.length := ⟨_, rfl⟩
  have hLC : ∀ W, (∀ a v, w.cell? a = some v → W.cell? a = some v) → Lies W (.slice a0 M c0) M (cellsS s.consts) := fun W hk => by rw [hM]; exact (h0.keep hk).lies c0
  have hcl : (cellsS s.consts).length = M * 1 := by rw [cellsS_len, hM]
  rw [← hM] at hfc ⊢
  have HN : Hid (N = s.funcs.length) := hN
  have HM : Hid (M = s.consts.length) := hM
  clear hN hM
  have hrow0 : (((w.alloc (.cells #[.slice a0 M c0, .slice a1 N c1] 27)).alloc (.cells #[.slice none 0 0, .slice none 0 0] 27)).alloc (.cells #[] 9)).ownsRow (w.heap.size + 2) 9 1 (.slice (some ⟨w.heap.size + 1 + 1, 0, none⟩) 0 0) 0 [] := by
    have := row_lit0 ((w.alloc (.cells #[.slice a0 M c0, .slice a1 N c1] 27)).alloc (.cells #[.slice none 0 0, .slice none 0 0] 27)) 9 1 (w.heap.size + 2) (by simp)
    simpa only [World.size_alloc] using this
  have hLC0 := hLC (((w.alloc (.cells #[.slice a0 M c0, .slice a1 N c1] 27)).alloc (.cells #[.slice none 0 0, .slice none 0 0] 27)).alloc (.cells #[] 9)) (fun a v h => keepA _ _ _ _ (keepA _ _ _ _ (keepA _ _ _ _ h)))
  go_enter Tryz.func12, Tryz.ntmps12
  go_wp2_with (at_builtin; go_loud (refine wpList_appN _ rfl _ _ _ rfl elemN_str (w.heap.size + 2) _ 0 [] rfl hrow0 _ rfl M (cellsS s.consts) hLC0 hcl (cellsS_one _) (by unfold maxLen; omega) (by omega) (by simp) ?_))
  intro v2 w2 hr2 hs2
  obtain ⟨a2, k2, rfl, hk2, _, _⟩ := row_form hr2
  have HR2 : Hid (∀ V, Below w2.heap.size w2 V → V.ownsRow (w.heap.size + 2) 9 1 (.slice a2 M k2) M (cellsS s.consts)) := hid fun V h => row_below2 hr2 h
  obtain ⟨n0, hn0⟩ : ∃ n0, n0 = w.heap.size := ⟨_, rfl⟩
  have e1 : w2.heap[w.heap.size]? = some (.cells #[.slice a0 M c0, .slice a1 N c1] 27 (0, 0)) := by
    rw [hs2.1.block _ (by simp; omega) (by simp [Value.ownBlock]; omega)]
    rw [Below.heap_alloc _ _ _ (by simp; omega), Below.heap_alloc _ _ _ (by simp)]
    exact heap_alloc_new w _
  have e2 : w2.heap[w.heap.size + 1]? = some (.cells #[.slice none 0 0, .slice none 0 0] 27 (0, 0)) := by
    rw [hs2.1.block _ (by simp) (by simp [Value.ownBlock])]
    rw [Below.heap_alloc _ _ _ (by simp)]
    have := heap_alloc_new (w.alloc (.cells #[.slice a0 M c0, .slice a1 N c1] 27)) (.cells #[.slice none 0 0, .slice none 0 0] 27)
    simpa using this
  have hbw2 : Below w.heap.size w w2 := ((((Below.refl _ w).alloc (Nat.le_refl _) _).alloc (by simp) _).alloc (by simp; omega) _).trans (hs2.below (by simp; omega) (fun k h => by simp [Value.ownBlock] at h; omega))
  clear hs2 hrow0 hLC0 hLC hcl hr2
  have hw3 : Below w2.heap.size w2 (w2.alloc (.cells #[.slice a2 M k2, .slice none 0 0] 27)) := (Below.refl _ w2).alloc (Nat.le_refl _) _
  have hB3 := heap_alloc_new w2 (.cells #[.slice a2 M k2, .slice none 0 0] 27)
  go_wp2
  generalize w2.alloc (.cells #[.slice a2 M k2, .slice none 0 0] 27) = w3 at *
  have e1' := (hw3.block _ (Array.getElem?_eq_some_iff.1 e1).1).trans e1
  have e2' := (hw3.block _ (Array.getElem?_eq_some_iff.1 e2).1).trans e2
  have l1 := (Array.getElem?_eq_some_iff.1 e1).1
  have l2 := (Array.getElem?_eq_some_iff.1 e2).1
  have lB := (Array.getElem?_eq_some_iff.1 hB3).1
  generalize w2.heap.size = B at *
  clear e1 e2
  go_loopw [4] (fun i wr => ∃ (k : Nat) (vF : Value) (xs : List Value) (γ : Nat → Nat), k ≤ N ∧ i = .int .i64 k ∧ wr.heap[B]? = some (.cells #[.slice a2 M k2, vF] 27 (0, 0)) ∧ wr.ownsRow (B + 1) 49 4 vF k xs ∧ Hid (FRo (offH wr vF B) γ (s.funcs.take k) xs) ∧ Below B w3 wr) (fun i _ => N - (intOf i).toNat)
  case atStart => exact ⟨0, .slice none 0 0, [], fun _ => 0, Nat.zero_le _, rfl, hB3, World.ownsRow_nil _ _ _ _, FRo.nil _ _, Below.refl _ _⟩
  case round =>
    obtain ⟨k, vF, xs, γ0, hk, rfl, hob, hrow, hFR, hlow⟩ := hrel
    have eP := (hlow.block _ l1).trans e1'
    have eR := (hlow.block _ l2).trans e2'
    have p1 : wr.cell? ⟨w.heap.size, 1, none⟩ = some (.slice a1 N c1) := by rw [Lib.cell_of_heap eP]; rfl
    by_cases hlt : k < N
    · rcases h1 with hz | ⟨fb, fo, rfl, hfc⟩
      · have := HN.out; rw [hz] at this; simp at this; omega
      have hkl : k < s.funcs.length := by have := HN.out; omega
      obtain ⟨v0, v1, v2, v3, q0, q1, q2, q3, hfn⟩ := hfc k hkl
      have hkeep : ∀ a v, w.cell? a = some v → wr.cell? a = some v := fun a v h => by
        have hb3 : Below w.heap.size w w3 := hbw2.trans (hw3.mono (by omega))
        have hb4 : Below w.heap.size w wr := hb3.trans (hlow.mono (by omega))
        exact below_keep hb4 a v h
      replace q0 := hkeep _ _ q0
      replace q1 := hkeep _ _ q1
      replace q2 := hkeep _ _ q2
      replace q3 := hkeep _ _ q3
      have HT : Hid (s.funcs.take (k + 1) = s.funcs.take k ++ [s.funcs[k]]) := hid (by rw [List.take_add_one, List.getElem?_eq_getElem hkl]; rfl)
      have hff2 := hfe s.funcs[k] (by simp)
      generalize s.funcs[k] = f at hfn HT hff2
      obtain ⟨⟨b0, d0, rfl, g0⟩, ⟨b1, d1, rfl, g1⟩, ⟨b2, d2, rfl, g2⟩, ⟨b3, d3, rfl, g3⟩⟩ := hfn
      obtain ⟨m0, hm0⟩ : ∃ m0, m0 = f.p.length := ⟨_, rfl⟩
      obtain ⟨m1, hm1⟩ : ∃ m1, m1 = f.r.length := ⟨_, rfl⟩
      obtain ⟨m2, hm2⟩ : ∃ m2, m2 = f.l.length := ⟨_, rfl⟩
      obtain ⟨m3, hm3⟩ : ∃ m3, m3 = f.code.length := ⟨_, rfl⟩
      rw [← hm0] at q0
      rw [← hm1] at q1
      rw [← hm2] at q2
      rw [← hm3] at q3
      have HM0 := hid hm0
      have HM1 := hid hm1
      have HM2 := hid hm2
      have HM3 := hid hm3
      clear hm0 hm1 hm2 hm3 hfc
      go_wp2
      -- REGION 6
      have hvFl : ∀ j, vF.ownBlock = some j → j < wr.heap.size + 1 := fun j h => by have := (hrow.lt j h).2; omega
      have hvFB : ∀ j, vF.ownBlock = some j → B + 1 ≤ j := fun j h => (hrow.lt j h).1
      have hBr : B < wr.heap.size := (Array.getElem?_eq_some_iff.1 hob).1
      have hLies : ∀ W, Below B w3 W → Lies W (.slice b0 m0 d0) m0 (cellsN f.p) ∧ Lies W (.slice b1 m1 d1) m1 (cellsN f.r) ∧ Lies W (.slice b2 m2 d2) m2 (cellsN f.l) ∧ Lies W (.slice b3 m3 d3) m3 (cellsI f.code) := fun W hW => by
        have hk3 : ∀ a v, w.cell? a = some v → W.cell? a = some v := below_keep ((hbw2.trans (hw3.mono (by omega))).trans (hW.mono (by omega)))
        refine ⟨?_, ?_, ?_, ?_⟩
        · rw [HM0.out]; exact (g0.keep hk3).lies d0
        · rw [HM1.out]; exact (g1.keep hk3).lies d1
        · rw [HM2.out]; exact (g2.keep hk3).lies d2
        · rw [HM3.out]; exact (g3.keep hk3).lies d3
      have hl0 : (cellsN f.p).length = m0 * 1 := by rw [cellsN_len, HM0.out]
      have hl1 : (cellsN f.r).length = m1 * 1 := by rw [cellsN_len, HM1.out]
      have hl2 : (cellsN f.l).length = m2 * 1 := by rw [cellsN_len, HM2.out]
      have hl3 : (cellsI f.code).length = m3 * 2 := by rw [cellsI_len, HM3.out]
      obtain ⟨z0, z1, z2, z3⟩ := hff2
      rw [← HM0.out] at z0
      rw [← HM1.out] at z1
      rw [← HM2.out] at z2
      rw [← HM3.out] at z3
      refine wp_region_ghost (by kernel_rfl) 46 rfl (by kernel_rfl) (CGo B wr.heap.size k (.slice a2 M k2) vF (.slice b0 m0 d0) (.slice b1 m1 d1) (.slice b2 m2 d2) (.slice b3 m3 d3) (s.funcs.take (k + 1)) xs (s.funcs.take k) w3 (wr.alloc (.cells #[.slice b0 m0 d0, .slice b1 m1 d1, .slice b2 m2 d2, .slice b3 m3 d3] 49))) (CPo B wr.heap.size (wr.heap.size + 1) k vF (.slice b0 m0 d0) (.slice b1 m1 d1) (.slice b2 m2 d2) (.slice b3 m3 d3) f (s.funcs.take (k + 1))) γ0 ?start ?each ?fin
      case start =>
        refine ⟨(hlow.alloc (by omega) _).drew, by simp, heap_alloc_new wr _, fun _ => ⟨(Below.refl _ _).drew, hFR.out.keep (kp_below ((Below.refl _ wr).alloc (Nat.le_refl _) _).drew fun _ _ => rfl)⟩, fun _ => ?_, fun h => by simp at h⟩
        exact (Below.heap_alloc wr _ B hBr).trans hob
      case each =>
        intro i o ho γ listed a W hE hnl haf
        have hi : i < 23 := (Array.getElem?_eq_some_iff.1 ho).1
        have t3 : a.tmps[3]?.getD undef = .pointer (some ⟨B, 0, none⟩) := hE.rest 3 (rest_of (by kernel_rfl))
        have t5 : a.tmps[5]?.getD undef = .pointer (some ⟨wr.heap.size, 0, none⟩) := hE.rest 5 (rest_of (by kernel_rfl))
        have hG := hE.glob
        have hsW : wr.heap.size + 1 ≤ W.heap.size := by have := hG.size; simpa using this
        have hBW : B < W.heap.size := by omega
        have hoff := getD_off hnl
        have c20 : listed.getD 20 false = true → ∀ j, j ≤ 19 → listed.getD j false = true := fun h => by
          have l1 := hE.closed 20 _ rfl h ⟨1, .data⟩ (by simp) rfl
          have l19 := hE.closed 20 _ rfl h ⟨19, .data⟩ (by simp) rfl
          have l18 := hE.closed 19 _ rfl l19 ⟨18, .data⟩ (by simp) rfl
          have l5 := hE.closed 18 _ rfl l18 ⟨5, .data⟩ (by simp) rfl
          have l9 := hE.closed 18 _ rfl l18 ⟨9, .data⟩ (by simp) rfl
          have l13 := hE.closed 18 _ rfl l18 ⟨13, .data⟩ (by simp) rfl
          have l17 := hE.closed 18 _ rfl l18 ⟨17, .data⟩ (by simp) rfl
          have l0 := hE.closed 1 _ rfl l1 ⟨0, .data⟩ (by simp) rfl
          have l2 := hE.closed 5 _ rfl l5 ⟨2, .data⟩ (by simp) rfl
          have l4 := hE.closed 5 _ rfl l5 ⟨4, .data⟩ (by simp) rfl
          have l3 := hE.closed 4 _ rfl l4 ⟨3, .data⟩ (by simp) rfl
          have l6 := hE.closed 9 _ rfl l9 ⟨6, .data⟩ (by simp) rfl
          have l8 := hE.closed 9 _ rfl l9 ⟨8, .data⟩ (by simp) rfl
          have l7 := hE.closed 8 _ rfl l8 ⟨7, .data⟩ (by simp) rfl
          have l10 := hE.closed 13 _ rfl l13 ⟨10, .data⟩ (by simp) rfl
          have l12 := hE.closed 13 _ rfl l13 ⟨12, .data⟩ (by simp) rfl
          have l11 := hE.closed 12 _ rfl l12 ⟨11, .data⟩ (by simp) rfl
          have l14 := hE.closed 17 _ rfl l17 ⟨14, .data⟩ (by simp) rfl
          have l16 := hE.closed 17 _ rfl l17 ⟨16, .data⟩ (by simp) rfl
          have l15 := hE.closed 16 _ rfl l16 ⟨15, .data⟩ (by simp) rfl
          intro j hj
          match j, hj with
          | 0, _ => exact l0
          | 1, _ => exact l1
          | 2, _ => exact l2
          | 3, _ => exact l3
          | 4, _ => exact l4
          | 5, _ => exact l5
          | 6, _ => exact l6
          | 7, _ => exact l7
          | 8, _ => exact l8
          | 9, _ => exact l9
          | 10, _ => exact l10
          | 11, _ => exact l11
          | 12, _ => exact l12
          | 13, _ => exact l13
          | 14, _ => exact l14
          | 15, _ => exact l15
          | 16, _ => exact l16
          | 17, _ => exact l17
          | 18, _ => exact l18
          | 19, _ => exact l19
          | j + 20, h => omega
        have c22 : listed.getD 22 false = true → listed.getD 20 false = true := fun h => hE.closed 22 _ rfl h ⟨20, .data⟩ (by simp) rfl
        have n20 : i ≤ 19 → listed.getD 20 false = false := fun h => by
          cases hh : listed.getD 20 false with
          | false => rfl
          | true => rw [c20 hh i h] at hoff; cases hoff
        have n22 : i ≤ 20 → listed.getD 22 false = false := fun h => by
          cases hh : listed.getD 22 false with
          | false => rfl
          | true =>
            have h20 := c22 hh
            rcases Nat.lt_or_ge i 20 with h1 | h1
            · rw [n20 (by omega)] at h20; cases h20
            · obtain rfl : i = 20 := by omega
              rw [hoff] at h20; cases h20
        have dep : ∀ (j : Nat) (t : Nat) (oj : Oper), listed.getD 20 false = false → (_ : Array Oper)[j]? = some oj → listed.getD j false = true → oj.dst = some t → j ≠ 20 → PrO B wr.heap.size (wr.heap.size + 1) k vF (.slice b0 m0 d0) (.slice b1 m1 d1) (.slice b2 m2 d2) (.slice b3 m3 d3) f γ j (a.tmps[t]?.getD undef) W := fun j t oj h20 hj hl ht hne => by
          have := hE.vals j oj t hj hl ht
          unfold CPo at this
          rw [if_neg hne, h20] at this
          rcases this with ⟨h, _⟩ | h
          · cases h
          · exact h
        match i, hi, ho, hnl, haf, hoff, n20, n22 with
        | 0, _, ho, hnl, haf, hoff, n20, n22 =>
          obtain rfl := Option.some.inj ho
          exact op_value (v := .pointer (some ⟨B, 1, none⟩)) (W' := W) (by simp [execOp, go_sem, t3]) (clone_go hG hBW (Below.refl _ _) (γ' := γ) (fun _ _ => rfl) (by decide) (by decide) rfl)
        | 1, _, ho, hnl, haf, hoff, n20, n22 =>
          obtain rfl := Option.some.inj ho
          have h := dep 0 23 _ (n20 (by decide)) rfl (haf ⟨0, .data⟩ (by simp) rfl) rfl (by decide)
          simp only [PrO] at h
          have hc : W.cell? ⟨B, 1, none⟩ = some vF := by rw [Lib.cell_of_heap (hG.obox (n22 (by decide)))]; rfl
          exact op_value (v := vF) (W' := W) (by simp [execOp, go_sem, h, hc]) (clone_go hG hBW (Below.refl _ _) (γ' := γ) (fun _ _ => rfl) (by decide) (by decide) rfl)
        | 2, _, ho, hnl, haf, hoff, n20, n22 =>
          obtain rfl := Option.some.inj ho
          exact op_value (v := .slice (some ⟨W.heap.size, 0, none⟩) 0 0) (W' := W.alloc (.cells #[] 3)) (by simp [execOp, go_sem]) (clone_go hG hBW ((Below.refl _ W).alloc (Nat.le_refl _) _) (γ' := γ) (fun _ _ => rfl) (by decide) (by decide) ⟨_, rfl, hsW, heap_alloc_new W _⟩)
        | 3, _, ho, hnl, haf, hoff, n20, n22 =>
          obtain rfl := Option.some.inj ho
          exact op_value (v := .pointer (some ⟨wr.heap.size, 0, none⟩)) (W' := W) (by simp [execOp, go_sem, t5]) (clone_go hG hBW (Below.refl _ _) (γ' := γ) (fun _ _ => rfl) (by decide) (by decide) rfl)
        | 4, _, ho, hnl, haf, hoff, n20, n22 =>
          obtain rfl := Option.some.inj ho
          have h := dep 3 26 _ (n20 (by decide)) rfl (haf ⟨3, .data⟩ (by simp) rfl) rfl (by decide)
          simp only [PrO] at h
          have hc : W.cell? ⟨wr.heap.size, 0, none⟩ = some (.slice b0 m0 d0) := by rw [Lib.cell_of_heap hG.fbox]; rfl
          exact op_value (v := .slice b0 m0 d0) (W' := W) (by simp [execOp, go_sem, h, hc]) (clone_go hG hBW (Below.refl _ _) (γ' := γ) (fun _ _ => rfl) (by decide) (by decide) rfl)
        | 5, _, ho, hnl, haf, hoff, n20, n22 =>
          obtain rfl := Option.some.inj ho
          have hL := dep 2 25 _ (n20 (by decide)) rfl (haf ⟨2, .data⟩ (by simp) rfl) rfl (by decide)
          have hS := dep 4 27 _ (n20 (by decide)) rfl (haf ⟨4, .data⟩ (by simp) rfl) rfl (by decide)
          simp only [PrO] at hL hS
          obtain ⟨g, hu, hgb, hgl⟩ := hL
          refine wp_app1 W (.tmp 25) (.tmp 27) 28 rfl elemN_int g ((eval_tmp _ _).trans hu) _ ((eval_tmp _ _).trans hS) m0 (cellsN f.p) (hLies W hG.low).1 hl0 (cellsN_one _) (by unfold maxLen; omega) (by omega) ?_
          intro v' W' hr' hb'
          exact clone_go hG hBW hb' tag_old (by decide) (by decide) (own_tag (j := 3 * k) HM0.out hvFl (by omega) hgb hgl hsW hr')
        | 6, _, ho, hnl, haf, hoff, n20, n22 =>
          obtain rfl := Option.some.inj ho
          exact op_value (v := .slice (some ⟨W.heap.size, 0, none⟩) 0 0) (W' := W.alloc (.cells #[] 3)) (by simp [execOp, go_sem]) (clone_go hG hBW ((Below.refl _ W).alloc (Nat.le_refl _) _) (γ' := γ) (fun _ _ => rfl) (by decide) (by decide) ⟨_, rfl, hsW, heap_alloc_new W _⟩)
        | 7, _, ho, hnl, haf, hoff, n20, n22 =>
          obtain rfl := Option.some.inj ho
          exact op_value (v := .pointer (some ⟨wr.heap.size, 1, none⟩)) (W' := W) (by simp [execOp, go_sem, t5]) (clone_go hG hBW (Below.refl _ _) (γ' := γ) (fun _ _ => rfl) (by decide) (by decide) rfl)
        | 8, _, ho, hnl, haf, hoff, n20, n22 =>
          obtain rfl := Option.some.inj ho
          have h := dep 7 30 _ (n20 (by decide)) rfl (haf ⟨7, .data⟩ (by simp) rfl) rfl (by decide)
          simp only [PrO] at h
          have hc : W.cell? ⟨wr.heap.size, 1, none⟩ = some (.slice b1 m1 d1) := by rw [Lib.cell_of_heap hG.fbox]; rfl
          exact op_value (v := .slice b1 m1 d1) (W' := W) (by simp [execOp, go_sem, h, hc]) (clone_go hG hBW (Below.refl _ _) (γ' := γ) (fun _ _ => rfl) (by decide) (by decide) rfl)
        | 9, _, ho, hnl, haf, hoff, n20, n22 =>
          obtain rfl := Option.some.inj ho
          have hL := dep 6 29 _ (n20 (by decide)) rfl (haf ⟨6, .data⟩ (by simp) rfl) rfl (by decide)
          have hS := dep 8 31 _ (n20 (by decide)) rfl (haf ⟨8, .data⟩ (by simp) rfl) rfl (by decide)
          simp only [PrO] at hL hS
          obtain ⟨g, hu, hgb, hgl⟩ := hL
          refine wp_app1 W (.tmp 29) (.tmp 31) 28 rfl elemN_int g ((eval_tmp _ _).trans hu) _ ((eval_tmp _ _).trans hS) m1 (cellsN f.r) (hLies W hG.low).2.1 hl1 (cellsN_one _) (by unfold maxLen; omega) (by omega) ?_
          intro v' W' hr' hb'
          exact clone_go hG hBW hb' tag_old (by decide) (by decide) (own_tag (j := 3 * k + 1) HM1.out hvFl (by omega) hgb hgl hsW hr')
        | 10, _, ho, hnl, haf, hoff, n20, n22 =>
          obtain rfl := Option.some.inj ho
          exact op_value (v := .slice (some ⟨W.heap.size, 0, none⟩) 0 0) (W' := W.alloc (.cells #[] 3)) (by simp [execOp, go_sem]) (clone_go hG hBW ((Below.refl _ W).alloc (Nat.le_refl _) _) (γ' := γ) (fun _ _ => rfl) (by decide) (by decide) ⟨_, rfl, hsW, heap_alloc_new W _⟩)
        | 11, _, ho, hnl, haf, hoff, n20, n22 =>
          obtain rfl := Option.some.inj ho
          exact op_value (v := .pointer (some ⟨wr.heap.size, 2, none⟩)) (W' := W) (by simp [execOp, go_sem, t5]) (clone_go hG hBW (Below.refl _ _) (γ' := γ) (fun _ _ => rfl) (by decide) (by decide) rfl)
        | 12, _, ho, hnl, haf, hoff, n20, n22 =>
          obtain rfl := Option.some.inj ho
          have h := dep 11 34 _ (n20 (by decide)) rfl (haf ⟨11, .data⟩ (by simp) rfl) rfl (by decide)
          simp only [PrO] at h
          have hc : W.cell? ⟨wr.heap.size, 2, none⟩ = some (.slice b2 m2 d2) := by rw [Lib.cell_of_heap hG.fbox]; rfl
          exact op_value (v := .slice b2 m2 d2) (W' := W) (by simp [execOp, go_sem, h, hc]) (clone_go hG hBW (Below.refl _ _) (γ' := γ) (fun _ _ => rfl) (by decide) (by decide) rfl)
        | 13, _, ho, hnl, haf, hoff, n20, n22 =>
          obtain rfl := Option.some.inj ho
          have hL := dep 10 33 _ (n20 (by decide)) rfl (haf ⟨10, .data⟩ (by simp) rfl) rfl (by decide)
          have hS := dep 12 35 _ (n20 (by decide)) rfl (haf ⟨12, .data⟩ (by simp) rfl) rfl (by decide)
          simp only [PrO] at hL hS
          obtain ⟨g, hu, hgb, hgl⟩ := hL
          refine wp_app1 W (.tmp 33) (.tmp 35) 28 rfl elemN_int g ((eval_tmp _ _).trans hu) _ ((eval_tmp _ _).trans hS) m2 (cellsN f.l) (hLies W hG.low).2.2.1 hl2 (cellsN_one _) (by unfold maxLen; omega) (by omega) ?_
          intro v' W' hr' hb'
          exact clone_go hG hBW hb' tag_old (by decide) (by decide) (own_tag (j := 3 * k + 2) HM2.out hvFl (by omega) hgb hgl hsW hr')
        | 14, _, ho, hnl, haf, hoff, n20, n22 =>
          obtain rfl := Option.some.inj ho
          exact op_value (v := .slice (some ⟨W.heap.size, 0, none⟩) 0 0) (W' := W.alloc (.cells #[] 74)) (by simp [execOp, go_sem]) (clone_go hG hBW ((Below.refl _ W).alloc (Nat.le_refl _) _) (γ' := γ) (fun _ _ => rfl) (by decide) (by decide) ⟨_, rfl, hsW, heap_alloc_new W _⟩)
        | 15, _, ho, hnl, haf, hoff, n20, n22 =>
          obtain rfl := Option.some.inj ho
          exact op_value (v := .pointer (some ⟨wr.heap.size, 3, none⟩)) (W' := W) (by simp [execOp, go_sem, t5]) (clone_go hG hBW (Below.refl _ _) (γ' := γ) (fun _ _ => rfl) (by decide) (by decide) rfl)
        | 16, _, ho, hnl, haf, hoff, n20, n22 =>
          obtain rfl := Option.some.inj ho
          have h := dep 15 38 _ (n20 (by decide)) rfl (haf ⟨15, .data⟩ (by simp) rfl) rfl (by decide)
          simp only [PrO] at h
          have hc : W.cell? ⟨wr.heap.size, 3, none⟩ = some (.slice b3 m3 d3) := by rw [Lib.cell_of_heap hG.fbox]; rfl
          exact op_value (v := .slice b3 m3 d3) (W' := W) (by simp [execOp, go_sem, h, hc]) (clone_go hG hBW (Below.refl _ _) (γ' := γ) (fun _ _ => rfl) (by decide) (by decide) rfl)
        | 17, _, ho, hnl, haf, hoff, n20, n22 =>
          obtain rfl := Option.some.inj ho
          have hL := dep 14 37 _ (n20 (by decide)) rfl (haf ⟨14, .data⟩ (by simp) rfl) rfl (by decide)
          have hS := dep 16 39 _ (n20 (by decide)) rfl (haf ⟨16, .data⟩ (by simp) rfl) rfl (by decide)
          simp only [PrO] at hL hS
          obtain ⟨g, hu, hgb, hgl⟩ := hL
          refine wp_app0 W (.tmp 37) (.tmp 39) 47 rfl elemN_ins (wr.heap.size + 1) g hgb hgl ((eval_tmp _ _).trans hu) _ ((eval_tmp _ _).trans hS) m3 (cellsI f.code) (hLies W hG.low).2.2.2 hl3 (cellsI_one _) (by unfold maxLen; omega) (by omega) hsW ?_
          intro v' W' hr' hb'
          exact (clone_go hG hBW hb' (γ' := γ) (fun _ _ => rfl) (by decide) (by decide) (is_own hvFl (by omega) hr'))
        | 18, _, ho, hnl, haf, hoff, n20, n22 =>
          obtain rfl := Option.some.inj ho
          have h5 := dep 5 28 _ (n20 (by decide)) rfl (haf ⟨5, .data⟩ (by simp) rfl) rfl (by decide)
          have h9 := dep 9 32 _ (n20 (by decide)) rfl (haf ⟨9, .data⟩ (by simp) rfl) rfl (by decide)
          have h13 := dep 13 36 _ (n20 (by decide)) rfl (haf ⟨13, .data⟩ (by simp) rfl) rfl (by decide)
          have h17 := dep 17 40 _ (n20 (by decide)) rfl (haf ⟨17, .data⟩ (by simp) rfl) rfl (by decide)
          simp only [PrO] at h5 h9 h13 h17
          obtain ⟨x0, y0, e0, r0⟩ := h5
          obtain ⟨x1, y1, e1, r1⟩ := h9
          obtain ⟨x2, y2, e2, r2⟩ := h13
          obtain ⟨x3, y3, e3, r3⟩ := h17
          exact op_value (v := .agg #[.slice x0 f.p.length y0, .slice x1 f.r.length y1, .slice x2 f.l.length y2, .slice x3 f.code.length y3]) (W' := W) (by simp [execOp, go_sem, e0, e1, e2, e3]) (clone_go hG hBW (Below.refl _ _) (γ' := γ) (fun _ _ => rfl) (by decide) (by decide) ⟨_, _, _, _, rfl, ⟨x0, y0, rfl, r0⟩, ⟨x1, y1, rfl, r1⟩, ⟨x2, y2, rfl, r2⟩, ⟨x3, y3, rfl, r3⟩⟩)
        | 19, _, ho, hnl, haf, hoff, n20, n22 =>
          obtain rfl := Option.some.inj ho
          have h := dep 18 41 _ (n20 (by decide)) rfl (haf ⟨18, .data⟩ (by simp) rfl) rfl (by decide)
          simp only [PrO] at h
          obtain ⟨u0, u1, u2, u3, e, r⟩ := h
          obtain ⟨⟨x0, y0, rfl, r0⟩, ⟨x1, y1, rfl, r1⟩, ⟨x2, y2, rfl, r2⟩, ⟨x3, y3, rfl, r3⟩⟩ := r
          have hkp := kp_below (v := vF) (B := B) (γ := γ) (γ' := γ) ((Below.refl _ W).alloc (Nat.le_refl _) (.cells #[.slice x0 f.p.length y0, .slice x1 f.r.length y1, .slice x2 f.l.length y2, .slice x3 f.code.length y3] 49)) (fun _ _ => rfl)
          exact op_value (v := .slice (some ⟨W.heap.size, 0, none⟩) 1 1) (W' := W.alloc (.cells #[.slice x0 f.p.length y0, .slice x1 f.r.length y1, .slice x2 f.l.length y2, .slice x3 f.code.length y3] 49)) (by simp [execOp, go_sem, e]) (clone_go hG hBW ((Below.refl _ W).alloc (Nat.le_refl _) _) (γ' := γ) (fun _ _ => rfl) (by decide) (by decide) ⟨_, _, _, _, _, rfl, heap_alloc_new W _, ⟨x0, y0, rfl, r0.keep hkp⟩, ⟨x1, y1, rfl, r1.keep hkp⟩, ⟨x2, y2, rfl, r2.keep hkp⟩, IsOwn.keep ⟨x3, y3, rfl, r3⟩ hkp⟩)
        | 20, _, ho, hnl, haf, hoff, n20, n22 =>
          obtain rfl := Option.some.inj ho
          have h1 := dep 1 24 _ hoff rfl (haf ⟨1, .data⟩ (by simp) rfl) rfl (by decide)
          have h19 := dep 19 42 _ hoff rfl (haf ⟨19, .data⟩ (by simp) rfl) rfl (by decide)
          simp only [PrO] at h1 h19
          obtain ⟨g, u0, u1, u2, u3, e, hg, r⟩ := h19
          have hE5 : Below wr.heap.size wr W := ((Below.refl _ wr).alloc (Nat.le_refl _) _).trans ((hG.early hoff).1.mono (by simp))
          have hrowW := row_below2 hrow hE5
          have hFW : FRo (offH W vF B) γ (s.funcs.take (k + 1)) (xs ++ [u0, u1, u2, u3]) := by rw [HT.out]; exact (hG.early hoff).2.snoc (by rw [List.length_take, Nat.min_eq_left (by omega)]; exact r)
          obtain ⟨⟨x0, y0, rfl, r0⟩, ⟨x1, y1, rfl, r1⟩, ⟨x2, y2, rfl, r2⟩, ⟨x3, y3, rfl, r3⟩⟩ := r
          refine wp_appN W (.tmp 24) (.tmp 42) 25 rfl elemN_fn (B + 1) vF k xs ((eval_tmp _ _).trans h1) hrowW _ ((eval_tmp _ _).trans e) 1 [.slice x0 f.p.length y0, .slice x1 f.r.length y1, .slice x2 f.l.length y2, .slice x3 f.code.length y3] (.inr ⟨⟨g, 0, none⟩, 1, rfl, World.news_of_block hg⟩) rfl (by intro u hu; simp at hu; rcases hu with rfl | rfl | rfl | rfl <;> rfl) (by unfold maxLen; omega) (by omega) (by omega) ?_
          intro v' W' hr' hs'
          refine ⟨γ, v', rfl, ?_, ⟨hG.low.trans (hs'.below (by omega) (fun j h => by have := hvFB j h; omega)), Nat.le_trans hG.size hs'.size, ?_, fun h => ?_, fun _ => ?_, fun h => ?_⟩, ?_⟩
          · unfold CPo; rw [if_pos rfl]; exact .inr ⟨_, hr', hFW.keep (kp_step hs')⟩
          · rw [hs'.1.block _ (by omega) (fun h => by have := (hrow.lt _ h.symm).2; omega)]; exact hG.fbox
          · rw [getD_set, if_pos ⟨rfl, getD_lt hnl⟩] at h; cases h
          · rw [hs'.1.block _ hBW (fun h => by have := hvFB _ h.symm; omega)]; exact hG.obox (n22 (by decide))
          · rw [getD_far (by decide), n22 (by decide)] at h; cases h
          · intro j u hj hP
            have hset : (listed.setIfInBounds 20 true).getD 20 false = true := by rw [getD_set, if_pos ⟨rfl, getD_lt hnl⟩]
            unfold CPo at hP ⊢
            rw [hset, getD_far (by decide : (20 : Nat) ≠ 22)]
            by_cases hj20 : j = 20
            · subst hj20; rw [hoff] at hj; cases hj
            · rw [if_neg hj20] at hP ⊢
              by_cases hj21 : j = 21
              · subst hj21
                rcases hP with ⟨_, h⟩ | h
                · exact absurd rfl h
                · exact .inr h
              · exact .inl ⟨rfl, hj21⟩
        | 21, _, ho, hnl, haf, hoff, n20, n22 =>
          obtain rfl := Option.some.inj ho
          exact op_value (v := .pointer (some ⟨B, 1, none⟩)) (W' := W) (by simp [execOp, go_sem, t3]) (clone_go hG hBW (Below.refl _ _) (γ' := γ) (fun _ _ => rfl) (by decide) (by decide) rfl)
        | 22, _, ho, hnl, haf, hoff, n20, n22 =>
          obtain rfl := Option.some.inj ho
          have l20 := haf ⟨20, .data⟩ (by simp) rfl
          have l21 := haf ⟨21, .data⟩ (by simp) rfl
          have h21 : a.tmps[44]?.getD undef = .pointer (some ⟨B, 1, none⟩) := by
            have := hE.vals 21 _ 44 rfl l21 rfl
            unfold CPo at this
            rw [if_neg (by decide)] at this
            rcases this with ⟨_, h⟩ | h
            · exact absurd rfl h
            · exact h
          have h20 : NewRo B k (s.funcs.take (k + 1)) γ (a.tmps[43]?.getD undef) W := by
            have := hE.vals 20 _ 43 rfl l20 rfl
            unfold CPo at this
            rw [if_pos rfl, hoff] at this
            rcases this with h | h
            · cases h
            · exact h
          obtain ⟨u, hu⟩ : ∃ u, u = a.tmps[43]?.getD undef := ⟨_, rfl⟩
          rw [← hu] at h20
          have hu := hu.symm
          have hob' := hG.obox hoff
          have hc1 : W.cell? ⟨B, 1, none⟩ = some vF := by rw [Lib.cell_of_heap hob']; rfl
          have hf1 := Lib.frozen_of_heap hob' 1
          obtain ⟨xs', hr', hF'⟩ := h20
          obtain ⟨ua, uc, rfl, _, _, _⟩ := row_form hr'
          refine op_skip (W' := W.setCell ⟨B, 1, none⟩ (.slice ua (k + 1) uc)) (by simp [execOp, go_sem, h21, hu, hc1, hf1]) ⟨γ, undef, rfl, ?_, ⟨hG.low.setCell (p := ⟨B, 1, none⟩) (Nat.le_refl _) _, by simpa using hG.size, ?_, fun h => ?_, fun h => ?_, fun _ => ⟨.slice ua (k + 1) uc, ?_, xs', ?_, hF'.keep (kp_set (Nat.le_refl _))⟩⟩, ?_⟩
          · unfold CPo; rw [if_neg (by decide)]; exact .inr trivial
          · rw [Below.heap_setCell _ _ _ _ (by simp; omega)]; exact hG.fbox
          · rw [getD_far (by decide), l20] at h; cases h
          · rw [getD_set, if_pos ⟨rfl, getD_lt hnl⟩] at h; cases h
          · simp [World.setCell, Array.getElem?_modify, hob']
          · exact ownsRow_setCell_other' hr' (by omega) _
          · intro j u hj hP
            have hset : (listed.setIfInBounds 22 true).getD 22 false = true := by rw [getD_set, if_pos ⟨rfl, getD_lt hnl⟩]
            unfold CPo at hP ⊢
            rw [hset, getD_far (by decide : (22 : Nat) ≠ 20), l20]
            by_cases hj20 : j = 20
            · rw [if_pos hj20]; exact .inl rfl
            · rw [if_neg hj20] at hP ⊢
              by_cases hj21 : j = 21
              · subst hj21
                rcases hP with ⟨_, h⟩ | h
                · exact absurd rfl h
                · exact .inr h
              · exact .inl ⟨rfl, hj21⟩
        | i + 23, hi, _, _, _, _, _, _ => omega
      case fin =>
        intro γ1 a W hE
        obtain ⟨u, hb1, xs', hr', hF'⟩ := hE.glob.fin (by rfl)
        have hsz := hE.tsize
        have hdf := hE.defers
        have hlo := hE.glob.low
        have r := fun t h => hE.rest t h
        obtain ⟨tm, df⟩ := a
        simp only at hsz hdf r
        have htm := arr_out 46 tm (by rw [hsz]; rfl) undef
        simp only [List.range, List.range.loop, List.map_cons, List.map_nil] at htm
        rw [show tm[0]?.getD undef = _ from r 0 (rest_of (by kernel_rfl))] at htm
        rw [show tm[1]?.getD undef = _ from r 1 (rest_of (by kernel_rfl))] at htm
        rw [show tm[2]?.getD undef = _ from r 2 (rest_of (by kernel_rfl))] at htm
        rw [show tm[3]?.getD undef = _ from r 3 (rest_of (by kernel_rfl))] at htm
        rw [show tm[4]?.getD undef = _ from r 4 (rest_of (by kernel_rfl))] at htm
        rw [show tm[5]?.getD undef = _ from r 5 (rest_of (by kernel_rfl))] at htm
        rw [show tm[6]?.getD undef = _ from r 6 (rest_of (by kernel_rfl))] at htm
        rw [show tm[7]?.getD undef = _ from r 7 (rest_of (by kernel_rfl))] at htm
        rw [show tm[8]?.getD undef = _ from r 8 (rest_of (by kernel_rfl))] at htm
        rw [show tm[9]?.getD undef = _ from r 9 (rest_of (by kernel_rfl))] at htm
        rw [show tm[10]?.getD undef = _ from r 10 (rest_of (by kernel_rfl))] at htm
        rw [show tm[11]?.getD undef = _ from r 11 (rest_of (by kernel_rfl))] at htm
        rw [show tm[12]?.getD undef = _ from r 12 (rest_of (by kernel_rfl))] at htm
        rw [show tm[13]?.getD undef = _ from r 13 (rest_of (by kernel_rfl))] at htm
        rw [show tm[14]?.getD undef = _ from r 14 (rest_of (by kernel_rfl))] at htm
        rw [show tm[15]?.getD undef = _ from r 15 (rest_of (by kernel_rfl))] at htm
        rw [show tm[16]?.getD undef = _ from r 16 (rest_of (by kernel_rfl))] at htm
        rw [show tm[17]?.getD undef = _ from r 17 (rest_of (by kernel_rfl))] at htm
        rw [show tm[18]?.getD undef = _ from r 18 (rest_of (by kernel_rfl))] at htm
        rw [show tm[19]?.getD undef = _ from r 19 (rest_of (by kernel_rfl))] at htm
        rw [show tm[20]?.getD undef = _ from r 20 (rest_of (by kernel_rfl))] at htm
        rw [show tm[21]?.getD undef = _ from r 21 (rest_of (by kernel_rfl))] at htm
        rw [show tm[22]?.getD undef = _ from r 22 (rest_of (by kernel_rfl))] at htm
        rw [show tm[45]?.getD undef = _ from r 45 (rest_of (by kernel_rfl))] at htm
        generalize tm[23]?.getD undef = x23 at htm
        generalize tm[24]?.getD undef = x24 at htm
        generalize tm[25]?.getD undef = x25 at htm
        generalize tm[26]?.getD undef = x26 at htm
        generalize tm[27]?.getD undef = x27 at htm
        generalize tm[28]?.getD undef = x28 at htm
        generalize tm[29]?.getD undef = x29 at htm
        generalize tm[30]?.getD undef = x30 at htm
        generalize tm[31]?.getD undef = x31 at htm
        generalize tm[32]?.getD undef = x32 at htm
        generalize tm[33]?.getD undef = x33 at htm
        generalize tm[34]?.getD undef = x34 at htm
        generalize tm[35]?.getD undef = x35 at htm
        generalize tm[36]?.getD undef = x36 at htm
        generalize tm[37]?.getD undef = x37 at htm
        generalize tm[38]?.getD undef = x38 at htm
        generalize tm[39]?.getD undef = x39 at htm
        generalize tm[40]?.getD undef = x40 at htm
        generalize tm[41]?.getD undef = x41 at htm
        generalize tm[42]?.getD undef = x42 at htm
        generalize tm[43]?.getD undef = x43 at htm
        generalize tm[44]?.getD undef = x44 at htm
        simp only [List.getElem?_toArray, List.getElem?_cons_zero, List.getElem?_cons_succ, Option.getD_some] at htm
        subst htm
        have hdf : df = [] := hdf
        subst hdf
        clear r hsz hE
        go_wp2
        exact ⟨⟨k + 1, u, xs', γ1, by omega, by go_num, hb1, hr', hid hF', hlo⟩, by simp [intOf]; omega⟩
    -- DONE
    · obtain rfl : k = N := by omega
      have htk : s.funcs.take k = s.funcs := List.take_of_length_le (by have := HN.out; omega)
      have hF := hFR.out
      rw [htk] at hF
      obtain ⟨fa, fc, rfl, _, _, _⟩ := row_form hrow
      have o0 : wr.cell? ⟨B, 0, none⟩ = some (.slice a2 M k2) := by rw [Lib.cell_of_heap hob]; rfl
      have o1 : wr.cell? ⟨B, 1, none⟩ = some (.slice fa k fc) := by rw [Lib.cell_of_heap hob]; rfl
      have r0 : wr.cell? ⟨w.heap.size + 1, 0, none⟩ = some (.slice none 0 0) := by rw [Lib.cell_of_heap eR]; rfl
      have r1 : wr.cell? ⟨w.heap.size + 1, 1, none⟩ = some (.slice none 0 0) := by rw [Lib.cell_of_heap eR]; rfl
      have f0 := Lib.frozen_of_heap eR 0
      have f1 := Lib.frozen_of_heap eR 1
      go_wp2
      have hbl : Below w.heap.size w wr := (hbw2.trans (hw3.mono (by omega))).trans (hlow.mono (by omega))
      have hb' : Below w.heap.size w ((wr.setCell ⟨w.heap.size + 1, 0, none⟩ (.slice a2 M k2)).setCell ⟨w.heap.size + 1, 1, none⟩ (.slice fa k fc)) := (hbl.setCell (p := ⟨w.heap.size + 1, 0, none⟩) (by simp) _).setCell (p := ⟨w.heap.size + 1, 1, none⟩) (by simp) _
      have hrow' := ownsRow_setCell_other' (o := 1) (ownsRow_setCell_other' (o := 0) hrow (B := w.heap.size + 1) (by omega) (.slice a2 M k2)) (B := w.heap.size + 1) (by omega) (.slice fa k fc)
      have hF2 := (hF.keep (kp_set (γ := γ0) (b := w.heap.size + 1) (o := 0) (u := .slice a2 M k2) (by omega))).keep (kp_set (γ := γ0) (b := w.heap.size + 1) (o := 1) (u := .slice fa k fc) (by omega))
      have hC0 := HR2.out wr (hw3.trans hlow)
      have hC := ownsRow_setCell_other' (o := 1) (ownsRow_setCell_other' (o := 0) hC0 (B := w.heap.size + 1) (by omega) (.slice a2 M k2)) (B := w.heap.size + 1) (by omega) (.slice fa k fc)
      refine ret_scr (b := w.heap.size + 1) rfl rfl rfl (x := .slice a2 M k2) (y := .slice fa k fc) ?_ ?_ ⟨_, _, xs, γ0, B, B + 1, rfl, hb', by omega, by simpa using (Array.getElem?_eq_some_iff.1 hob).1, by rw [← HM.out]; exact row_down hC (by omega), by rw [← HN.out]; exact hrow', by omega, hF2⟩
      · have h1 : (wr.setCell ⟨w.heap.size + 1, 0, none⟩ (.slice a2 M k2)).cell? ⟨w.heap.size + 1, 0, none⟩ = some (.slice a2 M k2) := World.cell?_setCell_same _ _ _ r0
        rw [World.cell?_setCell_other _ _ _ _ (by simp)]
        exact h1
      · have h1 : (wr.setCell ⟨w.heap.size + 1, 0, none⟩ (.slice a2 M k2)).cell? ⟨w.heap.size + 1, 1, none⟩ = some (.slice none 0 0) := by rw [World.cell?_setCell_other _ _ _ _ (by simp)]; exact r1
        exact World.cell?_setCell_same _ _ _ h1
end Go.Proofs.YtpmlnkjamhelnaaGreat
namespace Go.Proofs.YtpmlnkjamhelnaaGreat
open Go.RowKit
/-- Blocks of numbers and of instructions stay, and stay whose they are. -/
def KpT (H H' : Nat → Option Obj) (γ γ' : Nat → Nat) : Prop := ∀ g cur t z, t = 3 ∨ t = 74 → H g = some (.cells cur t z) → H' g = some (.cells cur t z) ∧ γ' g = γ g
theorem Kp.t' {H H' : Nat → Option Obj} {γ γ' : Nat → Nat} (h : Kp H H' γ γ') : KpT H H' γ γ' := fun g _ _ _ _ hg => ⟨h.h g _ hg, h.t g _ hg⟩
theorem NsOwn.keepT {H H' : Nat → Option Obj} {γ γ' : Nat → Nat} {j : Nat} {v : Value} {ns : List Int} (h : NsOwn H γ j v ns) (hk : KpT H H' γ γ') : NsOwn H' γ' j v ns := by
  obtain ⟨a, c, e, h⟩ := h
  refine ⟨a, c, e, ?_⟩
  rcases h with h | ⟨g, cur, h1, h2, h3, h4, h5, h6, h7⟩
  · exact .inl h
  · obtain ⟨q1, q2⟩ := hk g cur _ _ (.inl rfl) h2
    exact .inr ⟨g, cur, h1, q1, h3, h4, h5, h6, h7.imp id fun e => q2.trans e⟩
theorem IsOwn.keepT {H H' : Nat → Option Obj} {γ γ' : Nat → Nat} {v : Value} {cs : List (Int × Int)} (h : IsOwn H v cs) (hk : KpT H H' γ γ') : IsOwn H' v cs := by
  obtain ⟨a, c, e, h⟩ := h
  refine ⟨a, c, e, ?_⟩
  rcases h with h | ⟨g, cur, h1, h2, h3⟩
  · exact .inl h
  · exact .inr ⟨g, cur, h1, (hk g cur _ _ (.inr rfl) h2).1, h3⟩
theorem FRo.keepT {H H' : Nat → Option Obj} {γ γ' : Nat → Nat} {fs : List Fn} {xs : List Value} (h : FRo H γ fs xs) (hk : KpT H H' γ γ') : FRo H' γ' fs xs := by
  refine ⟨h.1, fun j hj => ?_⟩
  obtain ⟨v0, v1, v2, v3, q0, q1, q2, q3, ⟨f0, f1, f2, f3⟩⟩ := h.2 j hj
  exact ⟨v0, v1, v2, v3, q0, q1, q2, q3, f0.keepT hk, f1.keepT hk, f2.keepT hk, f3.keepT hk⟩
/-- A row of another type grows: those of numbers and instructions stay. -/
theorem kpT_step {w w' : World} {v u u' : Value} {B base n size : Nat} {e : TypeId} {xs : List Value} {γ : Nat → Nat} (hr : w.ownsRow base e size u n xs) (hs : Step w u w' u') (h1 : e ≠ 3) (h2 : e ≠ 74) : KpT (offH w v B) (offH w' v B) γ γ := fun g cur t z ht hg => by
  refine ⟨?_, rfl⟩
  have hl := offH_lt g _ hg
  unfold offH at hg ⊢
  split at hg
  · cases hg
  · rename_i hne
    rw [if_neg hne, hs.1.block g hl fun q => ?_]
    · exact hg
    · rcases hr.2 with ⟨rfl, _⟩ | ⟨g', cap', cur', rfl, _, hh', _⟩
      · cases q
      · cases q
        rw [hg] at hh'
        cases hh'
        rcases ht with ht | ht
        · exact h1 ht
        · exact h2 ht
theorem row_stepM {w w' : World} {base base' n n' size size' : Nat} {e e' : TypeId} {v v' u : Value} {xs ys : List Value} (h : w.ownsRow base e size v n xs) (hr : w.ownsRow base' e' size' u n' ys) (hs : Step w u w' v') (hne : e ≠ e') : w'.ownsRow base e size v n xs := by
  refine ⟨h.1, ?_⟩
  rcases h.2 with h2 | ⟨g, cap, cur, rfl, hg, hh, r⟩
  · exact .inl h2
  · refine .inr ⟨g, cap, cur, rfl, hg, ?_, r⟩
    rw [hs.1.block g (Array.getElem?_eq_some_iff.1 hh).1 fun q => ?_]
    · exact hh
    · rcases hr.2 with ⟨rfl, _⟩ | ⟨g', cap', cur', rfl, _, hh', _⟩
      · cases q
      · cases q
        rw [hh] at hh'
        cases hh'
        exact hne rfl
theorem box_step {w w' : World} {base n size b : Nat} {e t : TypeId} {u u' : Value} {xs : List Value} {cs : Array Value} {z : Nat × Nat} (h : w.heap[b]? = some (.cells cs t z)) (hr : w.ownsRow base e size u n xs) (hs : Step w u w' u') (hne : t ≠ e) : w'.heap[b]? = some (.cells cs t z) := by
  rw [hs.1.block b (Array.getElem?_eq_some_iff.1 h).1 fun q => ?_]
  · exact h
  · rcases hr.2 with ⟨rfl, _⟩ | ⟨g', cap', cur', rfl, _, hh', _⟩
    · cases q
    · cases q
      rw [h] at hh'
      cases hh'
      exact hne rfl
/-- The copy in its box. -/
structure Mo (sb : Nat) (sc : Array Value) (cs : List (List UInt8)) (fs : List Fn) (base B tb : Nat) (u0 u1 : Value) (xs : List Value) (γ : Nat → Nat) (w0 W : World) : Prop where
  bel : Below w0.heap.size w0 W
  low : w0.heap.size ≤ base
  tbl : w0.heap.size ≤ tb
  siz : base ≤ W.heap.size
  Bs : B < W.heap.size
  Bl : w0.heap.size ≤ B
  box : W.heap[tb]? = some (.cells #[u0, u1] 27 (0, 0))
  sbx : W.heap[sb]? = some (.cells sc 27 (0, 0))
  sne : sb ≠ tb
  c : W.ownsRow base 9 1 u0 cs.length (cellsS cs)
  f : W.ownsRow base 49 4 u1 fs.length xs
  r : FRo (offH W u1 B) γ fs xs
theorem Mo.below {sb : Nat} {sc : Array Value} {cs : List (List UInt8)} {fs : List Fn} {base B tb : Nat} {u0 u1 : Value} {xs : List Value} {γ γ' : Nat → Nat} {w0 W W' : World} (h : Mo sb sc cs fs base B tb u0 u1 xs γ w0 W) (hb : Below W.heap.size W W') (hγ : ∀ g, g < W.heap.size → γ' g = γ g) : Mo sb sc cs fs base B tb u0 u1 xs γ' w0 W' :=
  ⟨h.bel.trans (hb.mono h.bel.size), h.low, h.tbl, Nat.le_trans h.siz hb.size, Nat.lt_of_lt_of_le h.Bs hb.size, h.Bl, (hb.block _ (Array.getElem?_eq_some_iff.1 h.box).1).trans h.box, (hb.block _ (Array.getElem?_eq_some_iff.1 h.sbx).1).trans h.sbx, h.sne, row_below2 h.c hb, row_below2 h.f hb, h.r.keep (kp_below hb hγ)⟩
/-- A constant more. -/
theorem Mo.const {sb : Nat} {sc : Array Value} {cs : List (List UInt8)} {fs : List Fn} {base B tb : Nat} {u0 u1 v' : Value} {xs : List Value} {γ : Nat → Nat} {w0 W W' : World} {x : List UInt8} (h : Mo sb sc cs fs base B tb u0 u1 xs γ w0 W) (hr : W'.ownsRow base 9 1 v' (cs.length + 1) (cellsS cs ++ [.string ⟨x.toArray⟩])) (hs : Step W u0 W' v') : Mo sb sc (cs ++ [x]) fs base B tb v' u1 xs γ w0 (W'.setCell ⟨tb, 0, none⟩ v') := by
  have b1 : Below base W W' := hs.below h.siz fun g e => (h.c.lt g e).1
  have hbx := box_step h.box h.c hs (by decide)
  have hne : ∀ {e : TypeId} {size n : Nat} {v : Value} {ys : List Value}, W'.ownsRow base e size v n ys → e ≠ 27 → (W'.setCell ⟨tb, 0, none⟩ v').ownsRow base e size v n ys := fun {e size n v ys} hh hne => by
    refine ⟨hh.1, ?_⟩
    rcases hh.2 with h2 | ⟨g, cap, cur, rfl, hg, hg2, r⟩
    · exact .inl h2
    · refine .inr ⟨g, cap, cur, rfl, hg, ?_, r⟩
      rw [Below.heap_setCell _ _ _ _ (fun q => ?_)]
      · exact hg2
      · have q : g = tb := q
        rw [q, hbx] at hg2
        cases hg2
        exact hne rfl
  refine ⟨((h.bel.trans (b1.mono h.low))).setCell (p := ⟨tb, 0, none⟩) h.tbl _, h.low, h.tbl, ?_, ?_, h.Bl, ?_, ?_, h.sne, ?_, ?_, ?_⟩
  · have := hs.1.size; have := h.siz; simp; omega
  · have := hs.1.size; have := h.Bs; simp; omega
  · simp [World.setCell, Array.getElem?_modify, hbx]
  · rw [Below.heap_setCell _ _ _ _ h.sne]; exact box_step h.sbx h.c hs (by decide)
  · rw [List.length_append, List.length_singleton, show cellsS (cs ++ [x]) = cellsS cs ++ [.string ⟨x.toArray⟩] by simp [cellsS]]
    exact hne hr (by decide)
  · exact hne (row_stepM h.f h.c hs (by decide)) (by decide)
  · refine (h.r.keepT (kpT_step h.c hs (by decide) (by decide))).keepT fun g cur t z ht hg => ⟨?_, rfl⟩
    unfold offH at hg ⊢
    split at hg
    · cases hg
    · rename_i hn
      rw [if_neg hn, Below.heap_setCell _ _ _ _ (fun q => ?_)]
      · exact hg
      · have q : g = tb := q
        rw [q, hbx] at hg
        cases hg
        rcases ht with ht | ht <;> exact absurd ht (by decide)
/-- A function more: its numbers lie in block g. -/
theorem Mo.func {sb : Nat} {sc : Array Value} {cs : List (List UInt8)} {fs : List Fn} {base B tb g : Nat} {u0 u1 v' : Value} {xs : List Value} {γ : Nat → Nat} {w0 W W' : World} {x : Int} (h : Mo sb sc cs fs base B tb u0 u1 xs γ w0 W) (hg : W.heap[g]? = some (.cells #[.int .i64 x] 3 (0, 0))) (hgB : B < g) (hγ : γ g = 3 * fs.length) (hr : W'.ownsRow base 49 4 v' (fs.length + 1) (xs ++ [.slice (some ⟨g, 0, none⟩) 1 1, .slice none 0 0, .slice none 0 0, .slice none 0 0])) (hs : Step W u1 W' v') : Mo sb sc cs (fs ++ [⟨[x], [], [], []⟩]) base B tb u0 v' (xs ++ [.slice (some ⟨g, 0, none⟩) 1 1, .slice none 0 0, .slice none 0 0, .slice none 0 0]) γ w0 (W'.setCell ⟨tb, 1, none⟩ v') := by
  have b1 : Below base W W' := hs.below h.siz fun g e => (h.f.lt g e).1
  have hbx := box_step h.box h.f hs (by decide)
  have hne : ∀ {e : TypeId} {size n : Nat} {v : Value} {ys : List Value}, W'.ownsRow base e size v n ys → e ≠ 27 → (W'.setCell ⟨tb, 1, none⟩ v').ownsRow base e size v n ys := fun {e size n v ys} hh hne => by
    refine ⟨hh.1, ?_⟩
    rcases hh.2 with h2 | ⟨g, cap, cur, rfl, hg, hg2, r⟩
    · exact .inl h2
    · refine .inr ⟨g, cap, cur, rfl, hg, ?_, r⟩
      rw [Below.heap_setCell _ _ _ _ (fun q => ?_)]
      · exact hg2
      · have q : g = tb := q
        rw [q, hbx] at hg2
        cases hg2
        exact hne rfl
  have hgu : u1.ownBlock ≠ some g := fun q => by
    rcases h.f.2 with ⟨rfl, _⟩ | ⟨g', cap', cur', rfl, _, hh', _⟩
    · cases q
    · cases q
      rw [hg] at hh'
      cases hh'
  have hF : FRo (offH W u1 B) γ (fs ++ [⟨[x], [], [], []⟩]) (xs ++ [.slice (some ⟨g, 0, none⟩) 1 1, .slice none 0 0, .slice none 0 0, .slice none 0 0]) := by
    refine h.r.snoc ⟨⟨_, 1, rfl, .inr ⟨g, #[.int .i64 x], rfl, ?_, Nat.le_refl _, by unfold maxLen; omega, rfl, rfl, .inr hγ⟩⟩, ⟨none, 0, rfl, .inl ⟨rfl, rfl, rfl⟩⟩, ⟨none, 0, rfl, .inl ⟨rfl, rfl, rfl⟩⟩, ⟨none, 0, rfl, .inl rfl⟩⟩
    unfold offH
    rw [if_neg]
    · exact hg
    · rintro (q | q)
      · exact hgu q
      · omega
  refine ⟨((h.bel.trans (b1.mono h.low))).setCell (p := ⟨tb, 1, none⟩) h.tbl _, h.low, h.tbl, ?_, ?_, h.Bl, ?_, ?_, h.sne, ?_, ?_, ?_⟩
  · have := hs.1.size; have := h.siz; simp; omega
  · have := hs.1.size; have := h.Bs; simp; omega
  · simp [World.setCell, Array.getElem?_modify, hbx]
  · rw [Below.heap_setCell _ _ _ _ h.sne]; exact box_step h.sbx h.f hs (by decide)
  · exact hne (row_stepM h.c h.f hs (by decide)) (by decide)
  · rw [List.length_append, List.length_singleton]
    exact hne hr (by decide)
  · refine (hF.keep (kp_step hs)).keepT fun g cur t z ht hg => ⟨?_, rfl⟩
    unfold offH at hg ⊢
    split at hg
    · cases hg
    · rename_i hn
      rw [if_neg hn, Below.heap_setCell _ _ _ _ (fun q => ?_)]
      · exact hg
      · have q : g = tb := q
        rw [q, hbx] at hg
        cases hg
        rcases ht with ht | ht <;> exact absurd ht (by decide)
theorem own_row {W : World} {v u : Value} {B j : Nat} {γ : Nat → Nat} {ns : List Int} (h : NsOwn (offH W v B) γ j u ns) : W.ownsRow (B + 1) 3 1 u ns.length (cellsN ns) := by
  obtain ⟨a, c, rfl, h⟩ := h
  rcases h with ⟨rfl, rfl, rfl⟩ | ⟨g, cur, rfl, h2, h3, h4, h5, h6, _⟩
  · exact World.ownsRow_nil _ _ _ _
  · refine ⟨cellsN_len _, .inr ⟨g, c, cur, rfl, ?_, offH_le _ _ h2, h3, h4, h5, by simpa using h6⟩⟩
    unfold offH at h2
    split at h2
    · cases h2
    · rename_i hne
      rcases Nat.lt_or_ge B g with q | q
      · exact q
      · exact absurd (.inr q) hne
theorem own_at {W W' : World} {v u : Value} {B j : Nat} {γ : Nat → Nat} {ns : List Int} (h : NsOwn (offH W v B) γ j u ns) (hk : ∀ g cur, W.heap[g]? = some (.cells cur 3 (0, 0)) → γ g = j → cur.size ≠ 0 → W'.heap[g]? = some (.cells cur 3 (0, 0))) : ∃ a c, u = .slice a ns.length c ∧ NsAt W'.cell? a ns := by
  obtain ⟨a, c, rfl, h⟩ := h
  refine ⟨a, c, rfl, ?_⟩
  rcases h with ⟨rfl, rfl, rfl⟩ | ⟨g, cur, rfl, h2, h3, h4, h5, h6, h7⟩
  · exact .inl rfl
  · by_cases hc : c = 0
    · exact .inl (List.eq_nil_of_length_eq_zero (by omega))
    · have hb := hk g cur (offH_le _ _ h2) (h7.resolve_left hc) (by omega)
      refine .inr ⟨g, 0, rfl, fun j hj => ?_⟩
      rw [Nat.zero_add, Lib.cell_of_heap hb, ← Array.getElem?_toList, ← List.getElem?_take_of_lt hj, h6]
      simp [cellsN, hj]
theorem ins_at {W W' : World} {v u : Value} {B : Nat} {cs : List (Int × Int)} (h : IsOwn (offH W v B) u cs) (hk : ∀ (g : Nat) (cur : Array Value), W.heap[g]? = some (.cells cur 74 (0, 0)) → W'.heap[g]? = some (.cells cur 74 (0, 0))) : ∃ a c, u = .slice a cs.length c ∧ IsAt W'.cell? a cs := by
  obtain ⟨a, c, rfl, h⟩ := h
  refine ⟨a, c, rfl, ?_⟩
  rcases h with rfl | ⟨g, cur, rfl, h2, h3⟩
  · exact .inl rfl
  · have hb := hk g cur (offH_le _ _ h2)
    refine .inr ⟨g, 0, rfl, fun j hj => ?_⟩
    obtain ⟨g0, g1⟩ := cellsI_at cs j hj
    rw [Nat.zero_add, Lib.cell_of_heap hb, Lib.cell_of_heap hb, ← Array.getElem?_toList, ← Array.getElem?_toList, ← List.getElem?_take_of_lt (show j * 2 < cs.length * 2 by omega), ← List.getElem?_take_of_lt (show j * 2 + 1 < cs.length * 2 by omega), h3]
    exact ⟨g0, g1⟩
theorem Mo.scr {sb : Nat} {sc : Array Value} {cs : List (List UInt8)} {fs : List Fn} {base B tb : Nat} {u0 u1 : Value} {xs : List Value} {γ : Nat → Nat} {w0 W : World} (h : Mo sb sc cs fs base B tb u0 u1 xs γ w0 W) : ScIs W.cell? ⟨cs, fs⟩ u0 u1 := by
  obtain ⟨_, a0, c0, rfl, _, n0⟩ := ss_of_row h.c (C := W.cell?) fun _ _ _ q => q
  have hF : FRow W.cell? fs xs := ⟨h.r.1, fun j hj => by
    obtain ⟨v0, v1, v2, v3, q0, q1, q2, q3, ⟨f0, f1, f2, f3⟩⟩ := h.r.2 j hj
    exact ⟨v0, v1, v2, v3, q0, q1, q2, q3, own_at f0 fun _ _ q _ _ => q, own_at f1 fun _ _ q _ _ => q, own_at f2 fun _ _ q _ _ => q, ins_at f3 fun _ _ q => q⟩⟩
  obtain ⟨_, a1, c1, rfl, _, n1⟩ := fs_of_row h.f hF
  exact ⟨⟨a0, c0, rfl, n0⟩, ⟨a1, c1, rfl, n1⟩⟩
theorem row_otherM {w : World} {base n size b o : Nat} {e e' : TypeId} {v u : Value} {xs : List Value} {cs : Array Value} {z : Nat × Nat} (h : w.ownsRow base e size v n xs) (hb : w.heap[b]? = some (.cells cs e' z)) (hne : e ≠ e') : (w.setCell ⟨b, o, none⟩ u).ownsRow base e size v n xs := by
  refine ⟨h.1, ?_⟩
  rcases h.2 with h2 | ⟨g, cap, cur, rfl, hg, hh, r⟩
  · exact .inl h2
  · refine .inr ⟨g, cap, cur, rfl, hg, ?_, r⟩
    rw [Below.heap_setCell _ _ _ _ (fun q => ?_)]
    · exact hh
    · have q : g = b := q
      rw [q, hb] at hh
      cases hh
      exact hne rfl
theorem row_setM {w : World} {base n size g cap : Nat} {e : TypeId} {xs : List Value} (h : w.ownsRow base e size (.slice (some ⟨g, 0, none⟩) n cap) n xs) (o : Nat) (u : Value) : (w.setCell ⟨g, o, none⟩ u).ownsRow base e size (.slice (some ⟨g, 0, none⟩) n cap) n (xs.set o u) := by
  refine ⟨by rw [List.length_set]; exact h.1, ?_⟩
  rcases h.2 with ⟨e, _⟩ | ⟨g', cap', cur, e, hg, hh, h1, h2, h3, h4⟩
  · cases e
  · cases e
    refine .inr ⟨g, cap, cur.setIfInBounds o u, rfl, hg, ?_, h1, h2, by simpa using h3, ?_⟩
    · simp [World.setCell, Array.getElem?_modify, hh]
    · rw [Array.toList_setIfInBounds, List.take_set, h4]
/-- A local more. -/
theorem Mo.local {sb : Nat} {sc : Array Value} {cs : List (List UInt8)} {fs : List Fn} {base B tb fb fc n : Nat} {u0 v2 v' : Value} {xs : List Value} {γ : Nat → Nat} {w0 W W' : World} {x : Int} (h : Mo sb sc cs fs base B tb u0 (.slice (some ⟨fb, 0, none⟩) fs.length fc) xs γ w0 W) (hn : n < fs.length) (h2 : xs[n * 4 + 2]? = some v2) (hr : W'.ownsRow (B + 1) 3 1 v' (fs[n].l.length + 1) (cellsN fs[n].l ++ [.int .i64 x])) (hs : Step W v2 W' v') :
    ScIs (W'.setCell ⟨fb, n * 4 + 2, none⟩ v').cell? ⟨cs, fs.set n ⟨fs[n].p, fs[n].r, fs[n].l ++ [x], fs[n].code⟩⟩ u0 (.slice (some ⟨fb, 0, none⟩) fs.length fc) ∧ Below w0.heap.size w0 (W'.setCell ⟨fb, n * 4 + 2, none⟩ v') ∧ (W'.setCell ⟨fb, n * 4 + 2, none⟩ v').heap[sb]? = some (.cells sc 27 (0, 0)) := by
  obtain ⟨_, _, w2, _, _, _, z2, _, ⟨_, _, g2, _⟩⟩ := h.r.2 n hn
  rw [h2] at z2
  cases z2
  have hrow2 := own_row g2
  have hfb : base ≤ fb ∧ ∃ cur, W.heap[fb]? = some (.cells cur 49 (0, 0)) := by
    rcases h.f.2 with ⟨e, _⟩ | ⟨g', cap', cur, e, hg, hh, _⟩
    · cases e
    · cases e
      exact ⟨hg, cur, hh⟩
  obtain ⟨hfbl, curf, hfbb⟩ := hfb
  have hfb' := box_step hfbb hrow2 hs (by decide)
  have b1 : Below w0.heap.size W W' := hs.below h.bel.size fun g e => by have := (hrow2.lt g e).1; have := h.Bl; omega
  have hsb := box_step h.sbx hrow2 hs (by decide)
  refine ⟨?_, (h.bel.trans b1).setCell (p := ⟨fb, n * 4 + 2, none⟩) (Nat.le_trans h.low hfbl) _, ?_⟩
  rotate_left
  · rw [Below.heap_setCell _ _ _ _ (fun q => ?_)]
    · exact hsb
    · have q : sb = fb := q
      rw [q, hfb'] at hsb
      cases hsb
  -- blocks of numbers of others
  have hN : ∀ j g cur, j ≠ 3 * n + 2 → W.heap[g]? = some (.cells cur 3 (0, 0)) → γ g = j → cur.size ≠ 0 → (W'.setCell ⟨fb, n * 4 + 2, none⟩ v').heap[g]? = some (.cells cur 3 (0, 0)) := fun j g cur hj hg hγ hc => by
    have e1 : W'.heap[g]? = some (.cells cur 3 (0, 0)) := by
      rw [hs.1.block g (Array.getElem?_eq_some_iff.1 hg).1 fun q => ?_]
      · exact hg
      · obtain ⟨a, c, rfl, g2⟩ := g2
        rcases g2 with ⟨rfl, _⟩ | ⟨g', cur', rfl, k2, k3, k4, k5, k6, k7⟩
        · cases q
        · cases q
          have := offH_le _ _ k2
          rw [hg] at this
          cases this
          rcases k7 with k7 | k7
          · omega
          · exact hj (hγ.symm.trans k7)
    rw [Below.heap_setCell _ _ _ _ (fun q => ?_)]
    · exact e1
    · have q : g = fb := q
      rw [q, hfb'] at e1
      cases e1
  have hI : ∀ (g : Nat) (cur : Array Value), W.heap[g]? = some (.cells cur 74 (0, 0)) → (W'.setCell ⟨fb, n * 4 + 2, none⟩ v').heap[g]? = some (.cells cur 74 (0, 0)) := fun g cur hg => by
    have e1 := box_step hg hrow2 hs (by decide)
    rw [Below.heap_setCell _ _ _ _ (fun q => ?_)]
    · exact e1
    · have q : g = fb := q
      rw [q, hfb'] at e1
      cases e1
  have hrc := row_otherM (o := n * 4 + 2) (u := v') (row_stepM h.c hrow2 hs (by decide)) hfb' (by decide)
  have hrl := row_otherM (o := n * 4 + 2) (u := v') hr hfb' (by decide)
  have hrf := row_setM (row_stepM h.f hrow2 hs (by decide)) (n * 4 + 2) v'
  obtain ⟨_, a0, c0, rfl, _, n0⟩ := ss_of_row hrc (C := (W'.setCell ⟨fb, n * 4 + 2, none⟩ v').cell?) fun _ _ _ q => q
  have hx := h.r.1
  have hF : FRow (W'.setCell ⟨fb, n * 4 + 2, none⟩ v').cell? (fs.set n ⟨fs[n].p, fs[n].r, fs[n].l ++ [x], fs[n].code⟩) (xs.set (n * 4 + 2) v') := by
    refine ⟨by simp [hx], fun j hj => ?_⟩
    rw [List.length_set] at hj
    obtain ⟨v0, v1, v2', v3, q0, q1, q2, q3, ⟨f0, f1, f2, f3⟩⟩ := h.r.2 j hj
    by_cases hjn : n = j
    · subst hjn
      rw [List.getElem_set_self]
      refine ⟨v0, v1, v', v3, ?_, ?_, ?_, ?_, own_at f0 fun g cur q1 q2 q3 => hN _ g cur (by omega) q1 q2 q3, own_at f1 fun g cur q1 q2 q3 => hN _ g cur (by omega) q1 q2 q3, ?_, ins_at f3 hI⟩
      · rw [List.getElem?_set_ne (by omega)]; exact q0
      · rw [List.getElem?_set_ne (by omega)]; exact q1
      · rw [List.getElem?_set_self (by omega)]
      · rw [List.getElem?_set_ne (by omega)]; exact q3
      · rw [show cellsN fs[n].l ++ [.int .i64 x] = cellsN (fs[n].l ++ [x]) by simp [cellsN]] at hrl
        obtain ⟨_, a, c, rfl, _, nl⟩ := ns_of_row hrl (C := (W'.setCell ⟨fb, n * 4 + 2, none⟩ v').cell?) fun _ _ _ q => q
        exact ⟨a, c, by simp, nl⟩
    · rw [List.getElem_set_ne hjn]
      refine ⟨v0, v1, v2', v3, ?_, ?_, ?_, ?_, own_at f0 fun g cur q1 q2 q3 => hN _ g cur (by omega) q1 q2 q3, own_at f1 fun g cur q1 q2 q3 => hN _ g cur (by omega) q1 q2 q3, own_at f2 fun g cur q1 q2 q3 => hN _ g cur (by omega) q1 q2 q3, ins_at f3 hI⟩
      all_goals (rw [List.getElem?_set_ne (by omega)]; assumption)
  obtain ⟨_, a1, c1, e1, _, n1⟩ := fs_of_row hrf hF
  cases e1
  exact ⟨⟨a0, c0, rfl, n0⟩, ⟨some ⟨fb, 0, none⟩, fc, by simp, n1⟩⟩
end Go.Proofs.YtpmlnkjamhelnaaGreat
