/- The document's Clone. -/
import Derived.Test.YtpmlnkjamhelnaaGreatAN
import Derived.Deep.RegionLaw
namespace Go.Proofs.YtpmlnkjamhelnaaGreat
open Go.RowKit
/-- Lists that memory can bear. -/
def Fn.fits (f : Fn) : Prop := f.p.length ≤ 17592186044416 ∧ f.r.length ≤ 17592186044416 ∧ f.l.length ≤ 17592186044416 ∧ f.code.length ≤ 8796093022208
def Scr.fits (s : Scr) : Prop := s.consts.length ≤ 8796093022208 ∧ s.funcs.length ≤ 1466015503701 ∧ (∀ f ∈ s.funcs, f.fits) ∧ ∀ x ∈ s.consts, x.length ≤ 9223372036854775807
theorem keepA (w : World) (o : Obj) : ∀ a v, w.cell? a = some v → (w.alloc o).cell? a = some v := below_keep ((Below.refl _ w).alloc (Nat.le_refl _) o)
theorem results_cell1 {fn : Func} {t : Tmp} {ty : TypeId} (h : fn.results = #[.cell t ty]) (tmps : Array Value) (P : Program) (w : World) (a : Addr) (v : Value) (ha : tmps[t]?.getD undef = .pointer (some a)) (hl : (loadVar ty a).run P w = .ok v w) :
    (results fn tmps).run P w = .ok v w := by
  simp [results, h, ha, asAddr, hl]
theorem load_scr {w : World} {b : Nat} {x y : Value} (h0 : w.cell? ⟨b, 0, none⟩ = some x) (h1 : w.cell? ⟨b, 1, none⟩ = some y) : (loadVar 27 ⟨b, 0, none⟩).run Tryz.prog w = .ok (.agg #[x, y]) w := by
  simp [loadVar, go_sem, h0, h1]
theorem ret_scr {fn : Func} {R : Ending → World → Prop} {a : Act} {t : Tmp} {w : World} {b : Nat} {x y : Value} (h : fn.results = #[.cell t 27]) (ha : a.tmps[t]?.getD undef = .pointer (some ⟨b, 0, none⟩)) (hd : a.defers = []) (h0 : w.cell? ⟨b, 0, none⟩ = some x) (h1 : w.cell? ⟨b, 1, none⟩ = some y) (hR : R (.returned (.agg #[x, y])) w) : bodyPost Tryz.prog fn R .ret a w :=
  bodyPost_ret (results_cell1 h _ _ _ _ _ ha (load_scr h0 h1)) hd hR
def CloneEnd (s : Scr) (w : World) (e : Ending) (w' : World) : Prop := ∃ u0 u1, e = .returned (.agg #[u0, u1]) ∧ ScIs w'.cell? s u0 u1 ∧ Below w.heap.size w w'
set_option maxRecDepth 100000 in
set_option maxHeartbeats 1000000 in
theorem rclone_any (s : Scr) (v0 v1 : Value) (w : World) (hS : ScIs w.cell? s v0 v1) (hfit : s.fits) : Calls Tryz.prog 12 #[.agg #[v0, v1]] w (CloneEnd s w) := by
  obtain ⟨⟨a0, c0, rfl, h0⟩, ⟨a1, c1, rfl, h1⟩⟩ := hS
  obtain ⟨hfc, hff, hfe, _⟩ := hfit
  obtain ⟨N, hN⟩ : ∃ N, N = s.funcs.length := ⟨_, rfl⟩
  rw [← hN] at hff ⊢
  obtain ⟨M, hM⟩ : ∃ M, M = s.consts.length := ⟨_, rfl⟩
  have hLC : ∀ W, (∀ a v, w.cell? a = some v → W.cell? a = some v) → Lies W (.slice a0 M c0) M (cellsS s.consts) := fun W hk => by rw [hM]; exact (h0.keep hk).lies c0
  have hcl : (cellsS s.consts).length = M * 1 := by rw [cellsS_len, hM]
  rw [← hM] at hfc ⊢
  have HN : Hid (N = s.funcs.length) := hN
  have HM : Hid (M = s.consts.length) := hM
  clear hN hM
  have hrow0 : (((w.alloc (.cells #[.slice a0 M c0, .slice a1 N c1] 27)).alloc (.cells #[.slice none 0 0, .slice none 0 0] 27)).alloc (.cells #[] 9)).ownsRow (w.heap.size + 2) 9 1 (.slice (some ⟨w.heap.size + 1 + 1, 0, none⟩) 0 0) 0 [] := by
    have := row_lit0 ((w.alloc (.cells #[.slice a0 M c0, .slice a1 N c1] 27)).alloc (.cells #[.slice none 0 0, .slice none 0 0] 27)) 9 1 (w.heap.size + 2) (by simp)
    simpa only [World.size_alloc] using this
  have hLC0 := hLC (((w.alloc (.cells #[.slice a0 M c0, .slice a1 N c1] 27)).alloc (.cells #[.slice none 0 0, .slice none 0 0] 27)).alloc (.cells #[] 9)) (fun a v h => keepA _ _ _ _ (keepA _ _ _ _ (keepA _ _ _ _ h)))
  go_enter Tryz.func12, Tryz.ntmps12
  go_wp2_with (at_builtin; go_loud (refine wpList_appN _ rfl _ _ _ rfl elemN_str (w.heap.size + 2) _ 0 [] rfl hrow0 _ rfl M (cellsS s.consts) hLC0 hcl (cellsS_one _) (by unfold maxLen; omega) (by omega) (by simp) ?_))
  intro v2 w2 hr2 hs2
  obtain ⟨-, a2, k2, rfl, hk2, hss2⟩ := ss_of_row (C := offRow w2 (.slice none 0 0) (w.heap.size + 1)) (by simpa using hr2) (offRow_new (fun k h => by simp [Value.ownBlock] at h) (by omega))
  obtain ⟨n0, hn0⟩ : ∃ n0, n0 = w.heap.size := ⟨_, rfl⟩
  have e1 : w2.heap[w.heap.size]? = some (.cells #[.slice a0 M c0, .slice a1 N c1] 27 (0, 0)) := by
    rw [hs2.1.block _ (by simp; omega) (by simp [Value.ownBlock]; omega)]
    rw [Below.heap_alloc _ _ _ (by simp; omega), Below.heap_alloc _ _ _ (by simp)]
    exact heap_alloc_new w _
  have e2 : w2.heap[w.heap.size + 1]? = some (.cells #[.slice none 0 0, .slice none 0 0] 27 (0, 0)) := by
    rw [hs2.1.block _ (by simp) (by simp [Value.ownBlock])]
    rw [Below.heap_alloc _ _ _ (by simp)]
    have := heap_alloc_new (w.alloc (.cells #[.slice a0 M c0, .slice a1 N c1] 27)) (.cells #[.slice none 0 0, .slice none 0 0] 27)
    simpa using this
  have hbw2 : Below w.heap.size w w2 := ((((Below.refl _ w).alloc (Nat.le_refl _) _).alloc (by simp) _).alloc (by simp; omega) _).trans (hs2.below (by simp; omega) (fun k h => by simp [Value.ownBlock] at h; omega))
  clear hs2 hrow0 hLC0 hLC hcl hr2
  have hw3 : Below w2.heap.size w2 (w2.alloc (.cells #[.slice a2 M k2, .slice none 0 0] 27)) := (Below.refl _ w2).alloc (Nat.le_refl _) _
  have hw2l : ∀ a x, w2.cell? a = some x → a.block < w2.heap.size := fun a x h => World.block_lt_of_cell? _ _ h
  have hB3 := heap_alloc_new w2 (.cells #[.slice a2 M k2, .slice none 0 0] 27)
  go_wp2
  generalize w2.alloc (.cells #[.slice a2 M k2, .slice none 0 0] 27) = w3 at *
  have e1' := (hw3.block _ (Array.getElem?_eq_some_iff.1 e1).1).trans e1
  have e2' := (hw3.block _ (Array.getElem?_eq_some_iff.1 e2).1).trans e2
  have l1 := (Array.getElem?_eq_some_iff.1 e1).1
  have l2 := (Array.getElem?_eq_some_iff.1 e2).1
  have lB := (Array.getElem?_eq_some_iff.1 hB3).1
  generalize w2.heap.size = B at *
  clear e1 e2
  go_loopw [4] (fun i wr => ∃ (k : Nat) (vF : Value) (xs : List Value), k ≤ N ∧ i = .int .i64 k ∧ wr.heap[B]? = some (.cells #[.slice a2 M k2, vF] 27 (0, 0)) ∧ wr.ownsRow (B + 1) 49 4 vF k xs ∧ Hid (FRow (offRow wr vF B) (s.funcs.take k) xs) ∧ Below B w3 wr) (fun i _ => N - (intOf i).toNat)
  case atStart => exact ⟨0, .slice none 0 0, [], Nat.zero_le _, rfl, hB3, World.ownsRow_nil _ _ _ _, FRow.nil _, Below.refl _ _⟩
  case round =>
    obtain ⟨k, vF, xs, hk, rfl, hob, hrow, hFR, hlow⟩ := hrel
    have eP := (hlow.block _ l1).trans e1'
    have eR := (hlow.block _ l2).trans e2'
    have p1 : wr.cell? ⟨w.heap.size, 1, none⟩ = some (.slice a1 N c1) := by rw [Lib.cell_of_heap eP]; rfl
    by_cases hlt : k < N
    · rcases h1 with hz | ⟨fb, fo, rfl, hfc⟩
      · have := HN.out; rw [hz] at this; simp at this; omega
      have hkl : k < s.funcs.length := by have := HN.out; omega
      obtain ⟨v0, v1, v2, v3, q0, q1, q2, q3, hfn⟩ := hfc k hkl
      have hkeep : ∀ a v, w.cell? a = some v → wr.cell? a = some v := fun a v h => by
        have hb3 : Below w.heap.size w w3 := hbw2.trans (hw3.mono (by omega))
        have hb4 : Below w.heap.size w wr := hb3.trans (hlow.mono (by omega))
        exact below_keep hb4 a v h
      replace q0 := hkeep _ _ q0
      replace q1 := hkeep _ _ q1
      replace q2 := hkeep _ _ q2
      replace q3 := hkeep _ _ q3
      have HT : Hid (s.funcs.take (k + 1) = s.funcs.take k ++ [s.funcs[k]]) := hid (by rw [List.take_add_one, List.getElem?_eq_getElem hkl]; rfl)
      have hff2 := hfe s.funcs[k] (by simp)
      generalize s.funcs[k] = f at hfn HT hff2
      obtain ⟨⟨b0, d0, rfl, g0⟩, ⟨b1, d1, rfl, g1⟩, ⟨b2, d2, rfl, g2⟩, ⟨b3, d3, rfl, g3⟩⟩ := hfn
      obtain ⟨m0, hm0⟩ : ∃ m0, m0 = f.p.length := ⟨_, rfl⟩
      obtain ⟨m1, hm1⟩ : ∃ m1, m1 = f.r.length := ⟨_, rfl⟩
      obtain ⟨m2, hm2⟩ : ∃ m2, m2 = f.l.length := ⟨_, rfl⟩
      obtain ⟨m3, hm3⟩ : ∃ m3, m3 = f.code.length := ⟨_, rfl⟩
      rw [← hm0] at q0
      rw [← hm1] at q1
      rw [← hm2] at q2
      rw [← hm3] at q3
      have HM0 := hid hm0
      have HM1 := hid hm1
      have HM2 := hid hm2
      have HM3 := hid hm3
      clear hm0 hm1 hm2 hm3 hfc
      go_wp2
      -- REGION 6
      have hvFl : ∀ j, vF.ownBlock = some j → j < wr.heap.size + 1 := fun j h => by have := (hrow.lt j h).2; omega
      have hvFB : ∀ j, vF.ownBlock = some j → B + 1 ≤ j := fun j h => (hrow.lt j h).1
      have hBr : B < wr.heap.size := (Array.getElem?_eq_some_iff.1 hob).1
      have hLies : ∀ W, Below B w3 W → Lies W (.slice b0 m0 d0) m0 (cellsN f.p) ∧ Lies W (.slice b1 m1 d1) m1 (cellsN f.r) ∧ Lies W (.slice b2 m2 d2) m2 (cellsN f.l) ∧ Lies W (.slice b3 m3 d3) m3 (cellsI f.code) := fun W hW => by
        have hk3 : ∀ a v, w.cell? a = some v → W.cell? a = some v := below_keep ((hbw2.trans (hw3.mono (by omega))).trans (hW.mono (by omega)))
        refine ⟨?_, ?_, ?_, ?_⟩
        · rw [HM0.out]; exact (g0.keep hk3).lies d0
        · rw [HM1.out]; exact (g1.keep hk3).lies d1
        · rw [HM2.out]; exact (g2.keep hk3).lies d2
        · rw [HM3.out]; exact (g3.keep hk3).lies d3
      have hl0 : (cellsN f.p).length = m0 * 1 := by rw [cellsN_len, HM0.out]
      have hl1 : (cellsN f.r).length = m1 * 1 := by rw [cellsN_len, HM1.out]
      have hl2 : (cellsN f.l).length = m2 * 1 := by rw [cellsN_len, HM2.out]
      have hl3 : (cellsI f.code).length = m3 * 2 := by rw [cellsI_len, HM3.out]
      obtain ⟨z0, z1, z2, z3⟩ := hff2
      rw [← HM0.out] at z0
      rw [← HM1.out] at z1
      rw [← HM2.out] at z2
      rw [← HM3.out] at z3
      refine wp_region_each (by kernel_rfl) 46 rfl (by kernel_rfl) (CG B wr.heap.size k (.slice a2 M k2) vF (.slice b0 m0 d0) (.slice b1 m1 d1) (.slice b2 m2 d2) (.slice b3 m3 d3) (s.funcs.take (k + 1)) w3 (wr.alloc (.cells #[.slice b0 m0 d0, .slice b1 m1 d1, .slice b2 m2 d2, .slice b3 m3 d3] 49))) (CP B wr.heap.size (wr.heap.size + 1) k vF (.slice b0 m0 d0) (.slice b1 m1 d1) (.slice b2 m2 d2) (.slice b3 m3 d3) f (s.funcs.take (k + 1))) ?start ?each ?fin
      case start =>
        refine ⟨(hlow.alloc (by omega) _).drew, by simp, heap_alloc_new wr _, fun _ => (Below.refl _ _).drew, fun _ => ?_, fun h => by simp at h⟩
        exact (Below.heap_alloc wr _ B hBr).trans hob
      case each =>
        intro i o ho listed a W hE hnl haf
        have hi : i < 23 := (Array.getElem?_eq_some_iff.1 ho).1
        have t3 : a.tmps[3]?.getD undef = .pointer (some ⟨B, 0, none⟩) := hE.rest 3 (rest_of (by kernel_rfl))
        have t5 : a.tmps[5]?.getD undef = .pointer (some ⟨wr.heap.size, 0, none⟩) := hE.rest 5 (rest_of (by kernel_rfl))
        have hG := hE.glob
        have hsW : wr.heap.size + 1 ≤ W.heap.size := by have := hG.size; simpa using this
        have hBW : B < W.heap.size := by omega
        have hoff := getD_off hnl
        have c20 : listed.getD 20 false = true → ∀ j, j ≤ 19 → listed.getD j false = true := fun h => by
          have l1 := hE.closed 20 _ rfl h ⟨1, .data⟩ (by simp) rfl
          have l19 := hE.closed 20 _ rfl h ⟨19, .data⟩ (by simp) rfl
          have l18 := hE.closed 19 _ rfl l19 ⟨18, .data⟩ (by simp) rfl
          have l5 := hE.closed 18 _ rfl l18 ⟨5, .data⟩ (by simp) rfl
          have l9 := hE.closed 18 _ rfl l18 ⟨9, .data⟩ (by simp) rfl
          have l13 := hE.closed 18 _ rfl l18 ⟨13, .data⟩ (by simp) rfl
          have l17 := hE.closed 18 _ rfl l18 ⟨17, .data⟩ (by simp) rfl
          have l0 := hE.closed 1 _ rfl l1 ⟨0, .data⟩ (by simp) rfl
          have l2 := hE.closed 5 _ rfl l5 ⟨2, .data⟩ (by simp) rfl
          have l4 := hE.closed 5 _ rfl l5 ⟨4, .data⟩ (by simp) rfl
          have l3 := hE.closed 4 _ rfl l4 ⟨3, .data⟩ (by simp) rfl
          have l6 := hE.closed 9 _ rfl l9 ⟨6, .data⟩ (by simp) rfl
          have l8 := hE.closed 9 _ rfl l9 ⟨8, .data⟩ (by simp) rfl
          have l7 := hE.closed 8 _ rfl l8 ⟨7, .data⟩ (by simp) rfl
          have l10 := hE.closed 13 _ rfl l13 ⟨10, .data⟩ (by simp) rfl
          have l12 := hE.closed 13 _ rfl l13 ⟨12, .data⟩ (by simp) rfl
          have l11 := hE.closed 12 _ rfl l12 ⟨11, .data⟩ (by simp) rfl
          have l14 := hE.closed 17 _ rfl l17 ⟨14, .data⟩ (by simp) rfl
          have l16 := hE.closed 17 _ rfl l17 ⟨16, .data⟩ (by simp) rfl
          have l15 := hE.closed 16 _ rfl l16 ⟨15, .data⟩ (by simp) rfl
          intro j hj
          match j, hj with
          | 0, _ => exact l0
          | 1, _ => exact l1
          | 2, _ => exact l2
          | 3, _ => exact l3
          | 4, _ => exact l4
          | 5, _ => exact l5
          | 6, _ => exact l6
          | 7, _ => exact l7
          | 8, _ => exact l8
          | 9, _ => exact l9
          | 10, _ => exact l10
          | 11, _ => exact l11
          | 12, _ => exact l12
          | 13, _ => exact l13
          | 14, _ => exact l14
          | 15, _ => exact l15
          | 16, _ => exact l16
          | 17, _ => exact l17
          | 18, _ => exact l18
          | 19, _ => exact l19
          | j + 20, h => omega
        have c22 : listed.getD 22 false = true → listed.getD 20 false = true := fun h => hE.closed 22 _ rfl h ⟨20, .data⟩ (by simp) rfl
        have n20 : i ≤ 19 → listed.getD 20 false = false := fun h => by
          cases hh : listed.getD 20 false with
          | false => rfl
          | true => rw [c20 hh i h] at hoff; cases hoff
        have n22 : i ≤ 20 → listed.getD 22 false = false := fun h => by
          cases hh : listed.getD 22 false with
          | false => rfl
          | true =>
            have h20 := c22 hh
            rcases Nat.lt_or_ge i 20 with h1 | h1
            · rw [n20 (by omega)] at h20; cases h20
            · obtain rfl : i = 20 := by omega
              rw [hoff] at h20; cases h20
        have dep : ∀ (j : Nat) (t : Nat) (oj : Oper), listed.getD 20 false = false → (_ : Array Oper)[j]? = some oj → listed.getD j false = true → oj.dst = some t → j ≠ 20 → PrAt B wr.heap.size (wr.heap.size + 1) vF (.slice b0 m0 d0) (.slice b1 m1 d1) (.slice b2 m2 d2) (.slice b3 m3 d3) f j (a.tmps[t]?.getD undef) W := fun j t oj h20 hj hl ht hne => by
          have := hE.vals j oj t hj hl ht
          unfold CP at this
          rw [if_neg hne, h20] at this
          rcases this with ⟨h, _⟩ | h
          · cases h
          · exact h
        match i, hi, ho, hnl, haf, hoff, n20, n22 with
        | 0, _, ho, hnl, haf, hoff, n20, n22 =>
          obtain rfl := Option.some.inj ho
          exact op_value (v := .pointer (some ⟨B, 1, none⟩)) (W' := W) (by simp [execOp, go_sem, t3]) (clone_step hG hBW (Below.refl _ _) (by decide) (by decide) rfl)
        | 1, _, ho, hnl, haf, hoff, n20, n22 =>
          obtain rfl := Option.some.inj ho
          have h := dep 0 23 _ (n20 (by decide)) rfl (haf ⟨0, .data⟩ (by simp) rfl) rfl (by decide)
          simp only [PrAt] at h
          have hc : W.cell? ⟨B, 1, none⟩ = some vF := by rw [Lib.cell_of_heap (hG.obox (n22 (by decide)))]; rfl
          exact op_value (v := vF) (W' := W) (by simp [execOp, go_sem, h, hc]) (clone_step hG hBW (Below.refl _ _) (by decide) (by decide) rfl)
        | 2, _, ho, hnl, haf, hoff, n20, n22 =>
          obtain rfl := Option.some.inj ho
          exact op_value (v := .slice (some ⟨W.heap.size, 0, none⟩) 0 0) (W' := W.alloc (.cells #[] 3)) (by simp [execOp, go_sem]) (clone_step hG hBW ((Below.refl _ W).alloc (Nat.le_refl _) _) (by decide) (by decide) ⟨_, rfl, hsW, heap_alloc_new W _⟩)
        | 3, _, ho, hnl, haf, hoff, n20, n22 =>
          obtain rfl := Option.some.inj ho
          exact op_value (v := .pointer (some ⟨wr.heap.size, 0, none⟩)) (W' := W) (by simp [execOp, go_sem, t5]) (clone_step hG hBW (Below.refl _ _) (by decide) (by decide) rfl)
        | 4, _, ho, hnl, haf, hoff, n20, n22 =>
          obtain rfl := Option.some.inj ho
          have h := dep 3 26 _ (n20 (by decide)) rfl (haf ⟨3, .data⟩ (by simp) rfl) rfl (by decide)
          simp only [PrAt] at h
          have hc : W.cell? ⟨wr.heap.size, 0, none⟩ = some (.slice b0 m0 d0) := by rw [Lib.cell_of_heap hG.fbox]; rfl
          exact op_value (v := .slice b0 m0 d0) (W' := W) (by simp [execOp, go_sem, h, hc]) (clone_step hG hBW (Below.refl _ _) (by decide) (by decide) rfl)
        | 5, _, ho, hnl, haf, hoff, n20, n22 =>
          obtain rfl := Option.some.inj ho
          have hL := dep 2 25 _ (n20 (by decide)) rfl (haf ⟨2, .data⟩ (by simp) rfl) rfl (by decide)
          have hS := dep 4 27 _ (n20 (by decide)) rfl (haf ⟨4, .data⟩ (by simp) rfl) rfl (by decide)
          simp only [PrAt] at hL hS
          obtain ⟨g, hu, hgb, hgl⟩ := hL
          refine wp_app0 W (.tmp 25) (.tmp 27) 28 rfl elemN_int (wr.heap.size + 1) g hgb hgl ((eval_tmp _ _).trans hu) _ ((eval_tmp _ _).trans hS) m0 (cellsN f.p) (hLies W hG.low).1 hl0 (cellsN_one _) (by unfold maxLen; omega) (by omega) hsW ?_
          intro v' W' hr' hb'
          obtain ⟨hn', a', c', rfl, _, hns⟩ := ns_of_row hr' (offRow_new (v := vF) (B := B) hvFl (by omega))
          exact (clone_step hG hBW hb' (by decide) (by decide) ⟨a', c', by rw [← hn'], hns⟩)
        | 6, _, ho, hnl, haf, hoff, n20, n22 =>
          obtain rfl := Option.some.inj ho
          exact op_value (v := .slice (some ⟨W.heap.size, 0, none⟩) 0 0) (W' := W.alloc (.cells #[] 3)) (by simp [execOp, go_sem]) (clone_step hG hBW ((Below.refl _ W).alloc (Nat.le_refl _) _) (by decide) (by decide) ⟨_, rfl, hsW, heap_alloc_new W _⟩)
        | 7, _, ho, hnl, haf, hoff, n20, n22 =>
          obtain rfl := Option.some.inj ho
          exact op_value (v := .pointer (some ⟨wr.heap.size, 1, none⟩)) (W' := W) (by simp [execOp, go_sem, t5]) (clone_step hG hBW (Below.refl _ _) (by decide) (by decide) rfl)
        | 8, _, ho, hnl, haf, hoff, n20, n22 =>
          obtain rfl := Option.some.inj ho
          have h := dep 7 30 _ (n20 (by decide)) rfl (haf ⟨7, .data⟩ (by simp) rfl) rfl (by decide)
          simp only [PrAt] at h
          have hc : W.cell? ⟨wr.heap.size, 1, none⟩ = some (.slice b1 m1 d1) := by rw [Lib.cell_of_heap hG.fbox]; rfl
          exact op_value (v := .slice b1 m1 d1) (W' := W) (by simp [execOp, go_sem, h, hc]) (clone_step hG hBW (Below.refl _ _) (by decide) (by decide) rfl)
        | 9, _, ho, hnl, haf, hoff, n20, n22 =>
          obtain rfl := Option.some.inj ho
          have hL := dep 6 29 _ (n20 (by decide)) rfl (haf ⟨6, .data⟩ (by simp) rfl) rfl (by decide)
          have hS := dep 8 31 _ (n20 (by decide)) rfl (haf ⟨8, .data⟩ (by simp) rfl) rfl (by decide)
          simp only [PrAt] at hL hS
          obtain ⟨g, hu, hgb, hgl⟩ := hL
          refine wp_app0 W (.tmp 29) (.tmp 31) 28 rfl elemN_int (wr.heap.size + 1) g hgb hgl ((eval_tmp _ _).trans hu) _ ((eval_tmp _ _).trans hS) m1 (cellsN f.r) (hLies W hG.low).2.1 hl1 (cellsN_one _) (by unfold maxLen; omega) (by omega) hsW ?_
          intro v' W' hr' hb'
          obtain ⟨hn', a', c', rfl, _, hns⟩ := ns_of_row hr' (offRow_new (v := vF) (B := B) hvFl (by omega))
          exact (clone_step hG hBW hb' (by decide) (by decide) ⟨a', c', by rw [← hn'], hns⟩)
        | 10, _, ho, hnl, haf, hoff, n20, n22 =>
          obtain rfl := Option.some.inj ho
          exact op_value (v := .slice (some ⟨W.heap.size, 0, none⟩) 0 0) (W' := W.alloc (.cells #[] 3)) (by simp [execOp, go_sem]) (clone_step hG hBW ((Below.refl _ W).alloc (Nat.le_refl _) _) (by decide) (by decide) ⟨_, rfl, hsW, heap_alloc_new W _⟩)
        | 11, _, ho, hnl, haf, hoff, n20, n22 =>
          obtain rfl := Option.some.inj ho
          exact op_value (v := .pointer (some ⟨wr.heap.size, 2, none⟩)) (W' := W) (by simp [execOp, go_sem, t5]) (clone_step hG hBW (Below.refl _ _) (by decide) (by decide) rfl)
        | 12, _, ho, hnl, haf, hoff, n20, n22 =>
          obtain rfl := Option.some.inj ho
          have h := dep 11 34 _ (n20 (by decide)) rfl (haf ⟨11, .data⟩ (by simp) rfl) rfl (by decide)
          simp only [PrAt] at h
          have hc : W.cell? ⟨wr.heap.size, 2, none⟩ = some (.slice b2 m2 d2) := by rw [Lib.cell_of_heap hG.fbox]; rfl
          exact op_value (v := .slice b2 m2 d2) (W' := W) (by simp [execOp, go_sem, h, hc]) (clone_step hG hBW (Below.refl _ _) (by decide) (by decide) rfl)
        | 13, _, ho, hnl, haf, hoff, n20, n22 =>
          obtain rfl := Option.some.inj ho
          have hL := dep 10 33 _ (n20 (by decide)) rfl (haf ⟨10, .data⟩ (by simp) rfl) rfl (by decide)
          have hS := dep 12 35 _ (n20 (by decide)) rfl (haf ⟨12, .data⟩ (by simp) rfl) rfl (by decide)
          simp only [PrAt] at hL hS
          obtain ⟨g, hu, hgb, hgl⟩ := hL
          refine wp_app0 W (.tmp 33) (.tmp 35) 28 rfl elemN_int (wr.heap.size + 1) g hgb hgl ((eval_tmp _ _).trans hu) _ ((eval_tmp _ _).trans hS) m2 (cellsN f.l) (hLies W hG.low).2.2.1 hl2 (cellsN_one _) (by unfold maxLen; omega) (by omega) hsW ?_
          intro v' W' hr' hb'
          obtain ⟨hn', a', c', rfl, _, hns⟩ := ns_of_row hr' (offRow_new (v := vF) (B := B) hvFl (by omega))
          exact (clone_step hG hBW hb' (by decide) (by decide) ⟨a', c', by rw [← hn'], hns⟩)
        | 14, _, ho, hnl, haf, hoff, n20, n22 =>
          obtain rfl := Option.some.inj ho
          exact op_value (v := .slice (some ⟨W.heap.size, 0, none⟩) 0 0) (W' := W.alloc (.cells #[] 74)) (by simp [execOp, go_sem]) (clone_step hG hBW ((Below.refl _ W).alloc (Nat.le_refl _) _) (by decide) (by decide) ⟨_, rfl, hsW, heap_alloc_new W _⟩)
        | 15, _, ho, hnl, haf, hoff, n20, n22 =>
          obtain rfl := Option.some.inj ho
          exact op_value (v := .pointer (some ⟨wr.heap.size, 3, none⟩)) (W' := W) (by simp [execOp, go_sem, t5]) (clone_step hG hBW (Below.refl _ _) (by decide) (by decide) rfl)
        | 16, _, ho, hnl, haf, hoff, n20, n22 =>
          obtain rfl := Option.some.inj ho
          have h := dep 15 38 _ (n20 (by decide)) rfl (haf ⟨15, .data⟩ (by simp) rfl) rfl (by decide)
          simp only [PrAt] at h
          have hc : W.cell? ⟨wr.heap.size, 3, none⟩ = some (.slice b3 m3 d3) := by rw [Lib.cell_of_heap hG.fbox]; rfl
          exact op_value (v := .slice b3 m3 d3) (W' := W) (by simp [execOp, go_sem, h, hc]) (clone_step hG hBW (Below.refl _ _) (by decide) (by decide) rfl)
        | 17, _, ho, hnl, haf, hoff, n20, n22 =>
          obtain rfl := Option.some.inj ho
          have hL := dep 14 37 _ (n20 (by decide)) rfl (haf ⟨14, .data⟩ (by simp) rfl) rfl (by decide)
          have hS := dep 16 39 _ (n20 (by decide)) rfl (haf ⟨16, .data⟩ (by simp) rfl) rfl (by decide)
          simp only [PrAt] at hL hS
          obtain ⟨g, hu, hgb, hgl⟩ := hL
          refine wp_app0 W (.tmp 37) (.tmp 39) 47 rfl elemN_ins (wr.heap.size + 1) g hgb hgl ((eval_tmp _ _).trans hu) _ ((eval_tmp _ _).trans hS) m3 (cellsI f.code) (hLies W hG.low).2.2.2 hl3 (cellsI_one _) (by unfold maxLen; omega) (by omega) hsW ?_
          intro v' W' hr' hb'
          obtain ⟨hn', a', c', rfl, _, hns⟩ := is_of_row hr' (offRow_new (v := vF) (B := B) hvFl (by omega))
          exact (clone_step hG hBW hb' (by decide) (by decide) ⟨a', c', by rw [← hn'], hns⟩)
        | 18, _, ho, hnl, haf, hoff, n20, n22 =>
          obtain rfl := Option.some.inj ho
          have h5 := dep 5 28 _ (n20 (by decide)) rfl (haf ⟨5, .data⟩ (by simp) rfl) rfl (by decide)
          have h9 := dep 9 32 _ (n20 (by decide)) rfl (haf ⟨9, .data⟩ (by simp) rfl) rfl (by decide)
          have h13 := dep 13 36 _ (n20 (by decide)) rfl (haf ⟨13, .data⟩ (by simp) rfl) rfl (by decide)
          have h17 := dep 17 40 _ (n20 (by decide)) rfl (haf ⟨17, .data⟩ (by simp) rfl) rfl (by decide)
          simp only [PrAt] at h5 h9 h13 h17
          obtain ⟨x0, y0, e0, r0⟩ := h5
          obtain ⟨x1, y1, e1, r1⟩ := h9
          obtain ⟨x2, y2, e2, r2⟩ := h13
          obtain ⟨x3, y3, e3, r3⟩ := h17
          exact op_value (v := .agg #[.slice x0 f.p.length y0, .slice x1 f.r.length y1, .slice x2 f.l.length y2, .slice x3 f.code.length y3]) (W' := W) (by simp [execOp, go_sem, e0, e1, e2, e3]) (clone_step hG hBW (Below.refl _ _) (by decide) (by decide) ⟨_, _, _, _, rfl, ⟨x0, y0, rfl, r0⟩, ⟨x1, y1, rfl, r1⟩, ⟨x2, y2, rfl, r2⟩, ⟨x3, y3, rfl, r3⟩⟩)
        | 19, _, ho, hnl, haf, hoff, n20, n22 =>
          obtain rfl := Option.some.inj ho
          have h := dep 18 41 _ (n20 (by decide)) rfl (haf ⟨18, .data⟩ (by simp) rfl) rfl (by decide)
          simp only [PrAt] at h
          obtain ⟨u0, u1, u2, u3, e, r⟩ := h
          obtain ⟨⟨x0, y0, rfl, r0⟩, ⟨x1, y1, rfl, r1⟩, ⟨x2, y2, rfl, r2⟩, ⟨x3, y3, rfl, r3⟩⟩ := r
          have hkp := offRow_keep (v := vF) (B := B) (below_keep ((Below.refl _ W).alloc (Nat.le_refl _) (.cells #[.slice x0 f.p.length y0, .slice x1 f.r.length y1, .slice x2 f.l.length y2, .slice x3 f.code.length y3] 49)))
          exact op_value (v := .slice (some ⟨W.heap.size, 0, none⟩) 1 1) (W' := W.alloc (.cells #[.slice x0 f.p.length y0, .slice x1 f.r.length y1, .slice x2 f.l.length y2, .slice x3 f.code.length y3] 49)) (by simp [execOp, go_sem, e]) (clone_step hG hBW ((Below.refl _ W).alloc (Nat.le_refl _) _) (by decide) (by decide) ⟨_, _, _, _, _, rfl, heap_alloc_new W _, ⟨x0, y0, rfl, r0.keep hkp⟩, ⟨x1, y1, rfl, r1.keep hkp⟩, ⟨x2, y2, rfl, r2.keep hkp⟩, ⟨x3, y3, rfl, r3.keep hkp⟩⟩)
        | 20, _, ho, hnl, haf, hoff, n20, n22 =>
          obtain rfl := Option.some.inj ho
          have h1 := dep 1 24 _ hoff rfl (haf ⟨1, .data⟩ (by simp) rfl) rfl (by decide)
          have h19 := dep 19 42 _ hoff rfl (haf ⟨19, .data⟩ (by simp) rfl) rfl (by decide)
          simp only [PrAt] at h1 h19
          obtain ⟨g, u0, u1, u2, u3, e, hg, r⟩ := h19
          have hE5 : Below wr.heap.size wr W := ((Below.refl _ wr).alloc (Nat.le_refl _) _).trans ((hG.early hoff).mono (by simp))
          have hrowW := row_below2 hrow hE5
          have hFW : FRow (offRow W vF B) (s.funcs.take (k + 1)) (xs ++ [u0, u1, u2, u3]) := by rw [HT.out]; exact (hFR.out.keep (offRow_keep (below_keep hE5))).snoc r
          obtain ⟨⟨x0, y0, rfl, r0⟩, ⟨x1, y1, rfl, r1⟩, ⟨x2, y2, rfl, r2⟩, ⟨x3, y3, rfl, r3⟩⟩ := r
          refine wp_appN W (.tmp 24) (.tmp 42) 25 rfl elemN_fn (B + 1) vF k xs ((eval_tmp _ _).trans h1) hrowW _ ((eval_tmp _ _).trans e) 1 [.slice x0 f.p.length y0, .slice x1 f.r.length y1, .slice x2 f.l.length y2, .slice x3 f.code.length y3] (.inr ⟨⟨g, 0, none⟩, 1, rfl, World.news_of_block hg⟩) rfl (by intro u hu; simp at hu; rcases hu with rfl | rfl | rfl | rfl <;> rfl) (by unfold maxLen; omega) (by omega) (by omega) ?_
          intro v' W' hr' hs'
          refine ⟨v', rfl, ?_, ⟨hG.low.trans (hs'.below (by omega) (fun j h => by have := hvFB j h; omega)), Nat.le_trans hG.size hs'.size, ?_, fun h => ?_, fun _ => ?_, fun h => ?_⟩, ?_⟩
          · unfold CP; rw [if_pos rfl]; exact .inr ⟨_, hr', hFW.keep (offRow_step hs')⟩
          · rw [hs'.1.block _ (by omega) (fun h => by have := (hrow.lt _ h.symm).2; omega)]; exact hG.fbox
          · rw [getD_set, if_pos ⟨rfl, getD_lt hnl⟩] at h; cases h
          · rw [hs'.1.block _ hBW (fun h => by have := hvFB _ h.symm; omega)]; exact hG.obox (n22 (by decide))
          · rw [getD_far (by decide), n22 (by decide)] at h; cases h
          · intro j u hj hP
            have hset : (listed.setIfInBounds 20 true).getD 20 false = true := by rw [getD_set, if_pos ⟨rfl, getD_lt hnl⟩]
            unfold CP at hP ⊢
            rw [hset, getD_far (by decide : (20 : Nat) ≠ 22)]
            by_cases hj20 : j = 20
            · subst hj20; rw [hoff] at hj; cases hj
            · rw [if_neg hj20] at hP ⊢
              by_cases hj21 : j = 21
              · subst hj21
                rcases hP with ⟨_, h⟩ | h
                · exact absurd rfl h
                · exact .inr h
              · exact .inl ⟨rfl, hj21⟩
        | 21, _, ho, hnl, haf, hoff, n20, n22 =>
          obtain rfl := Option.some.inj ho
          exact op_value (v := .pointer (some ⟨B, 1, none⟩)) (W' := W) (by simp [execOp, go_sem, t3]) (clone_step hG hBW (Below.refl _ _) (by decide) (by decide) rfl)
        | 22, _, ho, hnl, haf, hoff, n20, n22 =>
          obtain rfl := Option.some.inj ho
          have l20 := haf ⟨20, .data⟩ (by simp) rfl
          have l21 := haf ⟨21, .data⟩ (by simp) rfl
          have h21 : a.tmps[44]?.getD undef = .pointer (some ⟨B, 1, none⟩) := by
            have := hE.vals 21 _ 44 rfl l21 rfl
            unfold CP at this
            rw [if_neg (by decide)] at this
            rcases this with ⟨_, h⟩ | h
            · exact absurd rfl h
            · exact h
          have h20 : NewRow B k (s.funcs.take (k + 1)) (a.tmps[43]?.getD undef) W := by
            have := hE.vals 20 _ 43 rfl l20 rfl
            unfold CP at this
            rw [if_pos rfl, hoff] at this
            rcases this with h | h
            · cases h
            · exact h
          obtain ⟨u, hu⟩ : ∃ u, u = a.tmps[43]?.getD undef := ⟨_, rfl⟩
          rw [← hu] at h20
          have hu := hu.symm
          have hob' := hG.obox hoff
          have hc1 : W.cell? ⟨B, 1, none⟩ = some vF := by rw [Lib.cell_of_heap hob']; rfl
          have hf1 := Lib.frozen_of_heap hob' 1
          obtain ⟨xs', hr', hF'⟩ := h20
          obtain ⟨ua, uc, rfl, _, _, _⟩ := row_form hr'
          refine op_skip (W' := W.setCell ⟨B, 1, none⟩ (.slice ua (k + 1) uc)) (by simp [execOp, go_sem, h21, hu, hc1, hf1]) ⟨undef, rfl, ?_, ⟨hG.low.setCell (p := ⟨B, 1, none⟩) (Nat.le_refl _) _, by simpa using hG.size, ?_, fun h => ?_, fun h => ?_, fun _ => ⟨.slice ua (k + 1) uc, ?_, xs', ?_, hF'.keep (offRow_set (Nat.le_refl _))⟩⟩, ?_⟩
          · unfold CP; rw [if_neg (by decide)]; exact .inr trivial
          · rw [Below.heap_setCell _ _ _ _ (by simp; omega)]; exact hG.fbox
          · rw [getD_far (by decide), l20] at h; cases h
          · rw [getD_set, if_pos ⟨rfl, getD_lt hnl⟩] at h; cases h
          · simp [World.setCell, Array.getElem?_modify, hob']
          · exact ownsRow_setCell_other' hr' (by omega) _
          · intro j u hj hP
            have hset : (listed.setIfInBounds 22 true).getD 22 false = true := by rw [getD_set, if_pos ⟨rfl, getD_lt hnl⟩]
            unfold CP at hP ⊢
            rw [hset, getD_far (by decide : (22 : Nat) ≠ 20), l20]
            by_cases hj20 : j = 20
            · rw [if_pos hj20]; exact .inl rfl
            · rw [if_neg hj20] at hP ⊢
              by_cases hj21 : j = 21
              · subst hj21
                rcases hP with ⟨_, h⟩ | h
                · exact absurd rfl h
                · exact .inr h
              · exact .inl ⟨rfl, hj21⟩
        | i + 23, hi, _, _, _, _, _, _ => omega
      case fin =>
        intro a W hE
        obtain ⟨u, hb1, xs', hr', hF'⟩ := hE.glob.fin (by rfl)
        have hsz := hE.tsize
        have hdf := hE.defers
        have hlo := hE.glob.low
        have r := fun t h => hE.rest t h
        obtain ⟨tm, df⟩ := a
        simp only at hsz hdf r
        have htm := arr_out 46 tm (by rw [hsz]; rfl) undef
        simp only [List.range, List.range.loop, List.map_cons, List.map_nil] at htm
        rw [show tm[0]?.getD undef = _ from r 0 (rest_of (by kernel_rfl))] at htm
        rw [show tm[1]?.getD undef = _ from r 1 (rest_of (by kernel_rfl))] at htm
        rw [show tm[2]?.getD undef = _ from r 2 (rest_of (by kernel_rfl))] at htm
        rw [show tm[3]?.getD undef = _ from r 3 (rest_of (by kernel_rfl))] at htm
        rw [show tm[4]?.getD undef = _ from r 4 (rest_of (by kernel_rfl))] at htm
        rw [show tm[5]?.getD undef = _ from r 5 (rest_of (by kernel_rfl))] at htm
        rw [show tm[6]?.getD undef = _ from r 6 (rest_of (by kernel_rfl))] at htm
        rw [show tm[7]?.getD undef = _ from r 7 (rest_of (by kernel_rfl))] at htm
        rw [show tm[8]?.getD undef = _ from r 8 (rest_of (by kernel_rfl))] at htm
        rw [show tm[9]?.getD undef = _ from r 9 (rest_of (by kernel_rfl))] at htm
        rw [show tm[10]?.getD undef = _ from r 10 (rest_of (by kernel_rfl))] at htm
        rw [show tm[11]?.getD undef = _ from r 11 (rest_of (by kernel_rfl))] at htm
        rw [show tm[12]?.getD undef = _ from r 12 (rest_of (by kernel_rfl))] at htm
        rw [show tm[13]?.getD undef = _ from r 13 (rest_of (by kernel_rfl))] at htm
        rw [show tm[14]?.getD undef = _ from r 14 (rest_of (by kernel_rfl))] at htm
        rw [show tm[15]?.getD undef = _ from r 15 (rest_of (by kernel_rfl))] at htm
        rw [show tm[16]?.getD undef = _ from r 16 (rest_of (by kernel_rfl))] at htm
        rw [show tm[17]?.getD undef = _ from r 17 (rest_of (by kernel_rfl))] at htm
        rw [show tm[18]?.getD undef = _ from r 18 (rest_of (by kernel_rfl))] at htm
        rw [show tm[19]?.getD undef = _ from r 19 (rest_of (by kernel_rfl))] at htm
        rw [show tm[20]?.getD undef = _ from r 20 (rest_of (by kernel_rfl))] at htm
        rw [show tm[21]?.getD undef = _ from r 21 (rest_of (by kernel_rfl))] at htm
        rw [show tm[22]?.getD undef = _ from r 22 (rest_of (by kernel_rfl))] at htm
        rw [show tm[45]?.getD undef = _ from r 45 (rest_of (by kernel_rfl))] at htm
        generalize tm[23]?.getD undef = x23 at htm
        generalize tm[24]?.getD undef = x24 at htm
        generalize tm[25]?.getD undef = x25 at htm
        generalize tm[26]?.getD undef = x26 at htm
        generalize tm[27]?.getD undef = x27 at htm
        generalize tm[28]?.getD undef = x28 at htm
        generalize tm[29]?.getD undef = x29 at htm
        generalize tm[30]?.getD undef = x30 at htm
        generalize tm[31]?.getD undef = x31 at htm
        generalize tm[32]?.getD undef = x32 at htm
        generalize tm[33]?.getD undef = x33 at htm
        generalize tm[34]?.getD undef = x34 at htm
        generalize tm[35]?.getD undef = x35 at htm
        generalize tm[36]?.getD undef = x36 at htm
        generalize tm[37]?.getD undef = x37 at htm
        generalize tm[38]?.getD undef = x38 at htm
        generalize tm[39]?.getD undef = x39 at htm
        generalize tm[40]?.getD undef = x40 at htm
        generalize tm[41]?.getD undef = x41 at htm
        generalize tm[42]?.getD undef = x42 at htm
        generalize tm[43]?.getD undef = x43 at htm
        generalize tm[44]?.getD undef = x44 at htm
        simp only [List.getElem?_toArray, List.getElem?_cons_zero, List.getElem?_cons_succ, Option.getD_some] at htm
        subst htm
        have hdf : df = [] := hdf
        subst hdf
        clear r hsz hE
        go_wp2
        exact ⟨⟨k + 1, u, xs', by omega, by go_num, hb1, hr', hid hF', hlo⟩, by simp [intOf]; omega⟩
    -- DONE
    · obtain rfl : k = N := by omega
      have htk : s.funcs.take k = s.funcs := List.take_of_length_le (by have := HN.out; omega)
      have hF := hFR.out
      rw [htk] at hF
      obtain ⟨fa, fc, rfl, _, _, _⟩ := row_form hrow
      have o0 : wr.cell? ⟨B, 0, none⟩ = some (.slice a2 M k2) := by rw [Lib.cell_of_heap hob]; rfl
      have o1 : wr.cell? ⟨B, 1, none⟩ = some (.slice fa k fc) := by rw [Lib.cell_of_heap hob]; rfl
      have r0 : wr.cell? ⟨w.heap.size + 1, 0, none⟩ = some (.slice none 0 0) := by rw [Lib.cell_of_heap eR]; rfl
      have r1 : wr.cell? ⟨w.heap.size + 1, 1, none⟩ = some (.slice none 0 0) := by rw [Lib.cell_of_heap eR]; rfl
      have f0 := Lib.frozen_of_heap eR 0
      have f1 := Lib.frozen_of_heap eR 1
      go_wp2
      have hbl : Below w.heap.size w wr := (hbw2.trans (hw3.mono (by omega))).trans (hlow.mono (by omega))
      have hb' : Below w.heap.size w ((wr.setCell ⟨w.heap.size + 1, 0, none⟩ (.slice a2 M k2)).setCell ⟨w.heap.size + 1, 1, none⟩ (.slice fa k fc)) := (hbl.setCell (p := ⟨w.heap.size + 1, 0, none⟩) (by simp) _).setCell (p := ⟨w.heap.size + 1, 1, none⟩) (by simp) _
      have hrow' := ownsRow_setCell_other' (o := 1) (ownsRow_setCell_other' (o := 0) hrow (B := w.heap.size + 1) (by omega) (.slice a2 M k2)) (B := w.heap.size + 1) (by omega) (.slice fa k fc)
      have hF2 := (hF.keep (offRow_set (b := w.heap.size + 1) (o := 0) (u := .slice a2 M k2) (by omega))).keep (offRow_set (b := w.heap.size + 1) (o := 1) (u := .slice fa k fc) (by omega))
      obtain ⟨_, fa', fc', hv', _, hFs⟩ := fs_of_row hrow' (hF2.keep offRow_le)
      simp only [Value.slice.injEq, true_and] at hv'
      obtain ⟨rfl, rfl⟩ := hv'
      have hSs : SsAt (((wr.setCell ⟨w.heap.size + 1, 0, none⟩ (.slice a2 M k2)).setCell ⟨w.heap.size + 1, 1, none⟩ (.slice fa k fc))).cell? a2 s.consts := by
        refine hss2.keep fun a x h => ?_
        have hfar := offRow_far a x h
        have hc2 := offRow_le a x h
        have hlt2 := hw2l a x hc2
        have hcw : wr.cell? a = some x := by
          rw [← hc2]
          unfold World.cell?
          rw [hlow.block _ hlt2, hw3.block _ hlt2]
        rw [← hcw]
        unfold World.cell?
        rw [Below.heap_setCell _ _ _ _ (by show a.block ≠ w.heap.size + 1; omega), Below.heap_setCell _ _ _ _ (by show a.block ≠ w.heap.size + 1; omega)]
      refine ret_scr (b := w.heap.size + 1) rfl rfl rfl (x := .slice a2 M k2) (y := .slice fa k fc) ?_ ?_ ⟨_, _, rfl, ⟨⟨a2, k2, by rw [HM.out], hSs⟩, ⟨fa, fc, by rw [HN.out], hFs⟩⟩, hb'⟩
      · have h1 : (wr.setCell ⟨w.heap.size + 1, 0, none⟩ (.slice a2 M k2)).cell? ⟨w.heap.size + 1, 0, none⟩ = some (.slice a2 M k2) := World.cell?_setCell_same _ _ _ r0
        rw [World.cell?_setCell_other _ _ _ _ (by simp)]
        exact h1
      · have h1 : (wr.setCell ⟨w.heap.size + 1, 0, none⟩ (.slice a2 M k2)).cell? ⟨w.heap.size + 1, 1, none⟩ = some (.slice none 0 0) := by rw [World.cell?_setCell_other _ _ _ _ (by simp)]; exact r1
        exact World.cell?_setCell_same _ _ _ h1
end Go.Proofs.YtpmlnkjamhelnaaGreat
