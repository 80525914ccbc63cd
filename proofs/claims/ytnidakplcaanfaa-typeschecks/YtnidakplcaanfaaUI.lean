/- The document's Check and All of any script (layer 7). The document's All of any script (layer 7). -/
import Derived.Test.YtnidakplcaanfaaUH
import Derived.Test.YtnidakplcaanfaaTT
namespace Go.Proofs.Ytnidakplcaanfaa
open Go.RowKit Go.Shelf
set_option maxRecDepth 100000 in
set_option maxHeartbeats 2000000 in
theorem rcheck7_any (s : Scr) (V0 V1 : Value) (f : Int) (w : World) (hs : ScIs w.cell? s V0 V1) (hsf : s.fits) (hI64 : ∀ f ∈ s.funcs, ∀ x ∈ f.code, -9223372036854775808 ≤ x.2 ∧ x.2 ≤ 9223372036854775807) : Calls Try.prog 10 #[.agg #[V0, V1], .int .i64 f] w (StacksEnd (checkS s f) w) := by
  obtain ⟨h0, ⟨a1, c1, rfl, n1⟩⟩ := hs
  have hs : ScIs w.cell? s V0 (.slice a1 s.funcs.length c1) := ⟨h0, ⟨a1, c1, rfl, n1⟩⟩
  obtain ⟨a0, c0, rfl, n0⟩ := h0
  have b1 := (Below.refl _ w).alloc (Nat.le_refl _) (.cells #[.slice a0 s.consts.length c0, .slice a1 s.funcs.length c1] 25)
  have HR : Hid (Calls Try.prog 20 #[.agg #[.slice a0 s.consts.length c0, .slice a1 s.funcs.length c1]] (w.alloc (.cells #[.slice a0 s.consts.length c0, .slice a1 s.funcs.length c1] 25)) fun e w1 => e = .returned (.bool s.right) ∧ w1.cell? ⟨w.heap.size, 1, none⟩ = some (.slice a1 s.funcs.length c1) ∧ Hid (Below w.heap.size w w1)) := hid7 ((rright4_any s _ _ _ (hs.keep (below_keep b1)) hsf hI64).mono fun e w1 ⟨h1, h2⟩ => by
    have e2 : (w.alloc (.cells #[.slice a0 s.consts.length c0, .slice a1 s.funcs.length c1] 25)).heap[w.heap.size]? = some (.cells #[.slice a0 s.consts.length c0, .slice a1 s.funcs.length c1] 25 (0, 0)) := heap_alloc_new w _
    have e3 := (h2.block _ (blk_lt e2)).trans e2
    exact ⟨h1, by rw [Lib.cell_of_heap e3]; rfl, hid7 (b1.trans (h2.mono b1.size))⟩)
  have hfl := hsf.2.1
  by_cases hr : s.right = true
  · rw [hr] at HR
    by_cases hf : 0 ≤ f ∧ f < s.funcs.length
    · obtain ⟨k, rfl⟩ : ∃ k : Nat, f = k := ⟨f.toNat, by omega⟩
      have hk : k < s.funcs.length := by omega
      have e1 : checkS s k = stacksS s.funcs s.funcs[k] := by rw [checkS, if_pos hr, if_pos hf, fnAt_get hk]
      rw [e1]
      by_cases hgood : goodS s.funcs[k].code = true
      · exact rcheck_good s _ a1 c1 k w hs hsf hI64 hr hk _ rfl hgood
      · have e2 : stacksS s.funcs s.funcs[k] = (31, []) := by rw [stacksS, if_neg hgood]
        rw [e2]
        obtain ⟨fb, fo, rfl⟩ := fs_some n1 (by omega)
        obtain ⟨v0, v1, v2, v3, q0, q1, q2, q3, hFn⟩ : ∃ v0 v1 v2 v3, w.cell? ⟨fb, fo + k * 4, none⟩ = some v0 ∧ w.cell? ⟨fb, fo + k * 4 + 1, none⟩ = some v1 ∧ w.cell? ⟨fb, fo + k * 4 + 2, none⟩ = some v2 ∧ w.cell? ⟨fb, fo + k * 4 + 3, none⟩ = some v3 ∧ FnIs w.cell? s.funcs[k] v0 v1 v2 v3 := by
          rcases n1 with h0 | ⟨b, off, e, h⟩
          · rw [h0] at hk; cases hk
          · cases e
            obtain ⟨v0, v1, v2, v3, h⟩ := h k hk
            exact ⟨v0, v1, v2, v3, h⟩
        obtain ⟨⟨a5, c5, rfl, _⟩, ⟨a4, c4, rfl, _⟩, ⟨a6, c6, rfl, _⟩, ⟨a3, c3, rfl, n3⟩⟩ := hFn
        have hgc := ((right_facts hr).2.2 s.funcs[k] (List.getElem_mem _)).c
        have HF : Hid (∀ W, Below w.heap.size w W → W.cell? ⟨fb, fo + k * 4, none⟩ = some (.slice a5 s.funcs[k].p.length c5) ∧ W.cell? ⟨fb, fo + k * 4 + 1, none⟩ = some (.slice a4 s.funcs[k].r.length c4) ∧ W.cell? ⟨fb, fo + k * 4 + 2, none⟩ = some (.slice a6 s.funcs[k].l.length c6) ∧ W.cell? ⟨fb, fo + k * 4 + 3, none⟩ = some (.slice a3 s.funcs[k].code.length c3) ∧ Hid (∀ V, Below W.heap.size W V → Calls Try.prog 26 #[.slice a3 s.funcs[k].code.length c3] V fun e w4 => ∃ mv er, e = .returned (.tuple #[mv, .int .i64 er]) ∧ (er != 0) = true ∧ Hid (Below w.heap.size w w4))) := hid7 fun W hW => by
          have kk := below_keep hW
          refine ⟨kk _ _ q0, kk _ _ q1, kk _ _ q2, kk _ _ q3, hid7 fun V hV => ?_⟩
          have hwV := hW.trans (hV.mono hW.size)
          refine (rmatch_any _ a3 c3 _ rfl (by omega) V (n3.keep (below_keep hwV))).mono fun e w4 ⟨m1, m2⟩ => ?_
          rw [if_neg hgood] at m1
          exact ⟨_, _, m1, by decide, hid7 (hwV.trans (m2.mono hwV.size))⟩
        have HE : Hid (∀ w1 e, Below w.heap.size w w1 → e = .returned (.tuple #[.slice none 0 0, .int .i64 31]) → StacksEnd (31, []) w e w1) := hid7 fun w1 e hb he => ⟨none, 0, he, .inl rfl, hb⟩
        have hltF : fb < w.heap.size := World.block_lt_of_cell? w _ q0
        clear hs n0 n1 n3 q0 q1 q2 q3 hgood e1 e2 hr b1 hsf hI64 hgc
        generalize s.funcs[k] = g at *
        generalize g.p.length = pn at *
        generalize g.r.length = rn at *
        generalize g.l.length = ln at *
        generalize g.code.length = N at *
        have hkk : (k : Int) < s.funcs.length := by omega
        have hk0 : (0 : Int) ≤ k := by omega
        clear hf hk
        generalize s.funcs.length = fl at *
        generalize s.consts.length = cl at *
        go_enter Try.func10, Try.ntmps10
        go_wp2_with (first
          | (go_at_call 20; refine HR.out.mono ?_; clear HR; rintro e w1 ⟨rfl, d1, B1⟩; obtain ⟨d2, d3, d4, d5, HM⟩ := HF.out w1 B1.out; clear HF)
          | (go_at_call 26; refine (HM.out _ ((Below.refl _ _).alloc (Nat.le_refl _) _)).mono ?_; clear HM; rintro e w4 ⟨mv, er, rfl, her, B4⟩)
          | fail)
        go_ret2
        exact HE.out _ _ B4.out rfl
    · have e1 : checkS s f = (1, []) := by rw [checkS, if_pos hr, if_neg hf]
      rw [e1]
      have HE : Hid (∀ w1 e, Below w.heap.size w w1 → e = .returned (.tuple #[.slice none 0 0, .int .i64 1]) → StacksEnd (1, []) w e w1) := hid7 fun w1 e hb he => ⟨none, 0, he, .inl rfl, hb⟩
      clear hs n0 n1 b1 hr e1 hsf hI64
      by_cases h0 : f < 0
      · generalize s.funcs.length = fl at HR hfl ⊢
        generalize s.consts.length = cl at HR ⊢
        go_enter Try.func10, Try.ntmps10
        go_wp2_with (first | (go_at_call 20; refine HR.out.mono ?_; clear HR; rintro e w1 ⟨rfl, d1, B1⟩) | fail)
        go_ret2
        exact HE.out _ _ B1.out rfl
      · have t1 : (s.funcs.length : Int) ≤ f := by omega
        generalize s.funcs.length = fl at HR hfl t1 ⊢
        generalize s.consts.length = cl at HR ⊢
        go_enter Try.func10, Try.ntmps10
        go_wp2_with (first | (go_at_call 20; refine HR.out.mono ?_; clear HR; rintro e w1 ⟨rfl, d1, B1⟩) | fail)
        go_ret2
        exact HE.out _ _ B1.out rfl
  · have hr' : s.right = false := by simpa using hr
    have e1 : checkS s f = (30, []) := by rw [checkS, if_neg hr]
    rw [e1]
    rw [hr'] at HR
    have HE : Hid (∀ w1 e, Below w.heap.size w w1 → e = .returned (.tuple #[.slice none 0 0, .int .i64 30]) → StacksEnd (30, []) w e w1) := hid7 fun w1 e hb he => ⟨none, 0, he, .inl rfl, hb⟩
    clear hs n0 n1 b1 hr hr' e1 hsf hI64
    generalize s.funcs.length = fl at HR hfl ⊢
    generalize s.consts.length = cl at HR ⊢
    go_enter Try.func10, Try.ntmps10
    go_wp2_with (first | (go_at_call 20; refine HR.out.mono ?_; clear HR; rintro e w1 ⟨rfl, d1, B1⟩) | fail)
    go_ret2
    exact HE.out _ _ B1.out rfl
end Go.Proofs.Ytnidakplcaanfaa
namespace Go.Proofs.Ytnidakplcaanfaa
open Go.RowKit Go.Shelf
set_option maxRecDepth 100000 in
set_option maxHeartbeats 2000000 in
theorem rall7_any (s : Scr) (V0 V1 : Value) (w : World) (hs : ScIs w.cell? s V0 V1) (hsf : s.fits) (hI64 : ∀ f ∈ s.funcs, ∀ x ∈ f.code, -9223372036854775808 ≤ x.2 ∧ x.2 ≤ 9223372036854775807) : Calls Try.prog 16 #[.agg #[V0, V1]] w (AllEnd (allS s) w) := by
  obtain ⟨⟨a0, c0, rfl, n0⟩, ⟨a1, c1, rfl, n1⟩⟩ := hs
  have hs : ScIs w.cell? s (.slice a0 s.consts.length c0) (.slice a1 s.funcs.length c1) := ⟨⟨a0, c0, rfl, n0⟩, ⟨a1, c1, rfl, n1⟩⟩
  have b1 := (Below.refl _ w).alloc (Nat.le_refl _) (.cells #[.slice a0 s.consts.length c0, .slice a1 s.funcs.length c1] 25)
  have HR : Hid (Calls Try.prog 20 #[.agg #[.slice a0 s.consts.length c0, .slice a1 s.funcs.length c1]] (w.alloc (.cells #[.slice a0 s.consts.length c0, .slice a1 s.funcs.length c1] 25)) fun e w1 => e = .returned (.bool s.right) ∧ w1.cell? ⟨w.heap.size, 0, none⟩ = some (.slice a0 s.consts.length c0) ∧ w1.cell? ⟨w.heap.size, 1, none⟩ = some (.slice a1 s.funcs.length c1) ∧ Hid (Below w.heap.size w w1) ∧ Hid (w.heap.size < w1.heap.size)) := hid7 ((rright4_any s _ _ _ (hs.keep (below_keep b1)) hsf hI64).mono fun e w1 ⟨h1, h2⟩ => by
    have e2 : (w.alloc (.cells #[.slice a0 s.consts.length c0, .slice a1 s.funcs.length c1] 25)).heap[w.heap.size]? = some (.cells #[.slice a0 s.consts.length c0, .slice a1 s.funcs.length c1] 25 (0, 0)) := heap_alloc_new w _
    have e3 := (h2.block _ (blk_lt e2)).trans e2
    exact ⟨h1, by rw [Lib.cell_of_heap e3]; rfl, by rw [Lib.cell_of_heap e3]; rfl, hid7 (b1.trans (h2.mono b1.size)), hid7 (blk_lt e3)⟩)
  have hfl := hsf.2.1
  by_cases hr : s.right = true
  · obtain ⟨A0, hA0⟩ : ∃ A0, A0 = allS s := ⟨_, rfl⟩
    rw [← hA0]
    have HA : Hid (A0 = allFrom s.funcs s.funcs.length 0 []) := hid7 (by rw [hA0, allS, if_pos hr])
    obtain ⟨f1, f2, f3⟩ := right_facts hr
    have HS : Hid (∀ w1 k, k < s.funcs.length → Below w.heap.size w w1 → Calls Try.prog 10 #[.agg #[.slice a0 s.consts.length c0, .slice a1 s.funcs.length c1], .int .i64 k] w1 fun e w2 => ∃ a c, e = .returned (.tuple #[.slice a (stacksS s.funcs (fnAt s.funcs k)).2.length c, .int .i64 (stacksS s.funcs (fnAt s.funcs k)).1]) ∧ Below w1.heap.size w1 w2 ∧ Hid ((stacksS s.funcs (fnAt s.funcs k)).2.length ≤ 1000 ∧ (∀ r ∈ (stacksS s.funcs (fnAt s.funcs k)).2, r.length ≤ 1000) ∧ SlAt w1.heap.size w2 a (stacksS s.funcs (fnAt s.funcs k)).2)) := hid7 fun w1 k hk hb => (rcheck7_any s _ _ k w1 (hs.keep (below_keep hb)) hsf hI64).mono fun e w2 ⟨a, c, h1, h2, h3⟩ => by
      have e1 : checkS s k = stacksS s.funcs (fnAt s.funcs k) := by rw [checkS, if_pos hr, if_pos (by omega)]
      rw [e1] at h1 h2
      obtain ⟨q1, q2⟩ := stacks_rows s.funcs (fnAt s.funcs k)
      have hc := (f3 (fnAt s.funcs k) (by rw [← fnAt_get hk]; exact List.getElem_mem _)).c
      exact ⟨a, c, h1, h3, hid7 ⟨by omega, fun r hr => (by have := q1 r hr; omega), h2⟩⟩
    rw [hr] at HR
    have hNext : Hid (∀ k m acc, k + (m + 1) = s.funcs.length → A0 = allFrom s.funcs (m + 1) k acc → A0 = if (stacksS s.funcs (fnAt s.funcs k)).1 = 0 then allFrom s.funcs m (k + 1) (acc ++ [((longS (stacksS s.funcs (fnAt s.funcs k)).2 (stacksS s.funcs (fnAt s.funcs k)).2.length : Nat) : Int)]) else ((stacksS s.funcs (fnAt s.funcs k)).1, [])) := hid7 fun k m acc _ h => by rw [h, allFrom]
    clear hs n0 n1 b1 hr hA0 f3 hI64
    obtain ⟨fs, hfs⟩ : ∃ fs, fs = s.funcs := ⟨_, rfl⟩
    rw [← hfs] at HR HA HS hfl f1 f2 hNext ⊢
    obtain ⟨fl, hfll⟩ : ∃ fl, fl = fs.length := ⟨_, rfl⟩
    rw [← hfll] at HR HA HS hfl f1 f2 hNext ⊢
    clear hfs hfll hfl hsf
    generalize s.consts.length = cl at HR HS ⊢
    go_enter Try.func16, Try.ntmps16
    go_wp2_with (first | (go_at_call 20; refine HR.out.mono ?_; clear HR; rintro e w1 ⟨rfl, d0, d1, B1, l1⟩) | fail)
    go_loopw [4, 5] (fun mv iv wr => ∃ (k : Nat) (acc : List Int), iv = .int .i64 k ∧ k ≤ fl ∧ Hid (acc.length = k) ∧ Hid (A0 = allFrom fs (fl - k) k acc) ∧ wr.ownsRow w1.heap.size 3 1 mv acc.length (cellsN acc) ∧ Below w1.heap.size w1 wr) (fun _ iv _ => fl - (intOf iv).toNat)
    case atStart => exact ⟨0, [], rfl, Nat.zero_le _, hid7 rfl, HA, World.ownsRow_nil _ _ _ _, Below.refl _ _⟩
    case round =>
      obtain ⟨k, acc, rfl, hk, hal, hrun, hrow, hb⟩ := hrel
      have hr := hid7 hrow
      obtain ⟨ra, rc, eav, hrc, _⟩ := row_form hrow
      subst eav
      clear hrow
      have bb := hid7 (B1.out.trans (hb.mono B1.out.size))
      have d2 := (hb.cell (World.block_lt_of_cell? w1 _ d0)).trans d0
      have d3 := (hb.cell (World.block_lt_of_cell? w1 _ d1)).trans d1
      by_cases hkf : k < fl
      · have hS := hid7 (HS.out wr k hkf bb.out)
        have hrun2 := hid7 (hNext.out k (fl - (k + 1)) acc (by omega) (by rw [show fl - (k + 1) + 1 = fl - k by omega]; exact hrun.out))
        generalize stacksS fs (fnAt fs k) = Q at hS hrun2
        obtain ⟨er, RR⟩ := Q
        simp only at hS hrun2
        clear hrun
        have hal2 := hal.out
        generalize hac : acc.length = al at hr hrc hal2
        by_cases her : er = 0
        · subst her
          have HE2 := hid7 (hrun2.out.trans (if_pos rfl))
          obtain ⟨lr, hlr⟩ : ∃ lr, lr = RR.length := ⟨_, rfl⟩
          rw [← hlr] at hS HE2
          have HLR := hid7 hlr
          have HQ : Hid (∀ w4 (lg : Int), Below wr.heap.size wr w4 → (w4.alloc (.cells #[.int .i64 lg] 3)).ownsRow w1.heap.size 3 1 (.slice ra al rc) al (cellsN acc) ∧ w1.heap.size ≤ w4.heap.size) := hid7 fun w4 lg hb4 => ⟨World.ownsRow.alloc (row_keep7 hr.out hb4) _, Nat.le_trans hb.size hb4.size⟩
          have hal3 : al ≤ 16 := by omega
          have HAL := hid7 (And.intro hal2 hac)
          clear hac hal2 hrun2 hlr
          go_wp2_with (first
            | (go_at_call 10; refine hS.out.mono ?_; clear hS; rintro e w4 ⟨a4, c4, rfl, b4, K4⟩)
            | fail)
          have hlr2 : lr ≤ 1000 := K4.out.1
          go_loopw [8, 9] (fun nv jv wq => ∃ j : Nat, nv = .int .i64 (longS RR j : Nat) ∧ jv = .int .i64 j ∧ j ≤ lr ∧ wq = w4) (fun _ jv _ => lr - (intOf jv).toNat)
          case atStart => exact ⟨0, rfl, rfl, Nat.zero_le _, rfl⟩
          case round =>
            obtain ⟨j, rfl, rfl, hj, rfl⟩ := hrel
            rename World => wr_1
            by_cases hjl : j < lr
            · have hle := longS_le K4.out.2.1 j
              have HN : Hid (longS RR (j + 1) = max (longS RR j) (RR.getD j []).length) := hid7 rfl
              have hjr : j < RR.length := by rw [← HLR.out]; exact hjl
              obtain ⟨b, e4, aj, cj, h1⟩ : ∃ b, a4 = some ⟨b, 0, none⟩ ∧ ∃ aj cj, wr_1.cell? ⟨b, j, none⟩ = some (.slice aj RR[j].length cj) := by
                rcases K4.out.2.2 with h0 | ⟨b, e, hc⟩
                · rw [h0] at hjr; cases hjr
                · obtain ⟨aj, cj, h1, _⟩ := hc j hjr
                  exact ⟨b, e, aj, cj, h1⟩
              subst e4
              have e1 : RR[j].length = (RR.getD j []).length := by rw [List.getD_eq_getElem?_getD, List.getElem?_eq_getElem hjr]; rfl
              have hr2 : (RR.getD j []).length ≤ 1000 := by rw [← e1]; exact K4.out.2.1 _ (List.getElem_mem _)
              rw [e1] at h1
              clear e1
              generalize (RR.getD j []).length = r at h1 HN hr2
              generalize longS RR j = d at HN hle ⊢
              go_wp2
              refine ⟨⟨j + 1, ?_, by go_num, by omega, by trivial⟩, by simp [intOf]; omega⟩
              rw [HN.out]
              congr 1
              omega
            · have hjl : j = lr := by omega
              subst hjl
              have hle := longS_le K4.out.2.1 j
              generalize longS RR j = lg at HE2 hle ⊢
              obtain ⟨R4, s4⟩ := HQ.out _ (lg : Int) b4
              have R4 := hid7 R4
              go_wp2_with (at_builtin; refine wpList_appN _ rfl _ _ 35 rfl elemN_int w1.heap.size _ al (cellsN acc) rfl R4.out _ rfl 1 [.int .i64 (lg : Int)] (.inr ⟨⟨_, 0, none⟩, 1, rfl, cells_new6 _ [.int .i64 (lg : Int)] 3 _ rfl⟩) rfl (by simp [Value.oneCell']) (by unfold maxLen; omega) (by omega) (by simp; omega) ?_; intro v' w6 hr6 hs6)
              have ball := (Below.refl _ _).alloc (w := wr_1) (Nat.le_refl _) (.cells #[.int .i64 (lg : Int)] 3)
              have b6 := hs6.below (B := w1.heap.size) (by simp; omega) (fun g e => (R4.out.lt g e).1)
              refine ⟨⟨k + 1, acc ++ [(lg : Int)], by go_num, by omega, hid7 (by rw [List.length_append, hal.out]; rfl), HE2, ?_, ?_⟩, by simp [intOf]; omega⟩
              · rw [List.length_append, List.length_singleton, HAL.out.2, show cellsN (acc ++ [(lg : Int)]) = cellsN acc ++ [.int .i64 (lg : Int)] by simp [cellsN]]
                exact hr6
              · exact ((hb.trans (b4.mono hb.size)).trans (ball.mono s4)).trans b6
        · have hne : (er != 0) = true := by simpa using her
          have HE2 := hid7 (hrun2.out.trans (if_neg her))
          clear hac hal2 hal hrun2
          go_wp2_with (first | (go_at_call 10; refine hS.out.mono ?_; clear hS; rintro e w4 ⟨a4, c4, rfl, b4, hG⟩) | fail)
          go_ret2
          exact ⟨none, 0, by rw [HE2.out]; rfl, by rw [HE2.out]; exact .inl rfl, bb.out.trans (b4.mono bb.out.size)⟩
      · have hkf : k = fl := by omega
        have HE2 : Hid (A0 = (0, acc)) := hid7 (by have := hrun.out; rw [hkf, Nat.sub_self, allFrom] at this; exact this)
        clear hrun
        go_wp2
        go_ret2
        refine ⟨ra, rc, by rw [HE2.out]; rfl, ?_, bb.out⟩
        rw [HE2.out]
        exact (ns_in_row hr.out).at'
  · have hr' : s.right = false := by simpa using hr
    have e1 : allS s = (30, []) := by rw [allS, if_neg hr]
    rw [e1]
    rw [hr'] at HR
    have HE : Hid (∀ w1 e, Below w.heap.size w w1 → e = .returned (.tuple #[.slice none 0 0, .int .i64 30]) → AllEnd (30, []) w e w1) := hid7 fun w1 e hb he => ⟨none, 0, he, .inl rfl, hb⟩
    clear hs n0 n1 b1 hr hr' e1 hsf hI64
    generalize s.funcs.length = fl at HR hfl ⊢
    generalize s.consts.length = cl at HR ⊢
    go_enter Try.func16, Try.ntmps16
    go_wp2_with (first | (go_at_call 20; refine HR.out.mono ?_; clear HR; rintro e w1 ⟨rfl, d0, d1, B1, l1⟩) | fail)
    go_ret2
    exact HE.out _ _ B1.out rfl
end Go.Proofs.Ytnidakplcaanfaa
