/- The document's Get of any bytes. What the document's own Frame comes to, and the law's helper Stays. As OBase, for the rows of layer 4 (without value). How bytes that came in are read. -/
import Derived.Test.YtpmlnkjamhelnaaGreatDB
import Derived.Test.YtpmlnkjamhelnaaGreatCTg
import Derived.Test.YtpmlnkjamhelnaaGreatDG
import Derived.Test.YtpmlnkjamhelnaaGreatRows
import Derived.Test.YtpmlnkjamhelnaaGreatCB
import Derived.ProofKit
import Derived.OpenShut
import Derived.Deep.DeepHandedRow
import Derived.Lib.LaidTab
import Derived.Lib.SmallJoins
import Derived.SizedLaws
import Derived.Deep.SlicePairs
import Derived.ChangeMaps5
import Derived.Test.YtpmlnkjamhelnaaGreatPlain
namespace Go.Proofs.YtpmlnkjamhelnaaGreat
open Go.RowKit
theorem RfS.low {w : World} {q g : Nat} {bs : List UInt8} {k : Nat} {err : Int} (H : RfS w q g bs k err) (b : Nat) (hb : b ≠ q) (hbw : b < w.heap.size) : ∃ g', RfS w q g' bs k err ∧ g' < w.heap.size := by
  rcases Nat.lt_or_ge g w.heap.size with h | h
  · exact ⟨g, H, h⟩
  · obtain ⟨⟨ao, cap, hE, hB, hc, hm⟩, hg, hk, hx⟩ := H
    refine ⟨b, ⟨⟨ao, cap, hE, ?_, hc, hm⟩, hb, hk, hx⟩, hbw⟩
    rcases hB with h0 | ⟨off, rfl, hcell⟩
    · exact .inl h0
    · by_cases hz : bs = []
      · exact .inl hz
      · exfalso
        have := World.block_lt_of_cell? _ _ (hcell 0 (List.length_pos_iff.2 hz))
        simp only at this
        omega
set_option maxRecDepth 100000 in
set_option maxHeartbeats 4000000 in
theorem rget4_any (a : Option Addr) (m c : Nat) (bs : List UInt8) (hm : bs.length = m) (w : World) (hB : Bs w a bs) (hm' : m ≤ 140737488351232) : Calls Tryz.prog 21 #[.slice a m c] w (GetEnd4 bs w) := by
  obtain ⟨W0, hW0⟩ : ∃ W0, W0 = w.alloc (.cells #[.slice none 0 0, .slice none 0 0] 27) := ⟨_, rfl⟩
  have hz0 : w.heap.size + 1 ≤ W0.heap.size := by rw [hW0]; simp
  have hb0 : Below w.heap.size w W0 := by rw [hW0]; exact (Below.refl _ w).alloc (Nat.le_refl _) _
  have b0 : W0.heap[w.heap.size]? = some (.cells #[.slice none 0 0, .slice none 0 0] 27 (0, 0)) := by rw [hW0]; exact heap_alloc_new w _
  have hNew := fnew_any a m c bs W0 hm hm' (hB.keep (below_keep hb0))
  obtain ⟨n1, l1, e1⟩ := gByte_nat (bs, 0)
  have hc : gConsts (bs, 0) = gMany gText n1 (gByte (bs, 0)).2 := by unfold gConsts; rw [e1, Int.toNat_natCast]
  have hS : gScr (bs, 0) = (⟨(gConsts (bs, 0)).1, (gFuncs (gConsts (bs, 0)).2).1⟩, (gFuncs (gConsts (bs, 0)).2).2) := rfl
  obtain ⟨n2, l2, e2⟩ := gByte_nat (gConsts (bs, 0)).2
  have hf : gFuncs (gConsts (bs, 0)).2 = gMany gFn n2 (gByte (gConsts (bs, 0)).2).2 := by unfold gFuncs; rw [e2, Int.toNat_natCast]
  have hok : getOk bs = (decide (doneOf (gScr (bs, 0)).2.1 (gScr (bs, 0)).2.2 = 0) && (gScr (bs, 0)).1.right) := rfl
  have hsf := gScr_fits (bs, 0)
  have hi64 := gScr_i64 (bs, 0)
  have hno := fun h => get_no (bs := bs) h
  have hyes := fun h => get_yes (bs := bs) h
  have hBy0 : ∀ W q g, FS W q g bs (bs, 0) → _ := fun W q g HW => fbyte_s q g bs (bs, 0) W HW
  rw [e1] at hBy0
  rw [hf, hc] at hS
  generalize (gByte (bs, 0)).2 = s1 at *
  rw [hc] at e2
  have hBy1 : ∀ W q g, FS W q g bs (gMany gText n1 s1).2 → _ := fun W q g HW => fbyte_s q g bs (gMany gText n1 s1).2 W HW
  rw [e2] at hBy1
  generalize hs2 : (gByte (gMany gText n1 s1).2).2 = s2 at *
  have HS := hid hS
  clear hS hf hc e1 e2
  go_enter Tryz.func21, Tryz.ntmps21
  go_wp2_with fail
  rw [← hW0]
  clear hW0
  refine hNew.mono ?_
  clear hNew
  rintro e w1 ⟨q, g0, rfl, hq, _, HR0, hb1⟩
  have b1 := (hb1.block _ (lt_of_block b0)).trans b0
  have lb1 := lt_of_block b1
  obtain ⟨g, HR, hgl⟩ := HR0.low w.heap.size (by omega) lb1
  have lq : q < w1.heap.size := by obtain ⟨⟨ao, cap, hE, _⟩, _⟩ := HR; exact lt_of_block hE
  have F1 : FS w1 q g bs (bs, 0) := ⟨0, HR, rfl⟩
  obtain ⟨B, hBe⟩ : ∃ B, B = w1.heap.size := ⟨_, rfl⟩
  have S1 : GetSt w q g bs B (w1.alloc (.cells #[.slice none 0 0, .slice none 0 0] 27)) (bs, 0) (.slice none 0 0) (.slice none 0 0) [] [] [] := by
    rw [hBe]
    exact ⟨heap_alloc_new w1 _, World.ownsRow_nil _ _ _ _, World.ownsRow_nil _ _ _ _, FRow.nil _, F1.chg (Chg.alloc w1 _ (fun _ => False)) id id, (hb0.trans (hb1.mono hb0.size)).alloc (by omega) _, by rw [Below.heap_alloc _ _ _ lb1]; exact b1, by omega, by omega, by omega⟩
  have hU := hBy0 _ _ _ S1.fs
  clear hBy0 HR0 HR F1 hb1 b0 b1
  go_wp2_with fail
  rw [← hBe]
  refine hU.mono ?_
  clear hU
  rintro e w2 ⟨rfl, F2, c2⟩
  have S2 := S1.call c2 F2
  clear S1 F2 c2 hBe lq hgl lb1 hb0
  go_wp2_with fail
  go_loopw [7] (fun i wr => ∃ (k : Nat) (L : List (List UInt8)) (s : RSt) (c0 : Value), k ≤ n1 ∧ i = .int .i64 k ∧ L.length = k ∧ Hid (gMany gText n1 s1 = (L ++ (gMany gText (n1 - k) s).1, (gMany gText (n1 - k) s).2)) ∧ GetSt w q g bs B wr s c0 (.slice none 0 0) L [] []) (fun i _ => n1 - (intOf i).toNat)
  case atStart => exact ⟨0, [], s1, .slice none 0 0, Nat.zero_le _, rfl, rfl, hid (by simp), S2⟩
  case round =>
    obtain ⟨k, L, s, c0, hk, rfl, hL, HM, S⟩ := hrel
    obtain ⟨ce, hqw⟩ := S.fs.cell
    by_cases hlt : k < n1
    · by_cases herr : s.2 = 0
      · have HM' := hid (gMany_round hlt herr HM.out)
        rw [herr] at ce
        have HV := hid (manyS_snoc L (gText s).1)
        have hO := ftext_s q g bs s wr.drew S.drew.fs
        obtain ⟨x, hx⟩ : ∃ x, x = (gText s).1 := ⟨_, rfl⟩
        obtain ⟨s', hs'⟩ : ∃ s', s' = (gText s).2 := ⟨_, rfl⟩
        rw [← hx] at hO HV HM'
        rw [← hs'] at hO HM'
        clear HM hx hs'
        obtain ⟨i0, i1, i2, i3⟩ := S.cells
        have zB := S.size
        obtain ⟨xs, hxs⟩ : ∃ xs, xs = cellsS L := ⟨_, rfl⟩
        rw [← hxs] at HV
        have HX := hid hxs
        clear hxs
        obtain ⟨y0, d0, hc0, _⟩ := row_form S.q0
        rw [hL] at hc0
        subst hc0
        have SD := S.drew
        go_upto_region 7 with fail
        have r0 := SD.q0
        rw [hL, ← HX.out] at r0
        go_region_law (first
          | (refine step_call2 (by rfl) 39 _ _ (by rfl) (Go.Proofs.enters_of Tryz.func39 (by kernel_rfl) rfl) #[.pointer (some ⟨q, 0, none⟩)] (by rfl) _ hO ?_; rintro e w8 ⟨rfl, F8, c8⟩; refine ⟨_, rfl, ?_⟩; clear hO; have S8 := SD.call c8 F8; obtain ⟨j0, j1, j2, j3⟩ := S8.cells; have z8 := S8.size; have r8 := S8.q0; rw [hL, ← HX.out] at r8; have zB8 : B < w8.heap.size := (by omega))
          | (refine step_appN _ (by rfl) (.tmp 27) (.tmp 30) 24 (by rfl) elemN_str (B + 1) _ k xs (by rfl) (World.ownsRow.alloc r8 _) _ (by rfl) 1 [Value.string ⟨x.toArray⟩] (.inr ⟨⟨w8.heap.size, 0, none⟩, 1, rfl, cells_new4 w8 [Value.string ⟨x.toArray⟩] 9 _ rfl⟩) rfl (by simp [Value.oneCell']) (by unfold maxLen; omega) (by omega) (by simp; omega) ?_; intro v' w12 hr12 hs12; obtain ⟨y12, t12, rfl, _⟩ := row_form hr12; have b12 := step_blk (World.ownsRow.alloc r8 _) hs12 (S8.alloc (.cells #[.string ⟨x.toArray⟩] 9)).blk (by decide); obtain ⟨m0, m1, m2, m3⟩ := cells2 b12))
        all_goals
          have S12 := (S8.alloc (.cells #[.string ⟨x.toArray⟩] 9)).app0 hs12 (P := L ++ [x]) (by rw [HV.out]; simpa [hL] using hr12) rfl
          go_wp2_with fail
          exact ⟨⟨k + 1, L ++ [x], s', _, by omega, by go_num, by simp [hL], HM', S12⟩, by simp [intOf]; omega⟩
      · have hne : (s.2 == 0) = false := by simp [herr]
        have hE := gMany_end (.inr herr) HM.out
        clear HM
        generalize s.2 = er at ce hne
        have HE1 := hid hE
        obtain ⟨y1', d1', hc0', _⟩ := row_form S.q0
        have hBy := hBy1
        rw [hE] at hBy
        have hU := hBy _ _ _ S.fs
        clear hBy hBy1
        go_wp2_with (go_at_call 38; refine hU.mono ?_; clear hU; rintro e w20 ⟨rfl, F20, c20⟩)
        have S20 := S.call c20 F20
        go_loopw [8] (fun i wr => ∃ (k : Nat) (M : List Fn) (s : RSt) (c1 : Value) (xs : List Value), k ≤ n2 ∧ i = .int .i64 k ∧ M.length = k ∧ Hid (gMany gFn n2 s2 = (M ++ (gMany gFn (n2 - k) s).1, (gMany gFn (n2 - k) s).2)) ∧ GetSt w q g bs B wr s c0 c1 L M xs) (fun i _ => n2 - (intOf i).toNat)
        case atStart => exact ⟨0, [], s2, .slice none 0 0, [], Nat.zero_le _, rfl, rfl, hid (by simp), S20⟩
        case round =>
          obtain ⟨k, M, t, c1, xs, hk, rfl, hM, HM, T⟩ := hrel
          obtain ⟨ce, hqw⟩ := T.fs.cell
          by_cases hlt : k < n2
          · by_cases herr : t.2 = 0
            · have HM' := hid (gMany_round hlt herr HM.out)
              rw [herr] at ce
              have hO := rfunction_any q g bs t wr.drew T.drew.fs (by have := T.hg; have := T.size; show g < wr.heap.size; omega)
              obtain ⟨x, hx⟩ : ∃ x, x = (gFn t).1 := ⟨_, rfl⟩
              obtain ⟨s', hs'⟩ : ∃ s', s' = (gFn t).2 := ⟨_, rfl⟩
              rw [← hx] at hO HM'
              rw [← hs'] at hO HM'
              clear HM hx hs'
              obtain ⟨i0, i1, i2, i3⟩ := T.cells
              have zB := T.size
              obtain ⟨y1, d1, hc1, _⟩ := row_form T.q1
              rw [hM] at hc1
              subst hc1
              have TD := T.drew
              go_upto_region 12 with fail
              go_region_law (first
                | (refine step_call2 (by rfl) 40 _ _ (by rfl) (Go.Proofs.enters_of Tryz.func40 (by kernel_rfl) rfl) #[.pointer (some ⟨q, 0, none⟩)] (by rfl) _ hO ?_; rintro e w28 ⟨⟨u0, u1, u2, u3, rfl, hQ⟩, F28, c28⟩; refine ⟨_, rfl, ?_⟩; clear hO; have T8 := TD.call c28 F28; obtain ⟨j0, j1, j2, j3⟩ := T8.cells; have z28 := T8.size; have r28 := T8.q1; rw [hM] at r28; have h4 := hQ.forms; obtain ⟨g0', p0', rfl, _⟩ := row_form hQ.1; obtain ⟨g1', p1', rfl, _⟩ := row_form hQ.2.1; obtain ⟨g2', p2', rfl, _⟩ := row_form hQ.2.2.1; obtain ⟨g3', p3', rfl, _⟩ := row_form hQ.2.2.2; have zB8 : B < w28.heap.size := (by omega))
                | (refine step_appN _ (by rfl) (.tmp 48) (.tmp 51) 25 (by rfl) elemN_fn (B + 1) _ k xs (by rfl) (World.ownsRow.alloc r28 _) _ (by rfl) 1 [.slice g0' x.p.length p0', .slice g1' x.r.length p1', .slice g2' x.l.length p2', .slice g3' x.code.length p3'] (.inr ⟨⟨w28.heap.size, 0, none⟩, 1, rfl, cells_new4 w28 [.slice g0' x.p.length p0', .slice g1' x.r.length p1', .slice g2' x.l.length p2', .slice g3' x.code.length p3'] 49 _ rfl⟩) rfl h4 (by unfold maxLen; omega) (by omega) (by simp; omega) ?_; intro v' w32 hr32 hs32; obtain ⟨y32, t32, rfl, _⟩ := row_form hr32; have b32 := step_blk (World.ownsRow.alloc r28 _) hs32 (T8.alloc (.cells #[.slice g0' x.p.length p0', .slice g1' x.r.length p1', .slice g2' x.l.length p2', .slice g3' x.code.length p3'] 49)).blk (by decide); obtain ⟨m0, m1, m2, m3⟩ := cells2 b32))
              all_goals
                have FR := getf_step (by have := TD.hq; omega) TD.size TD.q1 TD.fr c28 hQ hs32
                have T12 := (T8.alloc (.cells #[.slice g0' x.p.length p0', .slice g1' x.r.length p1', .slice g2' x.l.length p2', .slice g3' x.code.length p3'] 49)).app1 hs32 (P := M ++ [x]) (by simpa [hM] using hr32) FR
                go_wp2_with fail
                exact ⟨⟨k + 1, M ++ [x], s', _, _, by omega, by go_num, by simp [hM], HM', T12⟩, by simp [intOf]; omega⟩
            · have hne2 : (t.2 == 0) = false := by simp [herr]
              have hE2 := gMany_end (.inr herr) HM.out
              obtain ⟨er2, her2⟩ : ∃ e, e = t.2 := ⟨_, rfl⟩
              rw [← her2] at ce hne2
              clear her2
              have HG : Hid (gScr (bs, 0) = (⟨L, M⟩, t)) := hid (by rw [HS.out, HE1.out, hE2])
              have hok' := hok
              have hsf' := hsf
              have hyes' := hyes
              have hi' := hi64
              rw [HG.out] at hok' hsf' hyes' hi'
              clear hok hsf hyes hi64 HM
              have b7 := T.res
              have isT := T.is
              have hD := fdone_s q g bs t wr T.fs
              have isT' := isT
              obtain ⟨⟨y0, d0, hc0, _⟩, ⟨y1, d1, hc1, _⟩⟩ := isT'
              simp only at hc0 hc1
              subst hc0
              subst hc1
              have bT := T.blk
              have eB := T.hB
              have keep5 : ∀ W, Below wr.heap.size wr W → (W.cell? ⟨w.heap.size, 0, none⟩ = some (.slice none 0 0) ∧ W.cell? ⟨w.heap.size, 1, none⟩ = some (.slice none 0 0) ∧ W.frozen? ⟨w.heap.size, 0, none⟩ = false ∧ W.frozen? ⟨w.heap.size, 1, none⟩ = false) ∧ W.cell? ⟨B, 0, none⟩ = some (.slice y0 L.length d0) ∧ W.cell? ⟨B, 1, none⟩ = some (.slice y1 M.length d1) := fun W hW => by
                obtain ⟨a0, a1, _, _⟩ := cells2 ((hW.block _ (lt_of_block bT)).trans bT)
                exact ⟨cells2 ((hW.block _ (lt_of_block b7)).trans b7), a0, a1⟩
              have fin0 : getOk bs = false → ∀ W, Below wr.heap.size wr W → ((W.setCell ⟨w.heap.size, 0, none⟩ (.slice none 0 0)).setCell ⟨w.heap.size, 1, none⟩ (.slice none 0 0)).cell? ⟨w.heap.size, 0, none⟩ = some (.slice none 0 0) ∧ ((W.setCell ⟨w.heap.size, 0, none⟩ (.slice none 0 0)).setCell ⟨w.heap.size, 1, none⟩ (.slice none 0 0)).cell? ⟨w.heap.size, 1, none⟩ = some (.slice none 0 0) ∧ GetEnd4 bs w (.returned (.tuple #[.agg #[.slice none 0 0, .slice none 0 0], .int .i64 30])) ((W.setCell ⟨w.heap.size, 0, none⟩ (.slice none 0 0)).setCell ⟨w.heap.size, 1, none⟩ (.slice none 0 0)) := fun hf W hW => by
                have b5 := (hW.block _ (lt_of_block b7)).trans b7
                obtain ⟨j0, j1, _, _⟩ := cells2 (set2_1 (u := .slice none 0 0) (set2_0 (u := .slice none 0 0) b5))
                have hb := ((T.below.trans (hW.mono T.below.size)).setCell (p := ⟨w.heap.size, 0, none⟩) (Nat.le_refl _) (.slice none 0 0)).setCell (p := ⟨w.heap.size, 1, none⟩) (Nat.le_refl _) (.slice none 0 0)
                refine ⟨j0, j1, ⟨(.slice none 0 0), (.slice none 0 0), ?_, ?_⟩, hb⟩
                · rw [(hno hf).1]
                · rw [(hno hf).2]; exact scr_none _
              have fin1 : getOk bs = true → ∀ W, Below wr.heap.size wr W → ((W.setCell ⟨w.heap.size, 0, none⟩ (.slice y0 L.length d0)).setCell ⟨w.heap.size, 1, none⟩ (.slice y1 M.length d1)).cell? ⟨w.heap.size, 0, none⟩ = some (.slice y0 L.length d0) ∧ ((W.setCell ⟨w.heap.size, 0, none⟩ (.slice y0 L.length d0)).setCell ⟨w.heap.size, 1, none⟩ (.slice y1 M.length d1)).cell? ⟨w.heap.size, 1, none⟩ = some (.slice y1 M.length d1) ∧ GetEnd4 bs w (.returned (.tuple #[.agg #[.slice y0 L.length d0, .slice y1 M.length d1], .int .i64 0])) ((W.setCell ⟨w.heap.size, 0, none⟩ (.slice y0 L.length d0)).setCell ⟨w.heap.size, 1, none⟩ (.slice y1 M.length d1)) := fun hf W hW => by
                have b5 := (hW.block _ (lt_of_block b7)).trans b7
                obtain ⟨j0, j1, _, _⟩ := cells2 (set2_1 (u := .slice y1 M.length d1) (set2_0 (u := .slice y0 L.length d0) b5))
                have k5 := (Chg.setCell W ⟨w.heap.size, 0, none⟩ (.slice y0 L.length d0)).trans (Chg.setCell _ ⟨w.heap.size, 1, none⟩ (.slice y1 M.length d1)) fun _ _ e => e
                have hb := ((T.below.trans (hW.mono T.below.size)).setCell (p := ⟨w.heap.size, 0, none⟩) (Nat.le_refl _) (.slice y0 L.length d0)).setCell (p := ⟨w.heap.size, 1, none⟩) (Nat.le_refl _) (.slice y1 M.length d1)
                have I5 := (isT.keep (upFrom_chg (Chg.of_below (S := fun _ => False) hW) (fun _ e => e.elim) (Nat.le_refl _))).keep (upFrom_chg k5 (B' := 0) (fun i (e : i = w.heap.size) => by omega) (Nat.zero_le _))
                refine ⟨j0, j1, ⟨(.slice y0 L.length d0), (.slice y1 M.length d1), ?_, ?_⟩, hb⟩
                · rw [(hyes' hf).1]
                · rw [(hyes' hf).2]; exact I5.keep upFrom_le
              have hRt : ∀ W, Below wr.heap.size wr W → Calls Tryz.prog 24 #[.agg #[.slice y0 L.length d0, .slice y1 M.length d1]] W fun e w' => e = .returned (.bool (Scr.right ⟨L, M⟩)) ∧ Below W.heap.size W w' := fun W hW => rright4_any ⟨L, M⟩ _ _ W ((isT.keep upFrom_le).keep (below_keep hW)) hsf' hi'
              clear hL hM
              clear T isT bT b7
              by_cases hd : doneOf t.1 t.2 = 0
              · rw [hd] at hD
                cases hr : Scr.right ⟨L, M⟩ with
                | false =>
                  have hf : getOk bs = false := by rw [hok', hr]; simp
                  rw [hr] at hRt
                  go_wp2_with (first | (go_at_call 41; refine hD.mono ?_; rintro e w40 ⟨rfl, hb40⟩; clear hD; obtain ⟨⟨r0, r1, r2, r3⟩, r4, r5⟩ := keep5 w40 hb40; have hR40 := hRt w40 hb40) | (go_at_call 24; refine hR40.mono ?_; rintro e w41 ⟨rfl, hb41'⟩; have hb41 := hb40.trans (hb41'.mono hb40.size); obtain ⟨⟨v0, v1, v2, v3⟩, v4, v5⟩ := keep5 w41 hb41))
                  obtain ⟨j0, j1, F⟩ := fin0 hf w41 hb41
                  exact ret_scr2 rfl rfl rfl rfl j0 j1 F
                | true =>
                  have hf : getOk bs = true := by rw [hok', hr, hd]; rfl
                  rw [hr] at hRt
                  go_wp2_with (first | (go_at_call 41; refine hD.mono ?_; rintro e w40 ⟨rfl, hb40⟩; clear hD; obtain ⟨⟨r0, r1, r2, r3⟩, r4, r5⟩ := keep5 w40 hb40; have hR40 := hRt w40 hb40) | (go_at_call 24; refine hR40.mono ?_; rintro e w41 ⟨rfl, hb41'⟩; have hb41 := hb40.trans (hb41'.mono hb40.size); obtain ⟨⟨v0, v1, v2, v3⟩, v4, v5⟩ := keep5 w41 hb41))
                  obtain ⟨j0, j1, F⟩ := fin1 hf w41 hb41
                  exact ret_scr2 rfl rfl rfl rfl j0 j1 F
              · have hf : getOk bs = false := by rw [hok', decide_eq_false hd]; rfl
                have hnd : (doneOf t.1 t.2 != 0) = true := by simp [hd]
                generalize doneOf t.1 t.2 = dn at hD hnd
                go_wp2_with (first | (go_at_call 41; refine hD.mono ?_; rintro e w40 ⟨rfl, hb40⟩; clear hD; obtain ⟨⟨r0, r1, r2, r3⟩, r4, r5⟩ := keep5 w40 hb40))
                obtain ⟨j0, j1, F⟩ := fin0 hf w40 hb40
                exact ret_scr2 rfl rfl rfl rfl j0 j1 F
          · obtain rfl : k = n2 := by omega
            have hE2 := gMany_end (.inl rfl) HM.out
            have HG : Hid (gScr (bs, 0) = (⟨L, M⟩, t)) := hid (by rw [HS.out, HE1.out, hE2])
            have hok' := hok
            have hsf' := hsf
            have hyes' := hyes
            have hi' := hi64
            rw [HG.out] at hok' hsf' hyes' hi'
            clear hok hsf hyes hi64 HM
            have b7 := T.res
            have isT := T.is
            have hD := fdone_s q g bs t wr T.fs
            have isT' := isT
            obtain ⟨⟨y0, d0, hc0, _⟩, ⟨y1, d1, hc1, _⟩⟩ := isT'
            simp only at hc0 hc1
            subst hc0
            subst hc1
            have bT := T.blk
            have eB := T.hB
            have keep5 : ∀ W, Below wr.heap.size wr W → (W.cell? ⟨w.heap.size, 0, none⟩ = some (.slice none 0 0) ∧ W.cell? ⟨w.heap.size, 1, none⟩ = some (.slice none 0 0) ∧ W.frozen? ⟨w.heap.size, 0, none⟩ = false ∧ W.frozen? ⟨w.heap.size, 1, none⟩ = false) ∧ W.cell? ⟨B, 0, none⟩ = some (.slice y0 L.length d0) ∧ W.cell? ⟨B, 1, none⟩ = some (.slice y1 M.length d1) := fun W hW => by
              obtain ⟨a0, a1, _, _⟩ := cells2 ((hW.block _ (lt_of_block bT)).trans bT)
              exact ⟨cells2 ((hW.block _ (lt_of_block b7)).trans b7), a0, a1⟩
            have fin0 : getOk bs = false → ∀ W, Below wr.heap.size wr W → ((W.setCell ⟨w.heap.size, 0, none⟩ (.slice none 0 0)).setCell ⟨w.heap.size, 1, none⟩ (.slice none 0 0)).cell? ⟨w.heap.size, 0, none⟩ = some (.slice none 0 0) ∧ ((W.setCell ⟨w.heap.size, 0, none⟩ (.slice none 0 0)).setCell ⟨w.heap.size, 1, none⟩ (.slice none 0 0)).cell? ⟨w.heap.size, 1, none⟩ = some (.slice none 0 0) ∧ GetEnd4 bs w (.returned (.tuple #[.agg #[.slice none 0 0, .slice none 0 0], .int .i64 30])) ((W.setCell ⟨w.heap.size, 0, none⟩ (.slice none 0 0)).setCell ⟨w.heap.size, 1, none⟩ (.slice none 0 0)) := fun hf W hW => by
              have b5 := (hW.block _ (lt_of_block b7)).trans b7
              obtain ⟨j0, j1, _, _⟩ := cells2 (set2_1 (u := .slice none 0 0) (set2_0 (u := .slice none 0 0) b5))
              have hb := ((T.below.trans (hW.mono T.below.size)).setCell (p := ⟨w.heap.size, 0, none⟩) (Nat.le_refl _) (.slice none 0 0)).setCell (p := ⟨w.heap.size, 1, none⟩) (Nat.le_refl _) (.slice none 0 0)
              refine ⟨j0, j1, ⟨(.slice none 0 0), (.slice none 0 0), ?_, ?_⟩, hb⟩
              · rw [(hno hf).1]
              · rw [(hno hf).2]; exact scr_none _
            have fin1 : getOk bs = true → ∀ W, Below wr.heap.size wr W → ((W.setCell ⟨w.heap.size, 0, none⟩ (.slice y0 L.length d0)).setCell ⟨w.heap.size, 1, none⟩ (.slice y1 M.length d1)).cell? ⟨w.heap.size, 0, none⟩ = some (.slice y0 L.length d0) ∧ ((W.setCell ⟨w.heap.size, 0, none⟩ (.slice y0 L.length d0)).setCell ⟨w.heap.size, 1, none⟩ (.slice y1 M.length d1)).cell? ⟨w.heap.size, 1, none⟩ = some (.slice y1 M.length d1) ∧ GetEnd4 bs w (.returned (.tuple #[.agg #[.slice y0 L.length d0, .slice y1 M.length d1], .int .i64 0])) ((W.setCell ⟨w.heap.size, 0, none⟩ (.slice y0 L.length d0)).setCell ⟨w.heap.size, 1, none⟩ (.slice y1 M.length d1)) := fun hf W hW => by
              have b5 := (hW.block _ (lt_of_block b7)).trans b7
              obtain ⟨j0, j1, _, _⟩ := cells2 (set2_1 (u := .slice y1 M.length d1) (set2_0 (u := .slice y0 L.length d0) b5))
              have k5 := (Chg.setCell W ⟨w.heap.size, 0, none⟩ (.slice y0 L.length d0)).trans (Chg.setCell _ ⟨w.heap.size, 1, none⟩ (.slice y1 M.length d1)) fun _ _ e => e
              have hb := ((T.below.trans (hW.mono T.below.size)).setCell (p := ⟨w.heap.size, 0, none⟩) (Nat.le_refl _) (.slice y0 L.length d0)).setCell (p := ⟨w.heap.size, 1, none⟩) (Nat.le_refl _) (.slice y1 M.length d1)
              have I5 := (isT.keep (upFrom_chg (Chg.of_below (S := fun _ => False) hW) (fun _ e => e.elim) (Nat.le_refl _))).keep (upFrom_chg k5 (B' := 0) (fun i (e : i = w.heap.size) => by omega) (Nat.zero_le _))
              refine ⟨j0, j1, ⟨(.slice y0 L.length d0), (.slice y1 M.length d1), ?_, ?_⟩, hb⟩
              · rw [(hyes' hf).1]
              · rw [(hyes' hf).2]; exact I5.keep upFrom_le
            have hRt : ∀ W, Below wr.heap.size wr W → Calls Tryz.prog 24 #[.agg #[.slice y0 L.length d0, .slice y1 M.length d1]] W fun e w' => e = .returned (.bool (Scr.right ⟨L, M⟩)) ∧ Below W.heap.size W w' := fun W hW => rright4_any ⟨L, M⟩ _ _ W ((isT.keep upFrom_le).keep (below_keep hW)) hsf' hi'
            clear hL hM
            clear T isT bT b7
            by_cases hd : doneOf t.1 t.2 = 0
            · rw [hd] at hD
              cases hr : Scr.right ⟨L, M⟩ with
              | false =>
                have hf : getOk bs = false := by rw [hok', hr]; simp
                rw [hr] at hRt
                go_wp2_with (first | (go_at_call 41; refine hD.mono ?_; rintro e w40 ⟨rfl, hb40⟩; clear hD; obtain ⟨⟨r0, r1, r2, r3⟩, r4, r5⟩ := keep5 w40 hb40; have hR40 := hRt w40 hb40) | (go_at_call 24; refine hR40.mono ?_; rintro e w41 ⟨rfl, hb41'⟩; have hb41 := hb40.trans (hb41'.mono hb40.size); obtain ⟨⟨v0, v1, v2, v3⟩, v4, v5⟩ := keep5 w41 hb41))
                obtain ⟨j0, j1, F⟩ := fin0 hf w41 hb41
                exact ret_scr2 rfl rfl rfl rfl j0 j1 F
              | true =>
                have hf : getOk bs = true := by rw [hok', hr, hd]; rfl
                rw [hr] at hRt
                go_wp2_with (first | (go_at_call 41; refine hD.mono ?_; rintro e w40 ⟨rfl, hb40⟩; clear hD; obtain ⟨⟨r0, r1, r2, r3⟩, r4, r5⟩ := keep5 w40 hb40; have hR40 := hRt w40 hb40) | (go_at_call 24; refine hR40.mono ?_; rintro e w41 ⟨rfl, hb41'⟩; have hb41 := hb40.trans (hb41'.mono hb40.size); obtain ⟨⟨v0, v1, v2, v3⟩, v4, v5⟩ := keep5 w41 hb41))
                obtain ⟨j0, j1, F⟩ := fin1 hf w41 hb41
                exact ret_scr2 rfl rfl rfl rfl j0 j1 F
            · have hf : getOk bs = false := by rw [hok', decide_eq_false hd]; rfl
              have hnd : (doneOf t.1 t.2 != 0) = true := by simp [hd]
              generalize doneOf t.1 t.2 = dn at hD hnd
              go_wp2_with (first | (go_at_call 41; refine hD.mono ?_; rintro e w40 ⟨rfl, hb40⟩; clear hD; obtain ⟨⟨r0, r1, r2, r3⟩, r4, r5⟩ := keep5 w40 hb40))
              obtain ⟨j0, j1, F⟩ := fin0 hf w40 hb40
              exact ret_scr2 rfl rfl rfl rfl j0 j1 F
    · obtain rfl : k = n1 := by omega
      have hE := gMany_end (.inl rfl) HM.out
      clear HM
      have HE1 := hid hE
      obtain ⟨y1', d1', hc0', _⟩ := row_form S.q0
      have hBy := hBy1
      rw [hE] at hBy
      have hU := hBy _ _ _ S.fs
      clear hBy hBy1
      go_wp2_with (go_at_call 38; refine hU.mono ?_; clear hU; rintro e w20 ⟨rfl, F20, c20⟩)
      have S20 := S.call c20 F20
      go_loopw [8] (fun i wr => ∃ (k : Nat) (M : List Fn) (s : RSt) (c1 : Value) (xs : List Value), k ≤ n2 ∧ i = .int .i64 k ∧ M.length = k ∧ Hid (gMany gFn n2 s2 = (M ++ (gMany gFn (n2 - k) s).1, (gMany gFn (n2 - k) s).2)) ∧ GetSt w q g bs B wr s c0 c1 L M xs) (fun i _ => n2 - (intOf i).toNat)
      case atStart => exact ⟨0, [], s2, .slice none 0 0, [], Nat.zero_le _, rfl, rfl, hid (by simp), S20⟩
      case round =>
        obtain ⟨k, M, t, c1, xs, hk, rfl, hM, HM, T⟩ := hrel
        obtain ⟨ce, hqw⟩ := T.fs.cell
        by_cases hlt : k < n2
        · by_cases herr : t.2 = 0
          · have HM' := hid (gMany_round hlt herr HM.out)
            rw [herr] at ce
            have hO := rfunction_any q g bs t wr.drew T.drew.fs (by have := T.hg; have := T.size; show g < wr.heap.size; omega)
            obtain ⟨x, hx⟩ : ∃ x, x = (gFn t).1 := ⟨_, rfl⟩
            obtain ⟨s', hs'⟩ : ∃ s', s' = (gFn t).2 := ⟨_, rfl⟩
            rw [← hx] at hO HM'
            rw [← hs'] at hO HM'
            clear HM hx hs'
            obtain ⟨i0, i1, i2, i3⟩ := T.cells
            have zB := T.size
            obtain ⟨y1, d1, hc1, _⟩ := row_form T.q1
            rw [hM] at hc1
            subst hc1
            have TD := T.drew
            go_upto_region 12 with fail
            go_region_law (first
              | (refine step_call2 (by rfl) 40 _ _ (by rfl) (Go.Proofs.enters_of Tryz.func40 (by kernel_rfl) rfl) #[.pointer (some ⟨q, 0, none⟩)] (by rfl) _ hO ?_; rintro e w28 ⟨⟨u0, u1, u2, u3, rfl, hQ⟩, F28, c28⟩; refine ⟨_, rfl, ?_⟩; clear hO; have T8 := TD.call c28 F28; obtain ⟨j0, j1, j2, j3⟩ := T8.cells; have z28 := T8.size; have r28 := T8.q1; rw [hM] at r28; have h4 := hQ.forms; obtain ⟨g0', p0', rfl, _⟩ := row_form hQ.1; obtain ⟨g1', p1', rfl, _⟩ := row_form hQ.2.1; obtain ⟨g2', p2', rfl, _⟩ := row_form hQ.2.2.1; obtain ⟨g3', p3', rfl, _⟩ := row_form hQ.2.2.2; have zB8 : B < w28.heap.size := (by omega))
              | (refine step_appN _ (by rfl) (.tmp 48) (.tmp 51) 25 (by rfl) elemN_fn (B + 1) _ k xs (by rfl) (World.ownsRow.alloc r28 _) _ (by rfl) 1 [.slice g0' x.p.length p0', .slice g1' x.r.length p1', .slice g2' x.l.length p2', .slice g3' x.code.length p3'] (.inr ⟨⟨w28.heap.size, 0, none⟩, 1, rfl, cells_new4 w28 [.slice g0' x.p.length p0', .slice g1' x.r.length p1', .slice g2' x.l.length p2', .slice g3' x.code.length p3'] 49 _ rfl⟩) rfl h4 (by unfold maxLen; omega) (by omega) (by simp; omega) ?_; intro v' w32 hr32 hs32; obtain ⟨y32, t32, rfl, _⟩ := row_form hr32; have b32 := step_blk (World.ownsRow.alloc r28 _) hs32 (T8.alloc (.cells #[.slice g0' x.p.length p0', .slice g1' x.r.length p1', .slice g2' x.l.length p2', .slice g3' x.code.length p3'] 49)).blk (by decide); obtain ⟨m0, m1, m2, m3⟩ := cells2 b32))
            all_goals
              have FR := getf_step (by have := TD.hq; omega) TD.size TD.q1 TD.fr c28 hQ hs32
              have T12 := (T8.alloc (.cells #[.slice g0' x.p.length p0', .slice g1' x.r.length p1', .slice g2' x.l.length p2', .slice g3' x.code.length p3'] 49)).app1 hs32 (P := M ++ [x]) (by simpa [hM] using hr32) FR
              go_wp2_with fail
              exact ⟨⟨k + 1, M ++ [x], s', _, _, by omega, by go_num, by simp [hM], HM', T12⟩, by simp [intOf]; omega⟩
          · have hne2 : (t.2 == 0) = false := by simp [herr]
            have hE2 := gMany_end (.inr herr) HM.out
            obtain ⟨er2, her2⟩ : ∃ e, e = t.2 := ⟨_, rfl⟩
            rw [← her2] at ce hne2
            clear her2
            have HG : Hid (gScr (bs, 0) = (⟨L, M⟩, t)) := hid (by rw [HS.out, HE1.out, hE2])
            have hok' := hok
            have hsf' := hsf
            have hyes' := hyes
            have hi' := hi64
            rw [HG.out] at hok' hsf' hyes' hi'
            clear hok hsf hyes hi64 HM
            have b7 := T.res
            have isT := T.is
            have hD := fdone_s q g bs t wr T.fs
            have isT' := isT
            obtain ⟨⟨y0, d0, hc0, _⟩, ⟨y1, d1, hc1, _⟩⟩ := isT'
            simp only at hc0 hc1
            subst hc0
            subst hc1
            have bT := T.blk
            have eB := T.hB
            have keep5 : ∀ W, Below wr.heap.size wr W → (W.cell? ⟨w.heap.size, 0, none⟩ = some (.slice none 0 0) ∧ W.cell? ⟨w.heap.size, 1, none⟩ = some (.slice none 0 0) ∧ W.frozen? ⟨w.heap.size, 0, none⟩ = false ∧ W.frozen? ⟨w.heap.size, 1, none⟩ = false) ∧ W.cell? ⟨B, 0, none⟩ = some (.slice y0 L.length d0) ∧ W.cell? ⟨B, 1, none⟩ = some (.slice y1 M.length d1) := fun W hW => by
              obtain ⟨a0, a1, _, _⟩ := cells2 ((hW.block _ (lt_of_block bT)).trans bT)
              exact ⟨cells2 ((hW.block _ (lt_of_block b7)).trans b7), a0, a1⟩
            have fin0 : getOk bs = false → ∀ W, Below wr.heap.size wr W → ((W.setCell ⟨w.heap.size, 0, none⟩ (.slice none 0 0)).setCell ⟨w.heap.size, 1, none⟩ (.slice none 0 0)).cell? ⟨w.heap.size, 0, none⟩ = some (.slice none 0 0) ∧ ((W.setCell ⟨w.heap.size, 0, none⟩ (.slice none 0 0)).setCell ⟨w.heap.size, 1, none⟩ (.slice none 0 0)).cell? ⟨w.heap.size, 1, none⟩ = some (.slice none 0 0) ∧ GetEnd4 bs w (.returned (.tuple #[.agg #[.slice none 0 0, .slice none 0 0], .int .i64 30])) ((W.setCell ⟨w.heap.size, 0, none⟩ (.slice none 0 0)).setCell ⟨w.heap.size, 1, none⟩ (.slice none 0 0)) := fun hf W hW => by
              have b5 := (hW.block _ (lt_of_block b7)).trans b7
              obtain ⟨j0, j1, _, _⟩ := cells2 (set2_1 (u := .slice none 0 0) (set2_0 (u := .slice none 0 0) b5))
              have hb := ((T.below.trans (hW.mono T.below.size)).setCell (p := ⟨w.heap.size, 0, none⟩) (Nat.le_refl _) (.slice none 0 0)).setCell (p := ⟨w.heap.size, 1, none⟩) (Nat.le_refl _) (.slice none 0 0)
              refine ⟨j0, j1, ⟨(.slice none 0 0), (.slice none 0 0), ?_, ?_⟩, hb⟩
              · rw [(hno hf).1]
              · rw [(hno hf).2]; exact scr_none _
            have fin1 : getOk bs = true → ∀ W, Below wr.heap.size wr W → ((W.setCell ⟨w.heap.size, 0, none⟩ (.slice y0 L.length d0)).setCell ⟨w.heap.size, 1, none⟩ (.slice y1 M.length d1)).cell? ⟨w.heap.size, 0, none⟩ = some (.slice y0 L.length d0) ∧ ((W.setCell ⟨w.heap.size, 0, none⟩ (.slice y0 L.length d0)).setCell ⟨w.heap.size, 1, none⟩ (.slice y1 M.length d1)).cell? ⟨w.heap.size, 1, none⟩ = some (.slice y1 M.length d1) ∧ GetEnd4 bs w (.returned (.tuple #[.agg #[.slice y0 L.length d0, .slice y1 M.length d1], .int .i64 0])) ((W.setCell ⟨w.heap.size, 0, none⟩ (.slice y0 L.length d0)).setCell ⟨w.heap.size, 1, none⟩ (.slice y1 M.length d1)) := fun hf W hW => by
              have b5 := (hW.block _ (lt_of_block b7)).trans b7
              obtain ⟨j0, j1, _, _⟩ := cells2 (set2_1 (u := .slice y1 M.length d1) (set2_0 (u := .slice y0 L.length d0) b5))
              have k5 := (Chg.setCell W ⟨w.heap.size, 0, none⟩ (.slice y0 L.length d0)).trans (Chg.setCell _ ⟨w.heap.size, 1, none⟩ (.slice y1 M.length d1)) fun _ _ e => e
              have hb := ((T.below.trans (hW.mono T.below.size)).setCell (p := ⟨w.heap.size, 0, none⟩) (Nat.le_refl _) (.slice y0 L.length d0)).setCell (p := ⟨w.heap.size, 1, none⟩) (Nat.le_refl _) (.slice y1 M.length d1)
              have I5 := (isT.keep (upFrom_chg (Chg.of_below (S := fun _ => False) hW) (fun _ e => e.elim) (Nat.le_refl _))).keep (upFrom_chg k5 (B' := 0) (fun i (e : i = w.heap.size) => by omega) (Nat.zero_le _))
              refine ⟨j0, j1, ⟨(.slice y0 L.length d0), (.slice y1 M.length d1), ?_, ?_⟩, hb⟩
              · rw [(hyes' hf).1]
              · rw [(hyes' hf).2]; exact I5.keep upFrom_le
            have hRt : ∀ W, Below wr.heap.size wr W → Calls Tryz.prog 24 #[.agg #[.slice y0 L.length d0, .slice y1 M.length d1]] W fun e w' => e = .returned (.bool (Scr.right ⟨L, M⟩)) ∧ Below W.heap.size W w' := fun W hW => rright4_any ⟨L, M⟩ _ _ W ((isT.keep upFrom_le).keep (below_keep hW)) hsf' hi'
            clear hL hM
            clear T isT bT b7
            by_cases hd : doneOf t.1 t.2 = 0
            · rw [hd] at hD
              cases hr : Scr.right ⟨L, M⟩ with
              | false =>
                have hf : getOk bs = false := by rw [hok', hr]; simp
                rw [hr] at hRt
                go_wp2_with (first | (go_at_call 41; refine hD.mono ?_; rintro e w40 ⟨rfl, hb40⟩; clear hD; obtain ⟨⟨r0, r1, r2, r3⟩, r4, r5⟩ := keep5 w40 hb40; have hR40 := hRt w40 hb40) | (go_at_call 24; refine hR40.mono ?_; rintro e w41 ⟨rfl, hb41'⟩; have hb41 := hb40.trans (hb41'.mono hb40.size); obtain ⟨⟨v0, v1, v2, v3⟩, v4, v5⟩ := keep5 w41 hb41))
                obtain ⟨j0, j1, F⟩ := fin0 hf w41 hb41
                exact ret_scr2 rfl rfl rfl rfl j0 j1 F
              | true =>
                have hf : getOk bs = true := by rw [hok', hr, hd]; rfl
                rw [hr] at hRt
                go_wp2_with (first | (go_at_call 41; refine hD.mono ?_; rintro e w40 ⟨rfl, hb40⟩; clear hD; obtain ⟨⟨r0, r1, r2, r3⟩, r4, r5⟩ := keep5 w40 hb40; have hR40 := hRt w40 hb40) | (go_at_call 24; refine hR40.mono ?_; rintro e w41 ⟨rfl, hb41'⟩; have hb41 := hb40.trans (hb41'.mono hb40.size); obtain ⟨⟨v0, v1, v2, v3⟩, v4, v5⟩ := keep5 w41 hb41))
                obtain ⟨j0, j1, F⟩ := fin1 hf w41 hb41
                exact ret_scr2 rfl rfl rfl rfl j0 j1 F
            · have hf : getOk bs = false := by rw [hok', decide_eq_false hd]; rfl
              have hnd : (doneOf t.1 t.2 != 0) = true := by simp [hd]
              generalize doneOf t.1 t.2 = dn at hD hnd
              go_wp2_with (first | (go_at_call 41; refine hD.mono ?_; rintro e w40 ⟨rfl, hb40⟩; clear hD; obtain ⟨⟨r0, r1, r2, r3⟩, r4, r5⟩ := keep5 w40 hb40))
              obtain ⟨j0, j1, F⟩ := fin0 hf w40 hb40
              exact ret_scr2 rfl rfl rfl rfl j0 j1 F
        · obtain rfl : k = n2 := by omega
          have hE2 := gMany_end (.inl rfl) HM.out
          have HG : Hid (gScr (bs, 0) = (⟨L, M⟩, t)) := hid (by rw [HS.out, HE1.out, hE2])
          have hok' := hok
          have hsf' := hsf
          have hyes' := hyes
          have hi' := hi64
          rw [HG.out] at hok' hsf' hyes' hi'
          clear hok hsf hyes hi64 HM
          have b7 := T.res
          have isT := T.is
          have hD := fdone_s q g bs t wr T.fs
          have isT' := isT
          obtain ⟨⟨y0, d0, hc0, _⟩, ⟨y1, d1, hc1, _⟩⟩ := isT'
          simp only at hc0 hc1
          subst hc0
          subst hc1
          have bT := T.blk
          have eB := T.hB
          have keep5 : ∀ W, Below wr.heap.size wr W → (W.cell? ⟨w.heap.size, 0, none⟩ = some (.slice none 0 0) ∧ W.cell? ⟨w.heap.size, 1, none⟩ = some (.slice none 0 0) ∧ W.frozen? ⟨w.heap.size, 0, none⟩ = false ∧ W.frozen? ⟨w.heap.size, 1, none⟩ = false) ∧ W.cell? ⟨B, 0, none⟩ = some (.slice y0 L.length d0) ∧ W.cell? ⟨B, 1, none⟩ = some (.slice y1 M.length d1) := fun W hW => by
            obtain ⟨a0, a1, _, _⟩ := cells2 ((hW.block _ (lt_of_block bT)).trans bT)
            exact ⟨cells2 ((hW.block _ (lt_of_block b7)).trans b7), a0, a1⟩
          have fin0 : getOk bs = false → ∀ W, Below wr.heap.size wr W → ((W.setCell ⟨w.heap.size, 0, none⟩ (.slice none 0 0)).setCell ⟨w.heap.size, 1, none⟩ (.slice none 0 0)).cell? ⟨w.heap.size, 0, none⟩ = some (.slice none 0 0) ∧ ((W.setCell ⟨w.heap.size, 0, none⟩ (.slice none 0 0)).setCell ⟨w.heap.size, 1, none⟩ (.slice none 0 0)).cell? ⟨w.heap.size, 1, none⟩ = some (.slice none 0 0) ∧ GetEnd4 bs w (.returned (.tuple #[.agg #[.slice none 0 0, .slice none 0 0], .int .i64 30])) ((W.setCell ⟨w.heap.size, 0, none⟩ (.slice none 0 0)).setCell ⟨w.heap.size, 1, none⟩ (.slice none 0 0)) := fun hf W hW => by
            have b5 := (hW.block _ (lt_of_block b7)).trans b7
            obtain ⟨j0, j1, _, _⟩ := cells2 (set2_1 (u := .slice none 0 0) (set2_0 (u := .slice none 0 0) b5))
            have hb := ((T.below.trans (hW.mono T.below.size)).setCell (p := ⟨w.heap.size, 0, none⟩) (Nat.le_refl _) (.slice none 0 0)).setCell (p := ⟨w.heap.size, 1, none⟩) (Nat.le_refl _) (.slice none 0 0)
            refine ⟨j0, j1, ⟨(.slice none 0 0), (.slice none 0 0), ?_, ?_⟩, hb⟩
            · rw [(hno hf).1]
            · rw [(hno hf).2]; exact scr_none _
          have fin1 : getOk bs = true → ∀ W, Below wr.heap.size wr W → ((W.setCell ⟨w.heap.size, 0, none⟩ (.slice y0 L.length d0)).setCell ⟨w.heap.size, 1, none⟩ (.slice y1 M.length d1)).cell? ⟨w.heap.size, 0, none⟩ = some (.slice y0 L.length d0) ∧ ((W.setCell ⟨w.heap.size, 0, none⟩ (.slice y0 L.length d0)).setCell ⟨w.heap.size, 1, none⟩ (.slice y1 M.length d1)).cell? ⟨w.heap.size, 1, none⟩ = some (.slice y1 M.length d1) ∧ GetEnd4 bs w (.returned (.tuple #[.agg #[.slice y0 L.length d0, .slice y1 M.length d1], .int .i64 0])) ((W.setCell ⟨w.heap.size, 0, none⟩ (.slice y0 L.length d0)).setCell ⟨w.heap.size, 1, none⟩ (.slice y1 M.length d1)) := fun hf W hW => by
            have b5 := (hW.block _ (lt_of_block b7)).trans b7
            obtain ⟨j0, j1, _, _⟩ := cells2 (set2_1 (u := .slice y1 M.length d1) (set2_0 (u := .slice y0 L.length d0) b5))
            have k5 := (Chg.setCell W ⟨w.heap.size, 0, none⟩ (.slice y0 L.length d0)).trans (Chg.setCell _ ⟨w.heap.size, 1, none⟩ (.slice y1 M.length d1)) fun _ _ e => e
            have hb := ((T.below.trans (hW.mono T.below.size)).setCell (p := ⟨w.heap.size, 0, none⟩) (Nat.le_refl _) (.slice y0 L.length d0)).setCell (p := ⟨w.heap.size, 1, none⟩) (Nat.le_refl _) (.slice y1 M.length d1)
            have I5 := (isT.keep (upFrom_chg (Chg.of_below (S := fun _ => False) hW) (fun _ e => e.elim) (Nat.le_refl _))).keep (upFrom_chg k5 (B' := 0) (fun i (e : i = w.heap.size) => by omega) (Nat.zero_le _))
            refine ⟨j0, j1, ⟨(.slice y0 L.length d0), (.slice y1 M.length d1), ?_, ?_⟩, hb⟩
            · rw [(hyes' hf).1]
            · rw [(hyes' hf).2]; exact I5.keep upFrom_le
          have hRt : ∀ W, Below wr.heap.size wr W → Calls Tryz.prog 24 #[.agg #[.slice y0 L.length d0, .slice y1 M.length d1]] W fun e w' => e = .returned (.bool (Scr.right ⟨L, M⟩)) ∧ Below W.heap.size W w' := fun W hW => rright4_any ⟨L, M⟩ _ _ W ((isT.keep upFrom_le).keep (below_keep hW)) hsf' hi'
          clear hL hM
          clear T isT bT b7
          by_cases hd : doneOf t.1 t.2 = 0
          · rw [hd] at hD
            cases hr : Scr.right ⟨L, M⟩ with
            | false =>
              have hf : getOk bs = false := by rw [hok', hr]; simp
              rw [hr] at hRt
              go_wp2_with (first | (go_at_call 41; refine hD.mono ?_; rintro e w40 ⟨rfl, hb40⟩; clear hD; obtain ⟨⟨r0, r1, r2, r3⟩, r4, r5⟩ := keep5 w40 hb40; have hR40 := hRt w40 hb40) | (go_at_call 24; refine hR40.mono ?_; rintro e w41 ⟨rfl, hb41'⟩; have hb41 := hb40.trans (hb41'.mono hb40.size); obtain ⟨⟨v0, v1, v2, v3⟩, v4, v5⟩ := keep5 w41 hb41))
              obtain ⟨j0, j1, F⟩ := fin0 hf w41 hb41
              exact ret_scr2 rfl rfl rfl rfl j0 j1 F
            | true =>
              have hf : getOk bs = true := by rw [hok', hr, hd]; rfl
              rw [hr] at hRt
              go_wp2_with (first | (go_at_call 41; refine hD.mono ?_; rintro e w40 ⟨rfl, hb40⟩; clear hD; obtain ⟨⟨r0, r1, r2, r3⟩, r4, r5⟩ := keep5 w40 hb40; have hR40 := hRt w40 hb40) | (go_at_call 24; refine hR40.mono ?_; rintro e w41 ⟨rfl, hb41'⟩; have hb41 := hb40.trans (hb41'.mono hb40.size); obtain ⟨⟨v0, v1, v2, v3⟩, v4, v5⟩ := keep5 w41 hb41))
              obtain ⟨j0, j1, F⟩ := fin1 hf w41 hb41
              exact ret_scr2 rfl rfl rfl rfl j0 j1 F
          · have hf : getOk bs = false := by rw [hok', decide_eq_false hd]; rfl
            have hnd : (doneOf t.1 t.2 != 0) = true := by simp [hd]
            generalize doneOf t.1 t.2 = dn at hD hnd
            go_wp2_with (first | (go_at_call 41; refine hD.mono ?_; rintro e w40 ⟨rfl, hb40⟩; clear hD; obtain ⟨⟨r0, r1, r2, r3⟩, r4, r5⟩ := keep5 w40 hb40))
            obtain ⟨j0, j1, F⟩ := fin0 hf w40 hb40
            exact ret_scr2 rfl rfl rfl rfl j0 j1 F
end Go.Proofs.YtpmlnkjamhelnaaGreat
namespace Go.Proofs.YtpmlnkjamhelnaaGreat
open Go.RowKit

theorem be_drop4 (n : Nat) : (be n 8).drop 4 = be n 4 := by
  have e1 : be n 8 = [UInt8.ofNat (n / 256 ^ 7), UInt8.ofNat (n / 256 ^ 6), UInt8.ofNat (n / 256 ^ 5), UInt8.ofNat (n / 256 ^ 4), UInt8.ofNat (n / 256 ^ 3), UInt8.ofNat (n / 256 ^ 2), UInt8.ofNat (n / 256 ^ 1), UInt8.ofNat (n / 256 ^ 0)] := rfl
  have e2 : be n 4 = [UInt8.ofNat (n / 256 ^ 3), UInt8.ofNat (n / 256 ^ 2), UInt8.ofNat (n / 256 ^ 1), UInt8.ofNat (n / 256 ^ 0)] := rfl
  rw [e1, e2]; rfl
theorem ofNat_mod (a b : Nat) (h : a % 256 = b % 256) : UInt8.ofNat a = UInt8.ofNat b := by
  apply UInt8.toNat_inj.1
  rw [UInt8.toNat_ofNat', UInt8.toNat_ofNat']
  omega
theorem quad (a b c d : Nat) (hb : b < 256) (hc : c < 256) (hd : d < 256) : (a * 16777216 + b * 65536 + c * 256 + d) / 16777216 = a ∧ (a * 16777216 + b * 65536 + c * 256 + d) / 65536 = a * 256 + b ∧ (a * 16777216 + b * 65536 + c * 256 + d) / 256 = a * 65536 + b * 256 + c := by
  refine ⟨?_, ?_, ?_⟩
  · rw [show a * 16777216 + b * 65536 + c * 256 + d = 16777216 * a + (b * 65536 + c * 256 + d) by omega, Nat.mul_add_div (by decide), Nat.div_eq_of_lt (by omega), Nat.add_zero]
  · rw [show a * 16777216 + b * 65536 + c * 256 + d = 65536 * (a * 256 + b) + (c * 256 + d) by omega, Nat.mul_add_div (by decide), Nat.div_eq_of_lt (by omega), Nat.add_zero]
  · rw [show a * 16777216 + b * 65536 + c * 256 + d = 256 * (a * 65536 + b * 256 + c) + d by omega, Nat.mul_add_div (by decide), Nat.div_eq_of_lt (by omega), Nat.add_zero]
theorem be_rev4 (c : Nat) (h : c < 4294967296) : be (rev4 c) 4 = [UInt8.ofNat c, UInt8.ofNat (c / 256), UInt8.ofNat (c / 65536), UInt8.ofNat (c / 16777216)] := by
  have e2 : be (rev4 c) 4 = [UInt8.ofNat (rev4 c / 256 ^ 3), UInt8.ofNat (rev4 c / 256 ^ 2), UInt8.ofNat (rev4 c / 256 ^ 1), UInt8.ofNat (rev4 c / 256 ^ 0)] := rfl
  obtain ⟨q1, q2, q3⟩ := quad (c % 256) (c / 256 % 256) (c / 65536 % 256) (c / 16777216) (by omega) (by omega) (by omega)
  have r : rev4 c = c % 256 * 16777216 + c / 256 % 256 * 65536 + c / 65536 % 256 * 256 + c / 16777216 := rfl
  rw [← r] at q1 q2 q3
  rw [e2, show (256 : Nat) ^ 3 = 16777216 from rfl, show (256 : Nat) ^ 2 = 65536 from rfl, show (256 : Nat) ^ 1 = 256 from rfl, show (256 : Nat) ^ 0 = 1 from rfl, q1, q2, q3, Nat.div_one,
    ofNat_mod (c % 256) c (by omega), ofNat_mod (c % 256 * 256 + c / 256 % 256) (c / 256) (by omega), ofNat_mod (c % 256 * 65536 + c / 256 % 256 * 256 + c / 65536 % 256) (c / 65536) (by omega), ofNat_mod (rev4 c) (c / 16777216) (by rw [r]; omega)]
theorem low_byte (c : Nat) : (c : Int) % 256 = (((UInt8.ofNat c).toNat : Nat) : Int) := by rw [UInt8.toNat_ofNat']; omega

set_option maxHeartbeats 1000000 in
theorem stays_any (g len cap : Nat) (base : Nat) (bs : List UInt8) (ao : Option Addr) (c : Nat) (w : World) (hl : bs.length = len) (hm : len ≤ 140737488351232) (hO : OwnB w base (.slice (some ⟨g, 0, none⟩) (len + 2) cap) (bs ++ [77, 78])) (hb : Bs w ao bs) :
    Calls Tryz.prog 10 #[.slice (some ⟨g, 0, none⟩) len cap, .slice ao len c] w fun e w' => e = .returned (.bool true) ∧ Below w.heap.size w w' := by
  obtain ⟨hcap, hmx, hcell⟩ : len + 2 ≤ cap ∧ cap ≤ maxLen ∧ ∀ j u, ((bs ++ [77, 78]).map bv)[j]? = some u → w.cell? ⟨g, j, none⟩ = some u := by
    obtain ⟨ao', cap', hv, h1, h2, _, _, h5⟩ := Own.form hO
    simp only [Value.slice.injEq] at hv
    obtain ⟨rfl, _, rfl⟩ := hv
    obtain ⟨g', hg', hc⟩ := h5 _ rfl
    cases hg'
    simp only [List.length_map, List.length_append, hl] at h1
    exact ⟨h1, h2, hc⟩
  have hB1 : Bs w (some ⟨g, 0, none⟩) bs := by
    refine .inr ⟨g, 0, rfl, fun j hj => ?_⟩
    rw [Nat.zero_add]
    refine hcell j _ ?_
    rw [List.getElem?_map, List.getElem?_append_left hj, List.getElem?_eq_getElem hj]; rfl
  have c77 : w.cell? ⟨g, len, none⟩ = some (.int .u8 77) := hcell len _ (by subst hl; rw [List.getElem?_map, List.getElem?_append_right (Nat.le_refl _)]; simp [bv])
  have c78 : w.cell? ⟨g, len + 1, none⟩ = some (.int .u8 78) := hcell (len + 1) _ (by subst hl; rw [List.getElem?_map, List.getElem?_append_right (by omega)]; simp [bv])
  have s1 : ∀ nq, (convert 22 9 (.slice (some ⟨g, 0, none⟩) len cap)).run Tryz.prog (w.drewN nq) = .ok (.string ⟨bs.toArray⟩) (w.drewN nq) := fun nq => by
    subst hl; exact run_str (hB1.keep (fun a v h => by simpa using h)) cap
  have s2 : ∀ nq, (convert 22 9 (.slice ao len c)).run Tryz.prog (w.drewN nq) = .ok (.string ⟨bs.toArray⟩) (w.drewN nq) := fun nq => by
    subst hl; exact run_str (hb.keep (fun a v h => by simpa using h)) c
  have hi1 : (0 : Int) ≤ (len : Int) + 2 := by omega
  have hi2 : (len : Int) + 2 ≤ (cap : Int) := by omega
  unfold maxLen at hmx
  clear hcell hB1 hO hb
  go_enter Tryz.func10, Tryz.ntmps10
  go_wp2
  go_quiet (fail)
  go_wp2
  go_ret
  exact ⟨rfl, below_drewN (Below.refl _ _) _⟩

end Go.Proofs.YtpmlnkjamhelnaaGreat
namespace Go.Proofs.YtpmlnkjamhelnaaGreat
set_option maxRecDepth 100000
open Go.ChangeShapes Go.WideShapes Go.ChangeAt Go.RowKit

theorem own : ownKnob Tryz.prog.godebug = none := by kernel_rfl
theorem laidOut : laidOutB Tryz.prog = true := by kernel_rfl
/-- A world for the witness: the settled one. -/
noncomputable def laidWorld (os : Os) : World := World.holding Tryz.prog os ⟨#[], #[], []⟩
theorem laid_met (os : Os) (args : Array Value) : laidMet Tryz.prog [] ((laidWorld os).forCall (fun _ _ => 0) ⟨#[], args, []⟩).memory :=
  laidMet_of_run' 20 (by kernel_rfl) (by kernel_rfl)
theorem int_wf {x : Int} (h : (Lit.int .i64 x).wf = true) : -9223372036854775808 ≤ x ∧ x ≤ 9223372036854775807 := by
  have h1 : IntKind.i64.min = -9223372036854775808 := rfl
  have h2 : IntKind.i64.max = 9223372036854775807 := rfl
  simp only [Lit.wf, Bool.and_eq_true, decide_eq_true_eq] at h
  omega
theorem open_txt {H : Type} {enc : TypeId × Value → H} {W : World} {base : Nat} {v : Value} {d : DataW H} {ps : List MemPlace} (hval : Value.okWide Tryz.prog W .any base 9 v) (hd : DataW.Trod enc Tryz.prog W 0 (fun _ => true) true 9 v d ps) : ∃ l : List UInt8, v = .string ⟨l.toArray⟩ ∧ l.length ≤ maxLen := by
  obtain ⟨s, rfl, rfl, rfl, hs⟩ := Go.ChangeMaps.open_string Tryz.underlying9 hval hd
  obtain ⟨⟨l⟩⟩ := s
  exact ⟨l, rfl, hs⟩
end Go.Proofs.YtpmlnkjamhelnaaGreat
namespace Go.Proofs.YtpmlnkjamhelnaaGreat
set_option maxRecDepth 100000
open Go.ChangeShapes Go.WideShapes Go.ChangeAt Go.RowKit

theorem byte_wf {x : Int} (h : (Lit.int .u8 x).wf = true) : 0 ≤ x ∧ x < 256 := by
  have h1 : IntKind.u8.min = 0 := rfl
  have h2 : IntKind.u8.max = 255 := rfl
  simp only [Lit.wf, Bool.and_eq_true, decide_eq_true_eq] at h
  omega
theorem byte_of {n : Int} (h : (Lit.int .u8 n).wf = true) : ∃ x : UInt8, n = ((x.toNat : Nat) : Int) := by
  obtain ⟨h1, h2⟩ := byte_wf h
  exact ⟨UInt8.ofNat n.toNat, by rw [UInt8.toNat_ofNat']; omega⟩
/-- A byte slice that came in: its bytes, where they lie, and its size as the reading tells it. -/
theorem open_bytes {H : Type} {enc : TypeId × Value → H} {W : World} {a0 : Option Addr} {len cap : Nat} {d0 : DataW H} {p0 : List MemPlace} (h : DataW.Trod enc Tryz.prog W 0 (fun _ => true) true 22 (.slice a0 len cap) d0 p0) :
    ∃ bs : List UInt8, bs.length = len ∧ len ≤ cap ∧ cap ≤ maxLen ∧ Bs W a0 bs ∧ ((d0 = .nil ∧ cap = 0) ∨ ∃ el sp, d0 = .slice el sp ∧ el.length + sp.length = cap) := by
  obtain ⟨fuel, hf⟩ := h
  rcases open_ints Tryz.underlying22 Tryz.underlying5 (by kernel_rfl) hf with ⟨hcs, hx⟩ | ⟨x, l, c, zs, hcs, _, hl, hm, hz, hx, hcell, hwz⟩
  · simp [Value.cells] at hcs
    obtain ⟨rfl, rfl, rfl⟩ := hcs
    simp only [Prod.mk.injEq] at hx
    exact ⟨[], rfl, Nat.le_refl _, Nat.zero_le _, .inl rfl, .inl ⟨hx.1, rfl⟩⟩
  · simp [Value.cells] at hcs
    obtain ⟨rfl, rfl, rfl⟩ := hcs
    simp only [Prod.mk.injEq] at hx
    simp only [if_true] at hz
    refine ⟨(zs.take len).map fun z => UInt8.ofNat z.toNat, by simp; omega, hl, hm, ?_, .inr ⟨_, _, hx.1, by simp [lits]; omega⟩⟩
    by_cases h0 : len = 0
    · left; subst h0; rfl
    · obtain ⟨b, off, rfl, hc⟩ := ints_at hcell (by omega)
      refine .inr ⟨b, off, rfl, fun j hj => ?_⟩
      have hjl : j < len := by simp at hj; omega
      have hjz : j < zs.length := by omega
      rw [hc j hjz]
      have hw := byte_wf (hwz zs[j] (List.getElem_mem hjz))
      simp only [List.getD, List.getElem?_eq_getElem hjz, Option.getD_some, List.getElem_map, List.getElem_take, UInt8.toNat_ofNat']
      congr 2
      omega
theorem bytes_u8 : Tryz.prog.bytesOf 5 = 1 := by kernel_rfl
/-- The size of a byte slice that came in. -/
theorem bytes_size {H : Type} {ts : List TypeId} {ds : List (DataW H)} (hsz : (DataW.weightsEach Tryz.prog ts ds).all (· ≤ reachBytes) = true) {j cap : Nat} {d0 : DataW H} (ht : ts[j]? = some 22) (hd : ds[j]? = some d0)
    (h : (d0 = .nil ∧ cap = 0) ∨ ∃ el sp, d0 = .slice el sp ∧ el.length + sp.length = cap) : cap ≤ 140737488351232 := by
  rcases h with ⟨_, rfl⟩ | ⟨el, sp, rfl, rfl⟩
  · exact Nat.zero_le _
  · have := sized_slice hsz ht hd Tryz.underlying22
    rw [bytes_u8, Nat.mul_one] at this
    exact this

end Go.Proofs.YtpmlnkjamhelnaaGreat
