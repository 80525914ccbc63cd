/- Layer 17: the document's Right of messages. Layer 17: the document's Get. -/
import Derived.Test.YtmaecpmdikdclaaMU
import Derived.Test.YtmaecpmdikdclaaNC
namespace Go.Proofs.Ytmaecpmdikdclaa
open Go.RowKit
set_option maxRecDepth 100000 in
set_option maxHeartbeats 20000000 in
theorem rright17_any (m : Msg) (a : Option Addr) (n c : Nat) (w : World) (hn : m.log.length = n) (hN : EsAt w.cell? a m.log) (hs : ∀ x ∈ m.log, x.d.length ≤ 9223372036854775807) : Calls Try.prog 16 #[msgV m.kd m.fr m.tt m.vw m.op m.cm m.nm (.slice a n c)] w fun e w' => e = .returned (.bool m.ok) ∧ Below w.heap.size w w' := by
  have hb1 : Below w.heap.size w (w.alloc (.cells #[.int .i64 m.kd, .int .i64 m.fr, .int .i64 m.tt, .int .i64 m.vw, .int .i64 m.op, .int .i64 m.cm, .int .i64 m.nm, .slice a n c] 24)) := (Below.refl _ w).alloc (Nat.le_refl _) _
  obtain ⟨W1, hW1⟩ : ∃ W, W = w.alloc (.cells #[.int .i64 m.kd, .int .i64 m.fr, .int .i64 m.tt, .int .i64 m.vw, .int .i64 m.op, .int .i64 m.cm, .int .i64 m.nm, .slice a n c] 24) := ⟨_, rfl⟩
  rw [← hW1] at hb1
  have bx : W1.heap[w.heap.size]? = some (.cells #[.int .i64 m.kd, .int .i64 m.fr, .int .i64 m.tt, .int .i64 m.vw, .int .i64 m.op, .int .i64 m.cm, .int .i64 m.nm, .slice a n c] 24 (0, 0)) := by rw [hW1]; exact heap_alloc_new w _
  have hLg := rlog17_any a n c m.log W1 hn (hN.keep (below_keep hb1)) hs
  have hok : m.ok = (inB 1 8 m.kd && (inB 0 1099511627776 m.vw && inB 0 1099511627776 m.nm && inB 0 1099511627776 m.op) && (decide (n = 0) || (m.kd == 1 || m.kd == 5 || m.kd == 6 || m.kd == 8)) && logOk m.log && (inB 0 7 m.fr && inB 0 7 m.tt) && inB 0 1099511627776 m.cm) := by rw [← hn]; unfold Msg.ok; rfl
  have hIvw := rin17_any m.vw W1
  have hIop := rin17_any m.op W1
  have hIcm := rin17_any m.cm W1
  have hInm := rin17_any m.nm W1
  clear hn hN hs
  obtain ⟨kd, fr, tt, vw, op, cm, nm, L⟩ := m
  simp only at *
  generalize Msg.ok ⟨kd, fr, tt, vw, op, cm, nm, L⟩ = ok at *
  generalize logOk L = lk at *
  generalize hbvw : inB 0 1099511627776 vw = bvw at *
  clear hbvw
  generalize hbop : inB 0 1099511627776 op = bop at *
  clear hbop
  generalize hbcm : inB 0 1099511627776 cm = bcm at *
  clear hbcm
  generalize hbnm : inB 0 1099511627776 nm = bnm at *
  clear hbnm
  have x0 : W1.cell? ⟨w.heap.size, 0, none⟩ = some (.int .i64 kd) := by rw [Lib.cell_of_heap bx]; rfl
  have x1 : W1.cell? ⟨w.heap.size, 1, none⟩ = some (.int .i64 fr) := by rw [Lib.cell_of_heap bx]; rfl
  have x2 : W1.cell? ⟨w.heap.size, 2, none⟩ = some (.int .i64 tt) := by rw [Lib.cell_of_heap bx]; rfl
  have x3 : W1.cell? ⟨w.heap.size, 3, none⟩ = some (.int .i64 vw) := by rw [Lib.cell_of_heap bx]; rfl
  have x4 : W1.cell? ⟨w.heap.size, 4, none⟩ = some (.int .i64 op) := by rw [Lib.cell_of_heap bx]; rfl
  have x5 : W1.cell? ⟨w.heap.size, 5, none⟩ = some (.int .i64 cm) := by rw [Lib.cell_of_heap bx]; rfl
  have x6 : W1.cell? ⟨w.heap.size, 6, none⟩ = some (.int .i64 nm) := by rw [Lib.cell_of_heap bx]; rfl
  have x7 : W1.cell? ⟨w.heap.size, 7, none⟩ = some (.slice a n c) := by rw [Lib.cell_of_heap bx]; rfl
  clear bx
  have HO := hid hok
  clear hok
  by_cases lkd : 1 ≤ kd
  · skip
    by_cases gkd : kd ≤ 8
    · skip
      have ekd : inB 1 8 kd = true := inB_iff.2 ⟨lkd, gkd⟩
      rw [ekd] at HO
      clear ekd
      by_cases lfr : 0 ≤ fr
      · skip
        by_cases gfr : fr ≤ 7
        · skip
          have efr : inB 0 7 fr = true := inB_iff.2 ⟨lfr, gfr⟩
          rw [efr] at HO
          clear efr
          by_cases ltt : 0 ≤ tt
          · skip
            by_cases gtt : tt ≤ 7
            · skip
              have ett : inB 0 7 tt = true := inB_iff.2 ⟨ltt, gtt⟩
              rw [ett] at HO
              clear ett
              by_cases hq : kd = 2 ∨ kd = 3 ∨ kd = 4 ∨ kd = 7
              · have e3 : (kd == 1 || kd == 5 || kd == 6 || kd == 8) = false := by rcases hq with rfl | rfl | rfl | rfl <;> rfl
                rw [e3] at HO
                clear e3
                by_cases h4 : n = 0
                · have e4 : decide (n = 0) = true := decide_eq_true h4
                  rw [e4] at HO
                  clear e4
                  subst h4
                  rcases hq with rfl | rfl | rfl | rfl
                  all_goals
                    cases bvw with
                    | false =>
                      have HE : Hid (ok = false) := hid (by rw [HO.out]; simp)
                      clear HO
                      go_enter Try.func16, Try.ntmps16
                      go_wp2_with fail
                      rw [← hW1]
                      clear hW1
                      go_wp2_with (first | (go_at_call 53; first | (refine hIvw.mono ?_; clear hIvw; rintro e w' ⟨rfl, hw⟩; replace hw := hw.symm; subst hw) | (refine hIop.mono ?_; clear hIop; rintro e w' ⟨rfl, hw⟩; replace hw := hw.symm; subst hw) | (refine hIcm.mono ?_; clear hIcm; rintro e w' ⟨rfl, hw⟩; replace hw := hw.symm; subst hw) | (refine hInm.mono ?_; clear hInm; rintro e w' ⟨rfl, hw⟩; replace hw := hw.symm; subst hw)) | (go_at_call 54; refine hLg.mono ?_; clear hLg; rintro e w' ⟨rfl, hw⟩; replace hw := hw.symm; subst hw))
                      go_ret
                      exact ⟨by rw [HE.out]; rfl, hb1⟩
                    | true =>
                      cases bop with
                      | false =>
                        have HE : Hid (ok = false) := hid (by rw [HO.out]; simp)
                        clear HO
                        go_enter Try.func16, Try.ntmps16
                        go_wp2_with fail
                        rw [← hW1]
                        clear hW1
                        go_wp2_with (first | (go_at_call 53; first | (refine hIvw.mono ?_; clear hIvw; rintro e w' ⟨rfl, hw⟩; replace hw := hw.symm; subst hw) | (refine hIop.mono ?_; clear hIop; rintro e w' ⟨rfl, hw⟩; replace hw := hw.symm; subst hw) | (refine hIcm.mono ?_; clear hIcm; rintro e w' ⟨rfl, hw⟩; replace hw := hw.symm; subst hw) | (refine hInm.mono ?_; clear hInm; rintro e w' ⟨rfl, hw⟩; replace hw := hw.symm; subst hw)) | (go_at_call 54; refine hLg.mono ?_; clear hLg; rintro e w' ⟨rfl, hw⟩; replace hw := hw.symm; subst hw))
                        go_ret
                        exact ⟨by rw [HE.out]; rfl, hb1⟩
                      | true =>
                        cases bcm with
                        | false =>
                          have HE : Hid (ok = false) := hid (by rw [HO.out]; simp)
                          clear HO
                          go_enter Try.func16, Try.ntmps16
                          go_wp2_with fail
                          rw [← hW1]
                          clear hW1
                          go_wp2_with (first | (go_at_call 53; first | (refine hIvw.mono ?_; clear hIvw; rintro e w' ⟨rfl, hw⟩; replace hw := hw.symm; subst hw) | (refine hIop.mono ?_; clear hIop; rintro e w' ⟨rfl, hw⟩; replace hw := hw.symm; subst hw) | (refine hIcm.mono ?_; clear hIcm; rintro e w' ⟨rfl, hw⟩; replace hw := hw.symm; subst hw) | (refine hInm.mono ?_; clear hInm; rintro e w' ⟨rfl, hw⟩; replace hw := hw.symm; subst hw)) | (go_at_call 54; refine hLg.mono ?_; clear hLg; rintro e w' ⟨rfl, hw⟩; replace hw := hw.symm; subst hw))
                          go_ret
                          exact ⟨by rw [HE.out]; rfl, hb1⟩
                        | true =>
                          cases bnm with
                          | false =>
                            have HE : Hid (ok = false) := hid (by rw [HO.out]; simp)
                            clear HO
                            go_enter Try.func16, Try.ntmps16
                            go_wp2_with fail
                            rw [← hW1]
                            clear hW1
                            go_wp2_with (first | (go_at_call 53; first | (refine hIvw.mono ?_; clear hIvw; rintro e w' ⟨rfl, hw⟩; replace hw := hw.symm; subst hw) | (refine hIop.mono ?_; clear hIop; rintro e w' ⟨rfl, hw⟩; replace hw := hw.symm; subst hw) | (refine hIcm.mono ?_; clear hIcm; rintro e w' ⟨rfl, hw⟩; replace hw := hw.symm; subst hw) | (refine hInm.mono ?_; clear hInm; rintro e w' ⟨rfl, hw⟩; replace hw := hw.symm; subst hw)) | (go_at_call 54; refine hLg.mono ?_; clear hLg; rintro e w' ⟨rfl, hw⟩; replace hw := hw.symm; subst hw))
                            go_ret
                            exact ⟨by rw [HE.out]; rfl, hb1⟩
                          | true =>
                            have HE : Hid (ok = lk) := hid (by rw [HO.out]; simp)
                            clear HO
                            cases lk <;> (
                              go_enter Try.func16, Try.ntmps16
                              go_wp2_with fail
                              rw [← hW1]
                              clear hW1
                              go_wp2_with (first | (go_at_call 53; first | (refine hIvw.mono ?_; clear hIvw; rintro e w' ⟨rfl, hw⟩; replace hw := hw.symm; subst hw) | (refine hIop.mono ?_; clear hIop; rintro e w' ⟨rfl, hw⟩; replace hw := hw.symm; subst hw) | (refine hIcm.mono ?_; clear hIcm; rintro e w' ⟨rfl, hw⟩; replace hw := hw.symm; subst hw) | (refine hInm.mono ?_; clear hInm; rintro e w' ⟨rfl, hw⟩; replace hw := hw.symm; subst hw)) | (go_at_call 54; refine hLg.mono ?_; clear hLg; rintro e w' ⟨rfl, hw⟩; replace hw := hw.symm; subst hw))
                              go_ret
                              exact ⟨by rw [HE.out]; rfl, hb1⟩)
                · have e4 : decide (n = 0) = false := decide_eq_false h4
                  rw [e4] at HO
                  clear e4
                  rcases hq with rfl | rfl | rfl | rfl
                  all_goals
                    have HE : Hid (ok = false) := hid (by rw [HO.out]; simp)
                    clear HO
                    go_enter Try.func16, Try.ntmps16
                    go_wp2_with fail
                    rw [← hW1]
                    clear hW1
                    go_wp2_with (first | (go_at_call 53; first | (refine hIvw.mono ?_; clear hIvw; rintro e w' ⟨rfl, hw⟩; replace hw := hw.symm; subst hw) | (refine hIop.mono ?_; clear hIop; rintro e w' ⟨rfl, hw⟩; replace hw := hw.symm; subst hw) | (refine hIcm.mono ?_; clear hIcm; rintro e w' ⟨rfl, hw⟩; replace hw := hw.symm; subst hw) | (refine hInm.mono ?_; clear hInm; rintro e w' ⟨rfl, hw⟩; replace hw := hw.symm; subst hw)) | (go_at_call 54; refine hLg.mono ?_; clear hLg; rintro e w' ⟨rfl, hw⟩; replace hw := hw.symm; subst hw))
                    go_ret
                    exact ⟨by rw [HE.out]; rfl, hb1⟩
              · have e3 : (kd == 1 || kd == 5 || kd == 6 || kd == 8) = true := by
                  have : kd = 1 ∨ kd = 5 ∨ kd = 6 ∨ kd = 8 := by omega
                  rcases this with rfl | rfl | rfl | rfl <;> rfl
                rw [e3] at HO
                clear e3
                have q2 : ¬ kd = 2 := fun e => hq (.inl e)
                have q3 : ¬ kd = 3 := fun e => hq (.inr (.inl e))
                have q4 : ¬ kd = 4 := fun e => hq (.inr (.inr (.inl e)))
                have q7 : ¬ kd = 7 := fun e => hq (.inr (.inr (.inr e)))
                clear hq
                cases bvw with
                | false =>
                  have HE : Hid (ok = false) := hid (by rw [HO.out]; simp)
                  clear HO
                  go_enter Try.func16, Try.ntmps16
                  go_wp2_with fail
                  rw [← hW1]
                  clear hW1
                  go_wp2_with (first | (go_at_call 53; first | (refine hIvw.mono ?_; clear hIvw; rintro e w' ⟨rfl, hw⟩; replace hw := hw.symm; subst hw) | (refine hIop.mono ?_; clear hIop; rintro e w' ⟨rfl, hw⟩; replace hw := hw.symm; subst hw) | (refine hIcm.mono ?_; clear hIcm; rintro e w' ⟨rfl, hw⟩; replace hw := hw.symm; subst hw) | (refine hInm.mono ?_; clear hInm; rintro e w' ⟨rfl, hw⟩; replace hw := hw.symm; subst hw)) | (go_at_call 54; refine hLg.mono ?_; clear hLg; rintro e w' ⟨rfl, hw⟩; replace hw := hw.symm; subst hw))
                  go_ret
                  exact ⟨by rw [HE.out]; rfl, hb1⟩
                | true =>
                  cases bop with
                  | false =>
                    have HE : Hid (ok = false) := hid (by rw [HO.out]; simp)
                    clear HO
                    go_enter Try.func16, Try.ntmps16
                    go_wp2_with fail
                    rw [← hW1]
                    clear hW1
                    go_wp2_with (first | (go_at_call 53; first | (refine hIvw.mono ?_; clear hIvw; rintro e w' ⟨rfl, hw⟩; replace hw := hw.symm; subst hw) | (refine hIop.mono ?_; clear hIop; rintro e w' ⟨rfl, hw⟩; replace hw := hw.symm; subst hw) | (refine hIcm.mono ?_; clear hIcm; rintro e w' ⟨rfl, hw⟩; replace hw := hw.symm; subst hw) | (refine hInm.mono ?_; clear hInm; rintro e w' ⟨rfl, hw⟩; replace hw := hw.symm; subst hw)) | (go_at_call 54; refine hLg.mono ?_; clear hLg; rintro e w' ⟨rfl, hw⟩; replace hw := hw.symm; subst hw))
                    go_ret
                    exact ⟨by rw [HE.out]; rfl, hb1⟩
                  | true =>
                    cases bcm with
                    | false =>
                      have HE : Hid (ok = false) := hid (by rw [HO.out]; simp)
                      clear HO
                      go_enter Try.func16, Try.ntmps16
                      go_wp2_with fail
                      rw [← hW1]
                      clear hW1
                      go_wp2_with (first | (go_at_call 53; first | (refine hIvw.mono ?_; clear hIvw; rintro e w' ⟨rfl, hw⟩; replace hw := hw.symm; subst hw) | (refine hIop.mono ?_; clear hIop; rintro e w' ⟨rfl, hw⟩; replace hw := hw.symm; subst hw) | (refine hIcm.mono ?_; clear hIcm; rintro e w' ⟨rfl, hw⟩; replace hw := hw.symm; subst hw) | (refine hInm.mono ?_; clear hInm; rintro e w' ⟨rfl, hw⟩; replace hw := hw.symm; subst hw)) | (go_at_call 54; refine hLg.mono ?_; clear hLg; rintro e w' ⟨rfl, hw⟩; replace hw := hw.symm; subst hw))
                      go_ret
                      exact ⟨by rw [HE.out]; rfl, hb1⟩
                    | true =>
                      cases bnm with
                      | false =>
                        have HE : Hid (ok = false) := hid (by rw [HO.out]; simp)
                        clear HO
                        go_enter Try.func16, Try.ntmps16
                        go_wp2_with fail
                        rw [← hW1]
                        clear hW1
                        go_wp2_with (first | (go_at_call 53; first | (refine hIvw.mono ?_; clear hIvw; rintro e w' ⟨rfl, hw⟩; replace hw := hw.symm; subst hw) | (refine hIop.mono ?_; clear hIop; rintro e w' ⟨rfl, hw⟩; replace hw := hw.symm; subst hw) | (refine hIcm.mono ?_; clear hIcm; rintro e w' ⟨rfl, hw⟩; replace hw := hw.symm; subst hw) | (refine hInm.mono ?_; clear hInm; rintro e w' ⟨rfl, hw⟩; replace hw := hw.symm; subst hw)) | (go_at_call 54; refine hLg.mono ?_; clear hLg; rintro e w' ⟨rfl, hw⟩; replace hw := hw.symm; subst hw))
                        go_ret
                        exact ⟨by rw [HE.out]; rfl, hb1⟩
                      | true =>
                        have HE : Hid (ok = lk) := hid (by rw [HO.out]; simp)
                        clear HO
                        cases lk <;> (
                          go_enter Try.func16, Try.ntmps16
                          go_wp2_with fail
                          rw [← hW1]
                          clear hW1
                          go_wp2_with (first | (go_at_call 53; first | (refine hIvw.mono ?_; clear hIvw; rintro e w' ⟨rfl, hw⟩; replace hw := hw.symm; subst hw) | (refine hIop.mono ?_; clear hIop; rintro e w' ⟨rfl, hw⟩; replace hw := hw.symm; subst hw) | (refine hIcm.mono ?_; clear hIcm; rintro e w' ⟨rfl, hw⟩; replace hw := hw.symm; subst hw) | (refine hInm.mono ?_; clear hInm; rintro e w' ⟨rfl, hw⟩; replace hw := hw.symm; subst hw)) | (go_at_call 54; refine hLg.mono ?_; clear hLg; rintro e w' ⟨rfl, hw⟩; replace hw := hw.symm; subst hw))
                          go_ret
                          exact ⟨by rw [HE.out]; rfl, hb1⟩)
            · skip
              have ett : inB 0 7 tt = false := inB_hi (by omega)
              rw [ett] at HO
              clear ett
              have HE : Hid (ok = false) := hid (by rw [HO.out]; simp)
              clear HO
              go_enter Try.func16, Try.ntmps16
              go_wp2_with fail
              rw [← hW1]
              clear hW1
              go_wp2_with (first | (go_at_call 53; first | (refine hIvw.mono ?_; clear hIvw; rintro e w' ⟨rfl, hw⟩; replace hw := hw.symm; subst hw) | (refine hIop.mono ?_; clear hIop; rintro e w' ⟨rfl, hw⟩; replace hw := hw.symm; subst hw) | (refine hIcm.mono ?_; clear hIcm; rintro e w' ⟨rfl, hw⟩; replace hw := hw.symm; subst hw) | (refine hInm.mono ?_; clear hInm; rintro e w' ⟨rfl, hw⟩; replace hw := hw.symm; subst hw)) | (go_at_call 54; refine hLg.mono ?_; clear hLg; rintro e w' ⟨rfl, hw⟩; replace hw := hw.symm; subst hw))
              go_ret
              exact ⟨by rw [HE.out]; rfl, hb1⟩
          · skip
            have ett : inB 0 7 tt = false := inB_lo (by omega)
            rw [ett] at HO
            clear ett
            have HE : Hid (ok = false) := hid (by rw [HO.out]; simp)
            clear HO
            go_enter Try.func16, Try.ntmps16
            go_wp2_with fail
            rw [← hW1]
            clear hW1
            go_wp2_with (first | (go_at_call 53; first | (refine hIvw.mono ?_; clear hIvw; rintro e w' ⟨rfl, hw⟩; replace hw := hw.symm; subst hw) | (refine hIop.mono ?_; clear hIop; rintro e w' ⟨rfl, hw⟩; replace hw := hw.symm; subst hw) | (refine hIcm.mono ?_; clear hIcm; rintro e w' ⟨rfl, hw⟩; replace hw := hw.symm; subst hw) | (refine hInm.mono ?_; clear hInm; rintro e w' ⟨rfl, hw⟩; replace hw := hw.symm; subst hw)) | (go_at_call 54; refine hLg.mono ?_; clear hLg; rintro e w' ⟨rfl, hw⟩; replace hw := hw.symm; subst hw))
            go_ret
            exact ⟨by rw [HE.out]; rfl, hb1⟩
        · skip
          have efr : inB 0 7 fr = false := inB_hi (by omega)
          rw [efr] at HO
          clear efr
          have HE : Hid (ok = false) := hid (by rw [HO.out]; simp)
          clear HO
          go_enter Try.func16, Try.ntmps16
          go_wp2_with fail
          rw [← hW1]
          clear hW1
          go_wp2_with (first | (go_at_call 53; first | (refine hIvw.mono ?_; clear hIvw; rintro e w' ⟨rfl, hw⟩; replace hw := hw.symm; subst hw) | (refine hIop.mono ?_; clear hIop; rintro e w' ⟨rfl, hw⟩; replace hw := hw.symm; subst hw) | (refine hIcm.mono ?_; clear hIcm; rintro e w' ⟨rfl, hw⟩; replace hw := hw.symm; subst hw) | (refine hInm.mono ?_; clear hInm; rintro e w' ⟨rfl, hw⟩; replace hw := hw.symm; subst hw)) | (go_at_call 54; refine hLg.mono ?_; clear hLg; rintro e w' ⟨rfl, hw⟩; replace hw := hw.symm; subst hw))
          go_ret
          exact ⟨by rw [HE.out]; rfl, hb1⟩
      · skip
        have efr : inB 0 7 fr = false := inB_lo (by omega)
        rw [efr] at HO
        clear efr
        have HE : Hid (ok = false) := hid (by rw [HO.out]; simp)
        clear HO
        go_enter Try.func16, Try.ntmps16
        go_wp2_with fail
        rw [← hW1]
        clear hW1
        go_wp2_with (first | (go_at_call 53; first | (refine hIvw.mono ?_; clear hIvw; rintro e w' ⟨rfl, hw⟩; replace hw := hw.symm; subst hw) | (refine hIop.mono ?_; clear hIop; rintro e w' ⟨rfl, hw⟩; replace hw := hw.symm; subst hw) | (refine hIcm.mono ?_; clear hIcm; rintro e w' ⟨rfl, hw⟩; replace hw := hw.symm; subst hw) | (refine hInm.mono ?_; clear hInm; rintro e w' ⟨rfl, hw⟩; replace hw := hw.symm; subst hw)) | (go_at_call 54; refine hLg.mono ?_; clear hLg; rintro e w' ⟨rfl, hw⟩; replace hw := hw.symm; subst hw))
        go_ret
        exact ⟨by rw [HE.out]; rfl, hb1⟩
    · skip
      have ekd : inB 1 8 kd = false := inB_hi (by omega)
      rw [ekd] at HO
      clear ekd
      have HE : Hid (ok = false) := hid (by rw [HO.out]; simp)
      clear HO
      go_enter Try.func16, Try.ntmps16
      go_wp2_with fail
      rw [← hW1]
      clear hW1
      go_wp2_with (first | (go_at_call 53; first | (refine hIvw.mono ?_; clear hIvw; rintro e w' ⟨rfl, hw⟩; replace hw := hw.symm; subst hw) | (refine hIop.mono ?_; clear hIop; rintro e w' ⟨rfl, hw⟩; replace hw := hw.symm; subst hw) | (refine hIcm.mono ?_; clear hIcm; rintro e w' ⟨rfl, hw⟩; replace hw := hw.symm; subst hw) | (refine hInm.mono ?_; clear hInm; rintro e w' ⟨rfl, hw⟩; replace hw := hw.symm; subst hw)) | (go_at_call 54; refine hLg.mono ?_; clear hLg; rintro e w' ⟨rfl, hw⟩; replace hw := hw.symm; subst hw))
      go_ret
      exact ⟨by rw [HE.out]; rfl, hb1⟩
  · skip
    have ekd : inB 1 8 kd = false := inB_lo (by omega)
    rw [ekd] at HO
    clear ekd
    have HE : Hid (ok = false) := hid (by rw [HO.out]; simp)
    clear HO
    go_enter Try.func16, Try.ntmps16
    go_wp2_with fail
    rw [← hW1]
    clear hW1
    go_wp2_with (first | (go_at_call 53; first | (refine hIvw.mono ?_; clear hIvw; rintro e w' ⟨rfl, hw⟩; replace hw := hw.symm; subst hw) | (refine hIop.mono ?_; clear hIop; rintro e w' ⟨rfl, hw⟩; replace hw := hw.symm; subst hw) | (refine hIcm.mono ?_; clear hIcm; rintro e w' ⟨rfl, hw⟩; replace hw := hw.symm; subst hw) | (refine hInm.mono ?_; clear hInm; rintro e w' ⟨rfl, hw⟩; replace hw := hw.symm; subst hw)) | (go_at_call 54; refine hLg.mono ?_; clear hLg; rintro e w' ⟨rfl, hw⟩; replace hw := hw.symm; subst hw))
    go_ret
    exact ⟨by rw [HE.out]; rfl, hb1⟩
end Go.Proofs.Ytmaecpmdikdclaa
namespace Go.Proofs.Ytmaecpmdikdclaa
open Go.RowKit
theorem load_msgD {w : World} {b : Nat} {x0 x1 x2 x3 x4 x5 x6 x7 : Value} (h : w.heap[b]? = some (.cells #[x0, x1, x2, x3, x4, x5, x6, x7] 24 (0, 0))) : (loadVar 24 ⟨b, 0, none⟩).run Try.prog w = .ok (.agg #[x0, x1, x2, x3, x4, x5, x6, x7]) w := by
  simp [loadVar, go_sem, Lib.cell_of_heap h]
/-- How the document's ref17.Get ends. -/
def GetMsgEndD (bs : List UInt8) (w : World) (e : Ending) (w' : World) : Prop := Below w.heap.size w w' ∧ ((readOk gMsg Msg.ok bs = false ∧ e = .returned (.tuple #[.agg #[.int .i64 0, .int .i64 0, .int .i64 0, .int .i64 0, .int .i64 0, .int .i64 0, .int .i64 0, .slice none 0 0], .int .i64 21])) ∨ (readOk gMsg Msg.ok bs = true ∧ ∃ va vc, e = .returned (.tuple #[msgV (gMsg (bs, 0)).1.kd (gMsg (bs, 0)).1.fr (gMsg (bs, 0)).1.tt (gMsg (bs, 0)).1.vw (gMsg (bs, 0)).1.op (gMsg (bs, 0)).1.cm (gMsg (bs, 0)).1.nm (.slice va (gMsg (bs, 0)).1.log.length vc), .int .i64 0]) ∧ EsAt w'.cell? va (gMsg (bs, 0)).1.log))
set_option maxRecDepth 100000 in
set_option maxHeartbeats 2000000 in
theorem rget17_any (ao : Option Addr) (len cap : Nat) (bs : List UInt8) (w : World) (hl : bs.length = len) (hm : len ≤ 140737488351232) (hb : Bs w ao bs) : Calls Try.prog 14 #[.slice ao len cap] w (GetMsgEndD bs w) := by
  obtain ⟨W1, hW1⟩ : ∃ W, W = w.alloc (.cells #[.int .i64 0, .int .i64 0, .int .i64 0, .int .i64 0, .int .i64 0, .int .i64 0, .int .i64 0, .slice none 0 0] 24) := ⟨_, rfl⟩
  have hz1 : W1.heap.size = w.heap.size + 1 := by rw [hW1]; simp
  have hb1 : Below w.heap.size w W1 := by rw [hW1]; exact (Below.refl _ w).alloc (Nat.le_refl _) _
  have bR1 : W1.heap[w.heap.size]? = some (.cells #[.int .i64 0, .int .i64 0, .int .i64 0, .int .i64 0, .int .i64 0, .int .i64 0, .int .i64 0, .slice none 0 0] 24 (0, 0)) := by rw [hW1]; exact heap_alloc_new w _
  have hNew := fnew_new ao len cap bs W1 hl hm (hb.keep (below_keep hb1))
  have hokd : readOk gMsg Msg.ok bs = (decide (bs.length ≤ 1048576) && (decide (doneOf (gMsg (bs, 0)).2.1 (gMsg (bs, 0)).2.2 = 0) && Msg.ok (gMsg (bs, 0)).1)) := rfl
  obtain ⟨s0, hs0⟩ : ∃ s : RSt, s = (bs, 0) := ⟨_, rfl⟩
  obtain ⟨kd, hkd⟩ : ∃ x, x = (gByte s0).1 := ⟨_, rfl⟩
  obtain ⟨s1, hs1⟩ : ∃ x, x = (gByte s0).2 := ⟨_, rfl⟩
  obtain ⟨fr, hfr⟩ : ∃ x, x = (gByte s1).1 := ⟨_, rfl⟩
  obtain ⟨s2, hs2⟩ : ∃ x, x = (gByte s1).2 := ⟨_, rfl⟩
  obtain ⟨tt, htt⟩ : ∃ x, x = (gByte s2).1 := ⟨_, rfl⟩
  obtain ⟨s3, hs3⟩ : ∃ x, x = (gByte s2).2 := ⟨_, rfl⟩
  obtain ⟨vw, hvw⟩ : ∃ x, x = (gInt s3).1 := ⟨_, rfl⟩
  obtain ⟨s4, hs4⟩ : ∃ x, x = (gInt s3).2 := ⟨_, rfl⟩
  obtain ⟨op, hop⟩ : ∃ x, x = (gInt s4).1 := ⟨_, rfl⟩
  obtain ⟨s5, hs5⟩ : ∃ x, x = (gInt s4).2 := ⟨_, rfl⟩
  obtain ⟨cm, hcm⟩ : ∃ x, x = (gInt s5).1 := ⟨_, rfl⟩
  obtain ⟨s6, hs6⟩ : ∃ x, x = (gInt s5).2 := ⟨_, rfl⟩
  obtain ⟨nm, hnm⟩ : ∃ x, x = (gInt s6).1 := ⟨_, rfl⟩
  obtain ⟨s7, hs7⟩ : ∃ x, x = (gInt s6).2 := ⟨_, rfl⟩
  have hgeq : gMsg s0 = (⟨kd, fr, tt, vw, op, cm, nm, (gLog s7).1⟩, (gLog s7).2) := by simp only [gMsg, gM, g3b, g4i, g3i, gTwo, hs1, hs2, hs3, hs4, hs5, hs6, hs7, hkd, hfr, htt, hvw, hop, hcm, hnm]
  have hsm : ∀ x ∈ (gLog s7).1, x.d.length ≤ 9223372036854775807 := fun x hx => Nat.le_trans (gMany_all (one := gEnt) (P := fun x => x.d.length ≤ 65535) (fun s => gText_len _) _ _ x hx) (by decide)
  rw [← hs0, hgeq, hl] at hokd
  have HSame : Hid (gMsg (bs, 0) = (⟨kd, fr, tt, vw, op, cm, nm, (gLog s7).1⟩, (gLog s7).2)) := hid (by rw [← hs0]; exact hgeq)
  have HOk := hid hokd
  clear hgeq hokd hb
  have hC0 : ∀ W q g, FS W q g bs s0 → _ := fun W q g HW => fbyte_s q g bs s0 W HW
  rw [← hkd, ← hs1] at hC0
  have hC1 : ∀ W q g, FS W q g bs s1 → _ := fun W q g HW => fbyte_s q g bs s1 W HW
  rw [← hfr, ← hs2] at hC1
  have hC2 : ∀ W q g, FS W q g bs s2 → _ := fun W q g HW => fbyte_s q g bs s2 W HW
  rw [← htt, ← hs3] at hC2
  have hC3 : ∀ W q g, FS W q g bs s3 → _ := fun W q g HW => fint_s q g bs s3 W HW
  rw [← hvw, ← hs4] at hC3
  have hC4 : ∀ W q g, FS W q g bs s4 → _ := fun W q g HW => fint_s q g bs s4 W HW
  rw [← hop, ← hs5] at hC4
  have hC5 : ∀ W q g, FS W q g bs s5 → _ := fun W q g HW => fint_s q g bs s5 W HW
  rw [← hcm, ← hs6] at hC5
  have hC6 : ∀ W q g, FS W q g bs s6 → _ := fun W q g HW => fint_s q g bs s6 W HW
  rw [← hnm, ← hs7] at hC6
  have hCL : ∀ W q g, FS W q g bs s7 → g < W.heap.size → _ := fun W q g HW hg => rread17_any q g bs s7 W HW hg
  have HFS0 : Hid (∀ W q g, RfS W q g bs 0 0 → FS W q g bs s0) := hid fun W q g h => ⟨0, by rw [hs0]; exact h, by rw [hs0]; rfl⟩
  generalize hLg : gLog s7 = lg at *
  obtain ⟨L, st⟩ := lg
  simp only at *
  clear hLg
  clear hs1 hs2 hs3 hs4 hs5 hs6 hs7 hkd hfr htt hvw hop hcm hnm hs0 hl
  go_enter Try.func14, Try.ntmps14
  go_wp2_with fail
  rw [← hW1]
  clear hW1
  refine hNew.mono ?_
  clear hNew
  rintro e w2 ⟨q, g, rfl, hq, hg, H2, hb2⟩
  have bR2 := (hb2.block _ (lt_of_block bR1)).trans bR1
  obtain ⟨G, hGl, F2⟩ : ∃ G, G < w2.heap.size ∧ FS w2 q G bs s0 := by
    have H2' := H2
    obtain ⟨⟨ao', cap', hE, hB, hc, hm'⟩, hgq, hle, hmx⟩ := H2
    rcases hB with h | ⟨off, ho, hc'⟩
    · exact ⟨w.heap.size, lt_of_block bR2, HFS0.out w2 q w.heap.size ⟨⟨ao', cap', hE, .inl h, hc, hm'⟩, by omega, hle, hmx⟩⟩
    · by_cases hbs : bs = []
      · exact ⟨w.heap.size, lt_of_block bR2, HFS0.out w2 q w.heap.size ⟨⟨ao', cap', hE, .inl hbs, hc, hm'⟩, by omega, hle, hmx⟩⟩
      · have := hc' 0 (by cases bs; exact absurd rfl hbs; simp)
        exact ⟨g, World.block_lt_of_cell? _ _ this, HFS0.out w2 q g H2'⟩
  clear HFS0 H2 hg
  have hq2 := F2.cell.2
  have hz2 : w.heap.size < w2.heap.size := lt_of_block bR2
  have hX0 := hC0 w2 q G F2
  clear hC0
  go_wp2_with (go_at_call 49; refine hX0.mono ?_; clear hX0; rintro e w3 ⟨rfl, F3, c3⟩)
  obtain ⟨XB, hXB⟩ : ∃ z, z = w3.heap.size := ⟨_, rfl⟩
  obtain ⟨V1, hV1⟩ : ∃ W, W = w3.alloc (.cells #[.int .i64 kd, .int .i64 0, .int .i64 0, .int .i64 0, .int .i64 0, .int .i64 0, .int .i64 0, .slice none 0 0] 24) := ⟨_, rfl⟩
  have hs3 := c3.size
  have bR3 := (c3.block _ (lt_of_block bR2) (by omega)).trans bR2
  have c3V : Chg w3 V1 (fun k => False) := by rw [hV1]; exact Chg.alloc _ _ _
  have hbV : Below w.heap.size w V1 := ((hb1.trans (hb2.mono hb1.size)).trans ((c3.below (by omega) fun i (e : i = q) => by omega))).trans (c3V.below (by omega) fun i e => e.elim)
  have S1 : StD w q G XB w.heap.size bs 24 24 #[.int .i64 0, .int .i64 0, .int .i64 0, .int .i64 0, .int .i64 0, .int .i64 0, .int .i64 0, .slice none 0 0] V1 s1 [.int .i64 kd, .int .i64 0, .int .i64 0, .int .i64 0, .int .i64 0, .int .i64 0, .int .i64 0, .slice none 0 0] := ⟨by rw [hV1]; exact F3.chg (Chg.alloc w3 _ (fun _ => False)) id id, by rw [hV1, hXB]; exact heap_alloc_new w3 _, (c3V.block _ (lt_of_block bR3) id).trans bR3, hbV⟩
  have n1 : XB ≠ q := by omega
  have n2 : XB ≠ G := by omega
  have n3 : XB ≠ w.heap.size := by omega
  have n4 : w.heap.size ≤ XB := by omega
  have n5 : w.heap.size ≠ q := by omega
  have n6 : w.heap.size ≤ q := by omega
  have GV1 : G < V1.heap.size := by have := c3V.size; omega
  have hzX : XB < V1.heap.size := lt_of_block S1.bx
  clear c3V hbV c3 F3 F2 bR3 bR2 bR1 hb2
  rw [← hV1, ← hXB]
  clear hV1 hXB
  have hX1 := hC1 V1 q G S1.fs
  clear hC1
  refine hX1.mono ?_
  clear hX1
  rintro e u1 ⟨rfl, F1', c1⟩
  have R1 := S1.call F1' c1 n1 n5 n6
  have hs1' := c1.size
  have x1 : u1.cell? ⟨XB, 1, none⟩ = some (.int .i64 0) := (R1.x 1).1
  have y1 := (R1.x 1).2.1
  have z1 := (R1.x 1).2.2
  obtain ⟨V2, hV2⟩ : ∃ W, W = u1.setCell ⟨XB, 1, none⟩ (.int .i64 fr) := ⟨_, rfl⟩
  have S2 : StD w q G XB w.heap.size bs 24 24 #[.int .i64 0, .int .i64 0, .int .i64 0, .int .i64 0, .int .i64 0, .int .i64 0, .int .i64 0, .slice none 0 0] V2 s2 [.int .i64 kd, .int .i64 fr, .int .i64 0, .int .i64 0, .int .i64 0, .int .i64 0, .int .i64 0, .slice none 0 0] := by rw [hV2]; exact R1.put 1 _ n1 n2 n3 n4
  have GV2 : G < V2.heap.size := by have : V2.heap.size = u1.heap.size := (by rw [hV2]; exact by simp); omega
  clear F1' c1 R1 S1
  go_wp2_with fail
  rw [← hV2]
  clear hV2 x1 y1 z1 hs1' GV1
  have hX2 := hC2 V2 q G S2.fs
  clear hC2
  refine hX2.mono ?_
  clear hX2
  rintro e u2 ⟨rfl, F2', c2⟩
  have R2 := S2.call F2' c2 n1 n5 n6
  have hs2' := c2.size
  have x2 : u2.cell? ⟨XB, 2, none⟩ = some (.int .i64 0) := (R2.x 2).1
  have y2 := (R2.x 2).2.1
  have z2 := (R2.x 2).2.2
  obtain ⟨V3, hV3⟩ : ∃ W, W = u2.setCell ⟨XB, 2, none⟩ (.int .i64 tt) := ⟨_, rfl⟩
  have S3 : StD w q G XB w.heap.size bs 24 24 #[.int .i64 0, .int .i64 0, .int .i64 0, .int .i64 0, .int .i64 0, .int .i64 0, .int .i64 0, .slice none 0 0] V3 s3 [.int .i64 kd, .int .i64 fr, .int .i64 tt, .int .i64 0, .int .i64 0, .int .i64 0, .int .i64 0, .slice none 0 0] := by rw [hV3]; exact R2.put 2 _ n1 n2 n3 n4
  have GV3 : G < V3.heap.size := by have : V3.heap.size = u2.heap.size := (by rw [hV3]; exact by simp); omega
  clear F2' c2 R2 S2
  go_wp2_with fail
  rw [← hV3]
  clear hV3 x2 y2 z2 hs2' GV2
  have hX3 := hC3 V3 q G S3.fs
  clear hC3
  refine hX3.mono ?_
  clear hX3
  rintro e u3 ⟨rfl, F3', c3⟩
  have R3 := S3.call F3' c3 n1 n5 n6
  have hs3' := c3.size
  have x3 : u3.cell? ⟨XB, 3, none⟩ = some (.int .i64 0) := (R3.x 3).1
  have y3 := (R3.x 3).2.1
  have z3 := (R3.x 3).2.2
  obtain ⟨V4, hV4⟩ : ∃ W, W = u3.setCell ⟨XB, 3, none⟩ (.int .i64 vw) := ⟨_, rfl⟩
  have S4 : StD w q G XB w.heap.size bs 24 24 #[.int .i64 0, .int .i64 0, .int .i64 0, .int .i64 0, .int .i64 0, .int .i64 0, .int .i64 0, .slice none 0 0] V4 s4 [.int .i64 kd, .int .i64 fr, .int .i64 tt, .int .i64 vw, .int .i64 0, .int .i64 0, .int .i64 0, .slice none 0 0] := by rw [hV4]; exact R3.put 3 _ n1 n2 n3 n4
  have GV4 : G < V4.heap.size := by have : V4.heap.size = u3.heap.size := (by rw [hV4]; exact by simp); omega
  clear F3' c3 R3 S3
  go_wp2_with fail
  rw [← hV4]
  clear hV4 x3 y3 z3 hs3' GV3
  have hX4 := hC4 V4 q G S4.fs
  clear hC4
  refine hX4.mono ?_
  clear hX4
  rintro e u4 ⟨rfl, F4', c4⟩
  have R4 := S4.call F4' c4 n1 n5 n6
  have hs4' := c4.size
  have x4 : u4.cell? ⟨XB, 4, none⟩ = some (.int .i64 0) := (R4.x 4).1
  have y4 := (R4.x 4).2.1
  have z4 := (R4.x 4).2.2
  obtain ⟨V5, hV5⟩ : ∃ W, W = u4.setCell ⟨XB, 4, none⟩ (.int .i64 op) := ⟨_, rfl⟩
  have S5 : StD w q G XB w.heap.size bs 24 24 #[.int .i64 0, .int .i64 0, .int .i64 0, .int .i64 0, .int .i64 0, .int .i64 0, .int .i64 0, .slice none 0 0] V5 s5 [.int .i64 kd, .int .i64 fr, .int .i64 tt, .int .i64 vw, .int .i64 op, .int .i64 0, .int .i64 0, .slice none 0 0] := by rw [hV5]; exact R4.put 4 _ n1 n2 n3 n4
  have GV5 : G < V5.heap.size := by have : V5.heap.size = u4.heap.size := (by rw [hV5]; exact by simp); omega
  clear F4' c4 R4 S4
  go_wp2_with fail
  rw [← hV5]
  clear hV5 x4 y4 z4 hs4' GV4
  have hX5 := hC5 V5 q G S5.fs
  clear hC5
  refine hX5.mono ?_
  clear hX5
  rintro e u5 ⟨rfl, F5', c5⟩
  have R5 := S5.call F5' c5 n1 n5 n6
  have hs5' := c5.size
  have x5 : u5.cell? ⟨XB, 5, none⟩ = some (.int .i64 0) := (R5.x 5).1
  have y5 := (R5.x 5).2.1
  have z5 := (R5.x 5).2.2
  obtain ⟨V6, hV6⟩ : ∃ W, W = u5.setCell ⟨XB, 5, none⟩ (.int .i64 cm) := ⟨_, rfl⟩
  have S6 : StD w q G XB w.heap.size bs 24 24 #[.int .i64 0, .int .i64 0, .int .i64 0, .int .i64 0, .int .i64 0, .int .i64 0, .int .i64 0, .slice none 0 0] V6 s6 [.int .i64 kd, .int .i64 fr, .int .i64 tt, .int .i64 vw, .int .i64 op, .int .i64 cm, .int .i64 0, .slice none 0 0] := by rw [hV6]; exact R5.put 5 _ n1 n2 n3 n4
  have GV6 : G < V6.heap.size := by have : V6.heap.size = u5.heap.size := (by rw [hV6]; exact by simp); omega
  clear F5' c5 R5 S5
  go_wp2_with fail
  rw [← hV6]
  clear hV6 x5 y5 z5 hs5' GV5
  have hX6 := hC6 V6 q G S6.fs
  clear hC6
  refine hX6.mono ?_
  clear hX6
  rintro e u6 ⟨rfl, F6', c6⟩
  have R6 := S6.call F6' c6 n1 n5 n6
  have hs6' := c6.size
  have x6 : u6.cell? ⟨XB, 6, none⟩ = some (.int .i64 0) := (R6.x 6).1
  have y6 := (R6.x 6).2.1
  have z6 := (R6.x 6).2.2
  obtain ⟨V7, hV7⟩ : ∃ W, W = u6.setCell ⟨XB, 6, none⟩ (.int .i64 nm) := ⟨_, rfl⟩
  have S7 : StD w q G XB w.heap.size bs 24 24 #[.int .i64 0, .int .i64 0, .int .i64 0, .int .i64 0, .int .i64 0, .int .i64 0, .int .i64 0, .slice none 0 0] V7 s7 [.int .i64 kd, .int .i64 fr, .int .i64 tt, .int .i64 vw, .int .i64 op, .int .i64 cm, .int .i64 nm, .slice none 0 0] := by rw [hV7]; exact R6.put 6 _ n1 n2 n3 n4
  have GV7 : G < V7.heap.size := by have : V7.heap.size = u6.heap.size := (by rw [hV7]; exact by simp); omega
  clear F6' c6 R6 S6
  go_wp2_with fail
  rw [← hV7]
  clear hV7 x6 y6 z6 hs6' GV6
  have hRd := hCL V7 q G S7.fs GV7
  clear hCL
  refine hRd.mono ?_
  clear hRd
  rintro e w8 ⟨⟨v, rfl, hrow⟩, F8, c8⟩
  obtain ⟨va, vc, rfl, _, _, _⟩ := row_form hrow
  have R8 := S7.call F8 c8 n1 n5 n6
  have xl := lt_of_block S7.bx
  have hs8 := c8.size
  have x8 : w8.cell? ⟨XB, 7, none⟩ = some (.slice none 0 0) := (R8.x 7).1
  have y8 := (R8.x 7).2.1
  have z8 := (R8.x 7).2.2
  obtain ⟨W9, hW9⟩ : ∃ W, W = w8.setCell ⟨XB, 7, none⟩ (.slice va L.length vc) := ⟨_, rfl⟩
  have S9 : StD w q G XB w.heap.size bs 24 24 #[.int .i64 0, .int .i64 0, .int .i64 0, .int .i64 0, .int .i64 0, .int .i64 0, .int .i64 0, .slice none 0 0] W9 st [.int .i64 kd, .int .i64 fr, .int .i64 tt, .int .i64 vw, .int .i64 op, .int .i64 cm, .int .i64 nm, .slice va L.length vc] := by rw [hW9]; exact R8.put 7 _ n1 n2 n3 n4
  have c89 : Chg w8 W9 (fun k => k = XB) := by rw [hW9]; exact Chg.setCell _ _ _
  have hrow9 : W9.ownsRow V7.heap.size 114 2 (.slice va L.length vc) L.length (cellsE L) := row_chg4 hrow c89 fun g e (q : g = _) => by have := (row_lt4 hrow g e).1; omega
  obtain ⟨_, _, _, ev, hE9⟩ := es_of_rowD hrow9
  injection ev with ev1 ev2 ev3
  subst ev1 ev3
  obtain ⟨F9, bX9, bR9, hb9⟩ := S9
  have hD := fdone_s q G bs st W9 F9
  have hRt := fun m => rright17_any ⟨kd, fr, tt, vw, op, cm, nm, L⟩ va L.length vc (W9.drewN m) rfl hE9 hsm
  have boxX : ∀ W, Below W9.heap.size W9 W → (W.cell? ⟨XB, 0, none⟩ = some (.int .i64 kd) ∧ W.cell? ⟨XB, 1, none⟩ = some (.int .i64 fr) ∧ W.cell? ⟨XB, 2, none⟩ = some (.int .i64 tt) ∧ W.cell? ⟨XB, 3, none⟩ = some (.int .i64 vw) ∧ W.cell? ⟨XB, 4, none⟩ = some (.int .i64 op) ∧ W.cell? ⟨XB, 5, none⟩ = some (.int .i64 cm) ∧ W.cell? ⟨XB, 6, none⟩ = some (.int .i64 nm) ∧ W.cell? ⟨XB, 7, none⟩ = some (.slice va L.length vc)) ∧ XB < W.heap.size := fun W hW => by
    have e := (hW.block _ (lt_of_block bX9)).trans bX9
    refine ⟨⟨?_, ?_, ?_, ?_, ?_, ?_, ?_, ?_⟩, lt_of_block e⟩ <;> (rw [Lib.cell_of_heap e]; rfl)
  have boxR : ∀ W, Below W9.heap.size W9 W → ((W.cell? ⟨w.heap.size, 0, none⟩ = some (.int .i64 0) ∧ W.cell? ⟨w.heap.size, 1, none⟩ = some (.int .i64 0) ∧ W.cell? ⟨w.heap.size, 2, none⟩ = some (.int .i64 0) ∧ W.cell? ⟨w.heap.size, 3, none⟩ = some (.int .i64 0) ∧ W.cell? ⟨w.heap.size, 4, none⟩ = some (.int .i64 0) ∧ W.cell? ⟨w.heap.size, 5, none⟩ = some (.int .i64 0) ∧ W.cell? ⟨w.heap.size, 6, none⟩ = some (.int .i64 0) ∧ W.cell? ⟨w.heap.size, 7, none⟩ = some (.slice none 0 0)) ∧ w.heap.size < W.heap.size) ∧ (∀ k, W.frozen? ⟨w.heap.size, k, none⟩ = false) ∧ W.heap[w.heap.size]? = some (.cells #[.int .i64 0, .int .i64 0, .int .i64 0, .int .i64 0, .int .i64 0, .int .i64 0, .int .i64 0, .slice none 0 0] 24 (0, 0)) := fun W hW => by
    have e := (hW.block _ (lt_of_block bR9)).trans bR9
    refine ⟨⟨⟨?_, ?_, ?_, ?_, ?_, ?_, ?_, ?_⟩, lt_of_block e⟩, fun k => Lib.frozen_of_heap e k, e⟩ <;> (rw [Lib.cell_of_heap e]; rfl)
  have hb19 : w.heap.size ≤ W9.heap.size := hb9.size
  have finNo : readOk gMsg Msg.ok bs = false → ∀ W, Below W9.heap.size W9 W → GetMsgEndD bs w (.returned (.tuple #[.agg #[.int .i64 0, .int .i64 0, .int .i64 0, .int .i64 0, .int .i64 0, .int .i64 0, .int .i64 0, .slice none 0 0], .int .i64 21])) (setN W w.heap.size 0 [.int .i64 0, .int .i64 0, .int .i64 0, .int .i64 0, .int .i64 0, .int .i64 0, .int .i64 0, .slice none 0 0]) := fun h W hW => ⟨setN_below _ _ (hb9.trans (hW.mono hb9.size)) (Nat.le_refl _) (Nat.le_refl _), .inl ⟨h, rfl⟩⟩
  have finYes : readOk gMsg Msg.ok bs = true → ∀ W, Below W9.heap.size W9 W → GetMsgEndD bs w (.returned (.tuple #[msgV kd fr tt vw op cm nm (.slice va L.length vc), .int .i64 0])) (setN W w.heap.size 0 [.int .i64 kd, .int .i64 fr, .int .i64 tt, .int .i64 vw, .int .i64 op, .int .i64 cm, .int .i64 nm, .slice va L.length vc]) := fun h W hW => by
    have hrw := row_chg4 (row_below2 hrow9 hW) (setN_chg [.int .i64 kd, .int .i64 fr, .int .i64 tt, .int .i64 vw, .int .i64 op, .int .i64 cm, .int .i64 nm, .slice va L.length vc] 0 W (b := w.heap.size)) fun g e q => by have := (row_lt4 (row_below2 hrow9 hW) g e).1; omega
    refine ⟨setN_below _ _ (hb9.trans (hW.mono hb9.size)) (Nat.le_refl _) (Nat.le_refl _), .inr ⟨h, va, vc, ?_, ?_⟩⟩
    · exact (congrArg (fun x : Msg × RSt => Ending.returned (.tuple #[msgV x.1.kd x.1.fr x.1.tt x.1.vw x.1.op x.1.cm x.1.nm (.slice va x.1.log.length vc), .int .i64 0])) HSame.out).symm
    · exact (congrArg (fun x : Msg × RSt => EsAt (setN W w.heap.size 0 [.int .i64 kd, .int .i64 fr, .int .i64 tt, .int .i64 vw, .int .i64 op, .int .i64 cm, .int .i64 nm, .slice va L.length vc]).cell? va x.1.log) HSame.out).mpr (es_rowD hrw)
  have HNo := hid finNo
  have HYes := hid finYes
  clear finNo finYes hrow9 hb9 hb1 hrow c8 c89 F8 R8 S7 hE9 hsm F9 bX9
  have boxR9 := boxR W9 (Below.refl _ _)
  obtain ⟨⟨⟨yy0, yy1, yy2, yy3, yy4, yy5, yy6, yy7⟩, yl9⟩, fz, bRz⟩ := boxR9
  obtain ⟨⟨xx0, xx1, xx2, xx3, xx4, xx5, xx6, xx7⟩, xl9⟩ := boxX W9 (Below.refl _ _)
  clear bR9
  by_cases hd : doneOf st.1 st.2 = 0
  · rw [hd] at hD
    cases hr : Msg.ok ⟨kd, fr, tt, vw, op, cm, nm, L⟩ with
    | false =>
      have hf : readOk gMsg Msg.ok bs = false := by rw [HOk.out, hr, Bool.and_false, Bool.and_false]
      rw [hr] at hRt
      have HN2 := hid (HNo.out hf)
      clear HNo HYes HOk hf hr HSame boxX
      go_wp2_with fail
      rw [← hW9]
      clear hW9
      refine hD.mono ?_
      clear hD
      rintro e w' ⟨rfl, nn, hw'⟩
      subst hw'
      go_wp2_with (go_at_call 16; refine (hRt _).mono ?_; clear hRt; rintro e w10 ⟨rfl, hb10q⟩; have hb10 : Below W9.heap.size W9 w10 := (below_dN (Below.refl _ W9) _).trans hb10q; obtain ⟨⟨⟨u0', u1', u2', u3', u4', u5', u6', u7'⟩, ul⟩, fz10, bR10⟩ := boxR w10 hb10; clear boxR; have g0 := fz10 0; have g1 := fz10 1; have g2 := fz10 2; have g3 := fz10 3; have g4 := fz10 4; have g5 := fz10 5; have g6 := fz10 6; have g7 := fz10 7)
      exact ret_box2 rfl rfl rfl rfl (load_msgD (setN_all [.int .i64 0, .int .i64 0, .int .i64 0, .int .i64 0, .int .i64 0, .int .i64 0, .int .i64 0, .slice none 0 0] bR10 rfl)) (HN2.out w10 hb10)
    | true =>
      rw [hr] at hRt
      by_cases hlx : len ≤ 1048576
      · have ht : readOk gMsg Msg.ok bs = true := by rw [HOk.out, hr, hd, decide_eq_true hlx]; rfl
        have HY2 := hid (HYes.out ht)
        have hlx2 : ¬ ((1048576 : Int) < (len : Int)) := by omega
        clear HNo HYes HOk ht hr HSame
        generalize L.length = ll at *
        go_wp2_with fail
        rw [← hW9]
        clear hW9
        refine hD.mono ?_
        clear hD
        rintro e w' ⟨rfl, nn, hw'⟩
        subst hw'
        go_wp2_with (go_at_call 16; refine (hRt _).mono ?_; clear hRt; rintro e w10 ⟨rfl, hb10q⟩; have hb10 : Below W9.heap.size W9 w10 := (below_dN (Below.refl _ W9) _).trans hb10q; obtain ⟨⟨⟨u0', u1', u2', u3', u4', u5', u6', u7'⟩, ul⟩, fz10, bR10⟩ := boxR w10 hb10; clear boxR; obtain ⟨⟨t0, t1, t2, t3, t4, t5, t6, t7⟩, tl⟩ := boxX w10 hb10; clear boxX; have g0 := fz10 0; have g1 := fz10 1; have g2 := fz10 2; have g3 := fz10 3; have g4 := fz10 4; have g5 := fz10 5; have g6 := fz10 6; have g7 := fz10 7)
        exact ret_box2 rfl rfl rfl rfl (load_msgD (setN_all [.int .i64 kd, .int .i64 fr, .int .i64 tt, .int .i64 vw, .int .i64 op, .int .i64 cm, .int .i64 nm, .slice va ll vc] bR10 rfl)) (HY2.out w10 hb10)
      · have hf : readOk gMsg Msg.ok bs = false := by rw [HOk.out, decide_eq_false hlx]; rfl
        have HN2 := hid (HNo.out hf)
        have hlx2 : (1048576 : Int) < (len : Int) := by omega
        clear HNo HYes HOk hf hr HSame boxX
        go_wp2_with fail
        rw [← hW9]
        clear hW9
        refine hD.mono ?_
        clear hD
        rintro e w' ⟨rfl, nn, hw'⟩
        subst hw'
        go_wp2_with (go_at_call 16; refine (hRt _).mono ?_; clear hRt; rintro e w10 ⟨rfl, hb10q⟩; have hb10 : Below W9.heap.size W9 w10 := (below_dN (Below.refl _ W9) _).trans hb10q; obtain ⟨⟨⟨u0', u1', u2', u3', u4', u5', u6', u7'⟩, ul⟩, fz10, bR10⟩ := boxR w10 hb10; clear boxR; have g0 := fz10 0; have g1 := fz10 1; have g2 := fz10 2; have g3 := fz10 3; have g4 := fz10 4; have g5 := fz10 5; have g6 := fz10 6; have g7 := fz10 7)
        exact ret_box2 rfl rfl rfl rfl (load_msgD (setN_all [.int .i64 0, .int .i64 0, .int .i64 0, .int .i64 0, .int .i64 0, .int .i64 0, .int .i64 0, .slice none 0 0] bR10 rfl)) (HN2.out w10 hb10)
  · have hf : readOk gMsg Msg.ok bs = false := by rw [HOk.out, decide_eq_false hd]; simp
    have hne : (doneOf st.1 st.2 != 0) = true := by simp [hd]
    have HN2 := hid (HNo.out hf)
    clear HNo HYes HOk hf HSame boxX hRt
    generalize doneOf st.1 st.2 = dn at hD hne
    go_wp2_with fail
    rw [← hW9]
    clear hW9
    refine hD.mono ?_
    clear hD
    rintro e w' ⟨rfl, nn, hw'⟩
    subst hw'
    obtain ⟨⟨⟨u0', u1', u2', u3', u4', u5', u6', u7'⟩, ul⟩, fz10, bR10⟩ := boxR (W9.drewN nn) (below_dN (Below.refl _ W9) nn)
    clear boxR
    have g0 := fz10 0; have g1 := fz10 1; have g2 := fz10 2; have g3 := fz10 3; have g4 := fz10 4; have g5 := fz10 5; have g6 := fz10 6; have g7 := fz10 7
    go_wp2_with fail
    exact ret_box2 rfl rfl rfl rfl (load_msgD (setN_all [.int .i64 0, .int .i64 0, .int .i64 0, .int .i64 0, .int .i64 0, .int .i64 0, .int .i64 0, .slice none 0 0] bR10 rfl)) (HN2.out (W9.drewN nn) (below_dN (Below.refl _ W9) nn))
end Go.Proofs.Ytmaecpmdikdclaa
