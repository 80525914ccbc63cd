/- Layer 17: the document's Right, RightRecord. -/
import Derived.Test.YtmaecpmdikdclaaMH
namespace Go.Proofs.Ytmaecpmdikdclaa
open Go.RowKit
set_option maxRecDepth 100000 in
set_option maxHeartbeats 400000 in
theorem rin17_any (n : Int) (w : World) : Calls Try.prog 53 #[.int .i64 n] w fun e w' => e = .returned (.bool (inB 0 1099511627776 n)) ∧ w' = w := by
  by_cases h1 : 0 ≤ n
  · by_cases h2 : n ≤ 1099511627776
    · have HE : Hid (inB 0 1099511627776 n = true) := hid (inB_iff.2 ⟨h1, h2⟩)
      go_enter Try.func53, Try.ntmps53
      go_wp2_with fail
      go_ret
      exact ⟨by rw [HE.out]; rfl, rfl⟩
    · have HE : Hid (inB 0 1099511627776 n = false) := hid (inB_hi (by omega))
      go_enter Try.func53, Try.ntmps53
      go_wp2_with fail
      go_ret
      exact ⟨by rw [HE.out]; rfl, rfl⟩
  · have HE : Hid (inB 0 1099511627776 n = false) := hid (inB_lo (by omega))
    go_enter Try.func53, Try.ntmps53
    go_wp2_with fail
    go_ret
    exact ⟨by rw [HE.out]; rfl, rfl⟩
set_option maxRecDepth 100000 in
set_option maxHeartbeats 1000000 in
theorem rlog17_any (a : Option Addr) (n c : Nat) (L : List Ent) (w : World) (hn : L.length = n) (hN : EsAt w.cell? a L) (hs : ∀ x ∈ L, x.d.length ≤ 9223372036854775807) : Calls Try.prog 54 #[.slice a n c] w fun e w' => e = .returned (.bool (logOk L)) ∧ w' = w := by
  have HN := hid hn
  have HZ := hid hN
  have HS := hid hs
  clear hn hN hs
  by_cases hbig : n > 2048
  · have HE : Hid (logOk L = false) := hid (by unfold logOk; rw [decide_eq_false (by rw [HN.out]; omega), Bool.false_and])
    clear HZ HS
    go_enter Try.func54, Try.ntmps54
    go_wp2_with fail
    go_ret
    exact ⟨by rw [HE.out]; rfl, rfl⟩
  go_enter Try.func54, Try.ntmps54
  go_wp2_with fail
  go_loopw [3] (fun iv wr => ∃ k : Nat, iv = .int .i64 k ∧ k ≤ n ∧ wr = w ∧ Hid (∀ j (hj : j < L.length), j < k → L[j].ok = true)) (fun iv _ => n - (intOf iv).toNat)
  case atStart => exact ⟨0, rfl, Nat.zero_le _, rfl, hid fun j _ h => by omega⟩
  case round =>
    obtain ⟨k, rfl, hk, rfl, HP⟩ := hrel
    by_cases hlt : k < n
    · have hkl : k < L.length := by rw [HN.out]; exact hlt
      obtain ⟨zb, zo, e1, z0, z1⟩ := HZ.out.get hkl
      subst e1
      have hl := HS.out L[k] (List.getElem_mem hkl)
      have HO : Hid (L[k].ok = (inB 0 1099511627776 L[k].v && decide (L[k].d.length ≤ 16384))) := hid rfl
      have HF : Hid (L[k].ok = false → logOk L = false) := hid fun h => by unfold logOk; rw [all_not hkl h, Bool.and_false]
      have HP2 : Hid (L[k].ok = true → ∀ j (hj : j < L.length), j < k + 1 → L[j].ok = true) := hid fun h j hj hjk => by
        by_cases e : j = k
        · subst e; exact h
        · exact HP.out j hj (by omega)
      have hC := rin17_any L[k].v wr
      generalize L[k].ok = ok at *
      generalize L[k].v = x at *
      generalize L[k].d = d at *
      clear HP HZ HS
      cases hi : inB 0 1099511627776 x with
      | false =>
        rw [hi] at hC HO
        have HE := hid (HF.out (by rw [HO.out, Bool.false_and]))
        clear hi HO HF HP2
        go_wp2_with (go_at_call 53; refine hC.mono ?_; clear hC; rintro e w' ⟨rfl, hw⟩; replace hw := hw.symm; subst hw)
        go_ret
        exact ⟨by rw [HE.out]; rfl, rfl⟩
      | true =>
        rw [hi] at hC HO
        by_cases hd : d.length ≤ 16384
        · have HP3 := hid (HP2.out (by rw [HO.out, Bool.true_and]; exact decide_eq_true hd))
          clear hi HO HF HP2
          go_wp2_with (go_at_call 53; refine hC.mono ?_; clear hC; rintro e w' ⟨rfl, hw⟩; replace hw := hw.symm; subst hw)
          exact ⟨⟨k + 1, by go_num, by omega, by trivial, HP3⟩, by simp [intOf]; omega⟩
        · have HE := hid (HF.out (by rw [HO.out, Bool.true_and]; exact decide_eq_false hd))
          clear hi HO HF HP2
          go_wp2_with (go_at_call 53; refine hC.mono ?_; clear hC; rintro e w' ⟨rfl, hw⟩; replace hw := hw.symm; subst hw)
          go_ret
          exact ⟨by rw [HE.out]; rfl, rfl⟩
    · have HE : Hid (logOk L = true) := hid (by
        unfold logOk
        rw [decide_eq_true (by rw [HN.out]; omega), Bool.true_and, List.all_eq_true]
        intro x hx
        obtain ⟨j, hj, rfl⟩ := List.mem_iff_getElem.1 hx
        exact HP.out j hj (by rw [HN.out] at hj; omega))
      clear HP HZ HS
      go_wp2_with fail
      go_ret
      exact ⟨by rw [HE.out]; rfl, rfl⟩
set_option maxRecDepth 100000 in
set_option maxHeartbeats 1000000 in
theorem rrightRec17_any (m : Rec17) (a : Option Addr) (n c : Nat) (w : World) (hn : m.log.length = n) (hN : EsAt w.cell? a m.log) (hs : ∀ x ∈ m.log, x.d.length ≤ 9223372036854775807) : Calls Try.prog 27 #[recV m.kd m.vw m.nm m.op (.slice a n c)] w fun e w' => e = .returned (.bool m.ok) ∧ Below w.heap.size w w' := by
  have hb1 : Below w.heap.size w (w.alloc (.cells #[.int .i64 m.kd, .int .i64 m.vw, .int .i64 m.nm, .int .i64 m.op, .slice a n c] 48)) := (Below.refl _ w).alloc (Nat.le_refl _) _
  obtain ⟨W1, hW1⟩ : ∃ W, W = w.alloc (.cells #[.int .i64 m.kd, .int .i64 m.vw, .int .i64 m.nm, .int .i64 m.op, .slice a n c] 48) := ⟨_, rfl⟩
  rw [← hW1] at hb1
  have bx : W1.heap[w.heap.size]? = some (.cells #[.int .i64 m.kd, .int .i64 m.vw, .int .i64 m.nm, .int .i64 m.op, .slice a n c] 48 (0, 0)) := by rw [hW1]; exact heap_alloc_new w _
  have hLg := rlog17_any a n c m.log W1 hn (hN.keep (below_keep hb1)) hs
  have hok : m.ok = (inB 1 3 m.kd && (inB 0 1099511627776 m.vw && inB 0 1099511627776 m.nm && inB 0 1099511627776 m.op) && (decide (n = 0) || m.kd == 2) && logOk m.log) := by rw [← hn]; unfold Rec17.ok; rfl
  have hIvw := rin17_any m.vw W1
  have hInm := rin17_any m.nm W1
  have hIop := rin17_any m.op W1
  clear hn hN hs
  obtain ⟨kd, vw, nm, op, L⟩ := m
  simp only at *
  generalize Rec17.ok ⟨kd, vw, nm, op, L⟩ = ok at *
  generalize logOk L = lk at *
  generalize hbvw : inB 0 1099511627776 vw = bvw at *
  clear hbvw
  generalize hbnm : inB 0 1099511627776 nm = bnm at *
  clear hbnm
  generalize hbop : inB 0 1099511627776 op = bop at *
  clear hbop
  have x0 : W1.cell? ⟨w.heap.size, 0, none⟩ = some (.int .i64 kd) := by rw [Lib.cell_of_heap bx]; rfl
  have x1 : W1.cell? ⟨w.heap.size, 1, none⟩ = some (.int .i64 vw) := by rw [Lib.cell_of_heap bx]; rfl
  have x2 : W1.cell? ⟨w.heap.size, 2, none⟩ = some (.int .i64 nm) := by rw [Lib.cell_of_heap bx]; rfl
  have x3 : W1.cell? ⟨w.heap.size, 3, none⟩ = some (.int .i64 op) := by rw [Lib.cell_of_heap bx]; rfl
  have x4 : W1.cell? ⟨w.heap.size, 4, none⟩ = some (.slice a n c) := by rw [Lib.cell_of_heap bx]; rfl
  clear bx
  have HO := hid hok
  clear hok
  by_cases h1 : 1 ≤ kd
  · skip
    by_cases h2 : kd ≤ 3
    · skip
      have e1 : inB 1 3 kd = true := inB_iff.2 ⟨h1, h2⟩
      rw [e1] at HO
      by_cases h3 : kd = 2
      · skip
        have e3 : (kd == 2) = true := by simp [h3]
        rw [e3] at HO
        clear e1 e3
        subst h3
        cases bvw with
        | false =>
          have HE : Hid (ok = false) := hid (by rw [HO.out]; simp)
          clear HO
          go_enter Try.func27, Try.ntmps27
          go_wp2_with fail
          rw [← hW1]
          clear hW1
          go_wp2_with (first | (go_at_call 53; first | (refine hIvw.mono ?_; clear hIvw; rintro e w' ⟨rfl, hw⟩; replace hw := hw.symm; subst hw) | (refine hInm.mono ?_; clear hInm; rintro e w' ⟨rfl, hw⟩; replace hw := hw.symm; subst hw) | (refine hIop.mono ?_; clear hIop; rintro e w' ⟨rfl, hw⟩; replace hw := hw.symm; subst hw)) | (go_at_call 54; refine hLg.mono ?_; clear hLg; rintro e w' ⟨rfl, hw⟩; replace hw := hw.symm; subst hw))
          go_ret
          exact ⟨by rw [HE.out]; rfl, hb1⟩
        | true =>
          cases bnm with
          | false =>
            have HE : Hid (ok = false) := hid (by rw [HO.out]; simp)
            clear HO
            go_enter Try.func27, Try.ntmps27
            go_wp2_with fail
            rw [← hW1]
            clear hW1
            go_wp2_with (first | (go_at_call 53; first | (refine hIvw.mono ?_; clear hIvw; rintro e w' ⟨rfl, hw⟩; replace hw := hw.symm; subst hw) | (refine hInm.mono ?_; clear hInm; rintro e w' ⟨rfl, hw⟩; replace hw := hw.symm; subst hw) | (refine hIop.mono ?_; clear hIop; rintro e w' ⟨rfl, hw⟩; replace hw := hw.symm; subst hw)) | (go_at_call 54; refine hLg.mono ?_; clear hLg; rintro e w' ⟨rfl, hw⟩; replace hw := hw.symm; subst hw))
            go_ret
            exact ⟨by rw [HE.out]; rfl, hb1⟩
          | true =>
            cases bop with
            | false =>
              have HE : Hid (ok = false) := hid (by rw [HO.out]; simp)
              clear HO
              go_enter Try.func27, Try.ntmps27
              go_wp2_with fail
              rw [← hW1]
              clear hW1
              go_wp2_with (first | (go_at_call 53; first | (refine hIvw.mono ?_; clear hIvw; rintro e w' ⟨rfl, hw⟩; replace hw := hw.symm; subst hw) | (refine hInm.mono ?_; clear hInm; rintro e w' ⟨rfl, hw⟩; replace hw := hw.symm; subst hw) | (refine hIop.mono ?_; clear hIop; rintro e w' ⟨rfl, hw⟩; replace hw := hw.symm; subst hw)) | (go_at_call 54; refine hLg.mono ?_; clear hLg; rintro e w' ⟨rfl, hw⟩; replace hw := hw.symm; subst hw))
              go_ret
              exact ⟨by rw [HE.out]; rfl, hb1⟩
            | true =>
              have HE : Hid (ok = lk) := hid (by rw [HO.out]; simp)
              clear HO
              cases lk <;> (
                go_enter Try.func27, Try.ntmps27
                go_wp2_with fail
                rw [← hW1]
                clear hW1
                go_wp2_with (first | (go_at_call 53; first | (refine hIvw.mono ?_; clear hIvw; rintro e w' ⟨rfl, hw⟩; replace hw := hw.symm; subst hw) | (refine hInm.mono ?_; clear hInm; rintro e w' ⟨rfl, hw⟩; replace hw := hw.symm; subst hw) | (refine hIop.mono ?_; clear hIop; rintro e w' ⟨rfl, hw⟩; replace hw := hw.symm; subst hw)) | (go_at_call 54; refine hLg.mono ?_; clear hLg; rintro e w' ⟨rfl, hw⟩; replace hw := hw.symm; subst hw))
                go_ret
                exact ⟨by rw [HE.out]; rfl, hb1⟩)
      · skip
        have e3 : (kd == 2) = false := by simp [h3]
        rw [e3] at HO
        clear e1 e3
        by_cases h4 : n = 0
        · skip
          have e4 : decide (n = 0) = true := decide_eq_true h4
          rw [e4] at HO
          clear e4
          subst h4
          cases bvw with
          | false =>
            have HE : Hid (ok = false) := hid (by rw [HO.out]; simp)
            clear HO
            go_enter Try.func27, Try.ntmps27
            go_wp2_with fail
            rw [← hW1]
            clear hW1
            go_wp2_with (first | (go_at_call 53; first | (refine hIvw.mono ?_; clear hIvw; rintro e w' ⟨rfl, hw⟩; replace hw := hw.symm; subst hw) | (refine hInm.mono ?_; clear hInm; rintro e w' ⟨rfl, hw⟩; replace hw := hw.symm; subst hw) | (refine hIop.mono ?_; clear hIop; rintro e w' ⟨rfl, hw⟩; replace hw := hw.symm; subst hw)) | (go_at_call 54; refine hLg.mono ?_; clear hLg; rintro e w' ⟨rfl, hw⟩; replace hw := hw.symm; subst hw))
            go_ret
            exact ⟨by rw [HE.out]; rfl, hb1⟩
          | true =>
            cases bnm with
            | false =>
              have HE : Hid (ok = false) := hid (by rw [HO.out]; simp)
              clear HO
              go_enter Try.func27, Try.ntmps27
              go_wp2_with fail
              rw [← hW1]
              clear hW1
              go_wp2_with (first | (go_at_call 53; first | (refine hIvw.mono ?_; clear hIvw; rintro e w' ⟨rfl, hw⟩; replace hw := hw.symm; subst hw) | (refine hInm.mono ?_; clear hInm; rintro e w' ⟨rfl, hw⟩; replace hw := hw.symm; subst hw) | (refine hIop.mono ?_; clear hIop; rintro e w' ⟨rfl, hw⟩; replace hw := hw.symm; subst hw)) | (go_at_call 54; refine hLg.mono ?_; clear hLg; rintro e w' ⟨rfl, hw⟩; replace hw := hw.symm; subst hw))
              go_ret
              exact ⟨by rw [HE.out]; rfl, hb1⟩
            | true =>
              cases bop with
              | false =>
                have HE : Hid (ok = false) := hid (by rw [HO.out]; simp)
                clear HO
                go_enter Try.func27, Try.ntmps27
                go_wp2_with fail
                rw [← hW1]
                clear hW1
                go_wp2_with (first | (go_at_call 53; first | (refine hIvw.mono ?_; clear hIvw; rintro e w' ⟨rfl, hw⟩; replace hw := hw.symm; subst hw) | (refine hInm.mono ?_; clear hInm; rintro e w' ⟨rfl, hw⟩; replace hw := hw.symm; subst hw) | (refine hIop.mono ?_; clear hIop; rintro e w' ⟨rfl, hw⟩; replace hw := hw.symm; subst hw)) | (go_at_call 54; refine hLg.mono ?_; clear hLg; rintro e w' ⟨rfl, hw⟩; replace hw := hw.symm; subst hw))
                go_ret
                exact ⟨by rw [HE.out]; rfl, hb1⟩
              | true =>
                have HE : Hid (ok = lk) := hid (by rw [HO.out]; simp)
                clear HO
                cases lk <;> (
                  go_enter Try.func27, Try.ntmps27
                  go_wp2_with fail
                  rw [← hW1]
                  clear hW1
                  go_wp2_with (first | (go_at_call 53; first | (refine hIvw.mono ?_; clear hIvw; rintro e w' ⟨rfl, hw⟩; replace hw := hw.symm; subst hw) | (refine hInm.mono ?_; clear hInm; rintro e w' ⟨rfl, hw⟩; replace hw := hw.symm; subst hw) | (refine hIop.mono ?_; clear hIop; rintro e w' ⟨rfl, hw⟩; replace hw := hw.symm; subst hw)) | (go_at_call 54; refine hLg.mono ?_; clear hLg; rintro e w' ⟨rfl, hw⟩; replace hw := hw.symm; subst hw))
                  go_ret
                  exact ⟨by rw [HE.out]; rfl, hb1⟩)
        · skip
          have e4 : decide (n = 0) = false := decide_eq_false h4
          rw [e4] at HO
          clear e4
          have HE : Hid (ok = false) := hid (by rw [HO.out]; simp)
          clear HO
          go_enter Try.func27, Try.ntmps27
          go_wp2_with fail
          rw [← hW1]
          clear hW1
          go_wp2_with (first | (go_at_call 53; first | (refine hIvw.mono ?_; clear hIvw; rintro e w' ⟨rfl, hw⟩; replace hw := hw.symm; subst hw) | (refine hInm.mono ?_; clear hInm; rintro e w' ⟨rfl, hw⟩; replace hw := hw.symm; subst hw) | (refine hIop.mono ?_; clear hIop; rintro e w' ⟨rfl, hw⟩; replace hw := hw.symm; subst hw)) | (go_at_call 54; refine hLg.mono ?_; clear hLg; rintro e w' ⟨rfl, hw⟩; replace hw := hw.symm; subst hw))
          go_ret
          exact ⟨by rw [HE.out]; rfl, hb1⟩
    · skip
      have e1 : inB 1 3 kd = false := inB_hi (by omega)
      rw [e1] at HO
      clear e1
      have HE : Hid (ok = false) := hid (by rw [HO.out]; simp)
      clear HO
      go_enter Try.func27, Try.ntmps27
      go_wp2_with fail
      rw [← hW1]
      clear hW1
      go_wp2_with (first | (go_at_call 53; first | (refine hIvw.mono ?_; clear hIvw; rintro e w' ⟨rfl, hw⟩; replace hw := hw.symm; subst hw) | (refine hInm.mono ?_; clear hInm; rintro e w' ⟨rfl, hw⟩; replace hw := hw.symm; subst hw) | (refine hIop.mono ?_; clear hIop; rintro e w' ⟨rfl, hw⟩; replace hw := hw.symm; subst hw)) | (go_at_call 54; refine hLg.mono ?_; clear hLg; rintro e w' ⟨rfl, hw⟩; replace hw := hw.symm; subst hw))
      go_ret
      exact ⟨by rw [HE.out]; rfl, hb1⟩
  · skip
    have e1 : inB 1 3 kd = false := inB_lo (by omega)
    rw [e1] at HO
    clear e1
    have HE : Hid (ok = false) := hid (by rw [HO.out]; simp)
    clear HO
    go_enter Try.func27, Try.ntmps27
    go_wp2_with fail
    rw [← hW1]
    clear hW1
    go_wp2_with (first | (go_at_call 53; first | (refine hIvw.mono ?_; clear hIvw; rintro e w' ⟨rfl, hw⟩; replace hw := hw.symm; subst hw) | (refine hInm.mono ?_; clear hInm; rintro e w' ⟨rfl, hw⟩; replace hw := hw.symm; subst hw) | (refine hIop.mono ?_; clear hIop; rintro e w' ⟨rfl, hw⟩; replace hw := hw.symm; subst hw)) | (go_at_call 54; refine hLg.mono ?_; clear hLg; rintro e w' ⟨rfl, hw⟩; replace hw := hw.symm; subst hw))
    go_ret
    exact ⟨by rw [HE.out]; rfl, hb1⟩
end Go.Proofs.Ytmaecpmdikdclaa
