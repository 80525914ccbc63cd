/- Layer 17: the law's comparisons. -/
import Derived.Test.YtmaecpmdikdclaaMH
import Derived.Test.YtmaecpmdikdclaaB8
namespace Go.Proofs.Ytmaecpmdikdclaa
open Go.RowKit
theorem below_dN {B : Nat} {a b : World} (h : Below B a b) (n : Nat) : Below B a (b.drewN n) := h.trans ⟨rfl, rfl, rfl, Nat.le_refl _, fun _ _ => rfl⟩
set_option maxRecDepth 100000 in
set_option maxHeartbeats 1000000 in
theorem sameLog_any (a : Option Addr) (n c : Nat) (L : List Ent) (b : Option Addr) (m d : Nat) (M : List Ent) (w : World) (hn : L.length = n) (hm : M.length = m) (hL : EsAt w.cell? a L) (hM : EsAt w.cell? b M) (hnb : n ≤ 9000000000000) (hmb : m ≤ 9000000000000) :
    Calls Try.prog 32 #[.slice a n c, .slice b m d] w fun e w' => e = .returned (.bool (decide (L = M))) ∧ ∃ q, w' = w.drewN q := by
  have HN := hid hn
  have HM := hid hm
  have HL := hid hL
  have HK := hid hM
  clear hn hm hL hM
  by_cases hnm : n = m
  · subst hnm
    go_enter Try.func32, Try.ntmps32
    go_wp2_with fail
    go_loopw [5] (fun iv wr => ∃ k : Nat, iv = .int .i64 k ∧ k ≤ n ∧ Hid (∀ j (h1 : j < L.length) (h2 : j < M.length), j < k → L[j] = M[j]) ∧ Hid (∃ q, wr = w.drewN q)) (fun iv _ => n - (intOf iv).toNat)
    case atStart => exact ⟨0, rfl, Nat.zero_le _, hid fun j _ _ h => by omega, hid ⟨0, rfl⟩⟩
    case round =>
      obtain ⟨k, rfl, hk, HP, HQ⟩ := hrel
      obtain ⟨q, hq⟩ := HQ.out
      by_cases hlt : k < n
      · have h1 : k < L.length := by rw [HN.out]; exact hlt
        have h2 : k < M.length := by rw [HM.out]; exact hlt
        obtain ⟨g, o, eg, a0, a1⟩ := (HL.out.keep (C' := wr.cell?) (fun x v h => by rw [hq]; exact h)).get h1
        obtain ⟨g', o', eg', b0, b1⟩ := (HK.out.keep (C' := wr.cell?) (fun x v h => by rw [hq]; exact h)).get h2
        subst eg eg'
        have hj0 : (0 : Int) ≤ (k : Int) := by omega
        have hj1 : (k : Int) < (n : Int) := by omega
        have HE : Hid (L[k] = M[k] ↔ (L[k].v = M[k].v ∧ L[k].d = M[k].d)) := hid (by
          constructor
          · intro h; rw [h]; exact ⟨rfl, rfl⟩
          · intro ⟨x, y⟩; cases hx : L[k]; cases hy : M[k]; rw [hx, hy] at x y; simp only at x y; rw [x, y])
        have HNo : Hid (L[k] ≠ M[k] → decide (L = M) = false) := hid fun h => decide_eq_false fun e => h (by simp only [e])
        have HP2 : Hid (L[k] = M[k] → ∀ j (h1 : j < L.length) (h2 : j < M.length), j < k + 1 → L[j] = M[j]) := hid fun h j h1 h2 hj => by
          by_cases e : j = k
          · subst e; exact h
          · exact HP.out j h1 h2 (by omega)
        generalize L[k].v = x at *
        generalize L[k].d = xd at *
        generalize M[k].v = y at *
        generalize M[k].d = yd at *
        clear HL HK HP hq
        by_cases hx : x = y
        · by_cases hd : xd = yd
          · have HP3 := hid (HP2.out (HE.out.2 ⟨hx, hd⟩))
            have HQ2 : Hid (∃ q, wr.drew = w.drewN q) := hid (by obtain ⟨q, h⟩ := HQ.out; exact ⟨q + 1, by rw [h]; rfl⟩)
            subst hx hd
            clear HP2 HE HNo HQ
            go_wp2_with fail
            go_region
            go_wp2_with fail
            exact ⟨⟨k + 1, by go_num, by omega, HP3, HQ2⟩, by simp [intOf]; omega⟩
          · have HN2 := hid (HNo.out fun h => hd (HE.out.1 h).2)
            have HQ2 : Hid (∃ q, wr.drew = w.drewN q) := hid (by obtain ⟨q, h⟩ := HQ.out; exact ⟨q + 1, by rw [h]; rfl⟩)
            subst hx
            clear HP2 HE HNo HQ
            go_wp2_with fail
            go_region
            go_wp2_with fail
            go_ret
            exact ⟨by rw [HN2.out]; rfl, HQ2.out⟩
        · have HN2 := hid (HNo.out fun h => hx (HE.out.1 h).1)
          have HQ2 : Hid (∃ q, wr.drew = w.drewN q) := hid (by obtain ⟨q, h⟩ := HQ.out; exact ⟨q + 1, by rw [h]; rfl⟩)
          clear HP2 HE HNo HQ
          go_wp2_with fail
          go_region
          go_wp2_with fail
          go_ret
          exact ⟨by rw [HN2.out]; rfl, HQ2.out⟩
      · have HE : Hid (decide (L = M) = true) := hid (decide_eq_true (List.ext_getElem (by rw [HN.out, HM.out]) fun j h1 h2 => HP.out j h1 h2 (by rw [HN.out] at h1; omega)))
        clear HL HK HP hq
        go_wp2_with fail
        go_ret
        exact ⟨by rw [HE.out]; rfl, HQ.out⟩
  · have HE : Hid (decide (L = M) = false) := hid (decide_eq_false fun e => hnm (by rw [← HN.out, ← HM.out, e]))
    clear HL HK
    go_enter Try.func32, Try.ntmps32
    go_wp2_with fail
    go_ret
    exact ⟨by rw [HE.out]; rfl, 0, rfl⟩
set_option maxRecDepth 100000 in
set_option maxHeartbeats 1000000 in
theorem sameRec_any (r t : Rec17) (a : Option Addr) (n c : Nat) (b : Option Addr) (m d : Nat) (w : World) (hn : r.log.length = n) (hm : t.log.length = m) (hL : EsAt w.cell? a r.log) (hM : EsAt w.cell? b t.log) (hnb : n ≤ 9000000000000) (hmb : m ≤ 9000000000000) :
    Calls Try.prog 28 #[recV r.kd r.vw r.nm r.op (.slice a n c), recV t.kd t.vw t.nm t.op (.slice b m d)] w fun e w' => e = .returned (.bool (decide (r = t))) ∧ Below w.heap.size w w' := by
  obtain ⟨kd, vw, nm, op, L⟩ := r
  obtain ⟨kd', vw', nm', op', M⟩ := t
  simp only at hn hm hL hM ⊢
  obtain ⟨W1, hW1⟩ : ∃ W, W = (w.alloc (.cells #[.int .i64 kd, .int .i64 vw, .int .i64 nm, .int .i64 op, .slice a n c] 50)).alloc (.cells #[.int .i64 kd', .int .i64 vw', .int .i64 nm', .int .i64 op', .slice b m d] 50) := ⟨_, rfl⟩
  have hb1 : Below w.heap.size w W1 := by rw [hW1]; exact (two_boxes _ _ _ _ _).2
  have hC := sameLog_any a n c L b m d M W1 hn hm (hL.keep (below_keep hb1)) (hM.keep (below_keep hb1)) hnb hmb
  clear hL hM hn hm hnb hmb
  have HN : Hid ((kd ≠ kd' → decide ((⟨kd, vw, nm, op, L⟩ : Rec17) = ⟨kd', vw', nm', op', M⟩) = false) ∧ (vw ≠ vw' → decide ((⟨kd, vw, nm, op, L⟩ : Rec17) = ⟨kd', vw', nm', op', M⟩) = false) ∧ (nm ≠ nm' → decide ((⟨kd, vw, nm, op, L⟩ : Rec17) = ⟨kd', vw', nm', op', M⟩) = false) ∧ (op ≠ op' → decide ((⟨kd, vw, nm, op, L⟩ : Rec17) = ⟨kd', vw', nm', op', M⟩) = false)) := hid ⟨fun h => decide_eq_false fun e => h (by injection e), fun h => decide_eq_false fun e => h (by injection e), fun h => decide_eq_false fun e => h (by injection e), fun h => decide_eq_false fun e => h (by injection e)⟩
  have HY : Hid (kd = kd' → vw = vw' → nm = nm' → op = op' → decide ((⟨kd, vw, nm, op, L⟩ : Rec17) = ⟨kd', vw', nm', op', M⟩) = decide (L = M)) := hid (by
    intro h0 h1 h2 h3
    subst h0 h1 h2 h3
    by_cases h : L = M
    · subst h; simp
    · rw [decide_eq_false h, decide_eq_false (fun e => h (by injection e))])
  generalize decide ((⟨kd, vw, nm, op, L⟩ : Rec17) = ⟨kd', vw', nm', op', M⟩) = res at *
  by_cases h0 : kd = kd'
  · skip
    by_cases h1 : vw = vw'
    · skip
      by_cases h2 : nm = nm'
      · skip
        by_cases h3 : op = op'
        · skip
          have HE := hid (HY.out h0 h1 h2 h3)
          subst h0 h1 h2 h3
          clear HN HY
          generalize decide (L = M) = rl at *
          go_enter Try.func28, Try.ntmps28
          go_wp2_with (go_at_call 32; rw [← hW1]; refine hC.mono ?_; clear hC; rintro e w2 ⟨rfl, q, hw2⟩; have hb2 : Below w.heap.size w w2 := (by rw [hw2]; exact below_dN hb1 q); clear hw2)
          go_ret
          exact ⟨by rw [HE.out]; rfl, hb2⟩
        · have HE := hid (HN.out.2.2.2 h3)
          clear HN HY hC
          subst h0 h1 h2
          have he : (op == op') = false := by simp [h3]
          go_enter Try.func28, Try.ntmps28
          go_wp2_with fail
          rw [← hW1]
          go_ret
          exact ⟨by rw [HE.out]; rfl, hb1⟩
      · have HE := hid (HN.out.2.2.1 h2)
        clear HN HY hC
        subst h0 h1
        have he : (nm == nm') = false := by simp [h2]
        go_enter Try.func28, Try.ntmps28
        go_wp2_with fail
        rw [← hW1]
        go_ret
        exact ⟨by rw [HE.out]; rfl, hb1⟩
    · have HE := hid (HN.out.2.1 h1)
      clear HN HY hC
      subst h0
      have he : (vw == vw') = false := by simp [h1]
      go_enter Try.func28, Try.ntmps28
      go_wp2_with fail
      rw [← hW1]
      go_ret
      exact ⟨by rw [HE.out]; rfl, hb1⟩
  · have HE := hid (HN.out.1 h0)
    clear HN HY hC
    have he : (kd == kd') = false := by simp [h0]
    go_enter Try.func28, Try.ntmps28
    go_wp2_with fail
    rw [← hW1]
    go_ret
    exact ⟨by rw [HE.out]; rfl, hb1⟩
set_option maxRecDepth 100000 in
set_option maxHeartbeats 1000000 in
theorem sameMsg_any (r t : Msg) (a : Option Addr) (n c : Nat) (b : Option Addr) (m d : Nat) (w : World) (hn : r.log.length = n) (hm : t.log.length = m) (hL : EsAt w.cell? a r.log) (hM : EsAt w.cell? b t.log) (hnb : n ≤ 9000000000000) (hmb : m ≤ 9000000000000) :
    Calls Try.prog 18 #[msgV r.kd r.fr r.tt r.vw r.op r.cm r.nm (.slice a n c), msgV t.kd t.fr t.tt t.vw t.op t.cm t.nm (.slice b m d)] w fun e w' => e = .returned (.bool (decide (r = t))) ∧ Below w.heap.size w w' := by
  obtain ⟨kd, fr, tt, vw, op, cm, nm, L⟩ := r
  obtain ⟨kd', fr', tt', vw', op', cm', nm', M⟩ := t
  simp only at hn hm hL hM ⊢
  obtain ⟨W1, hW1⟩ : ∃ W, W = (w.alloc (.cells #[.int .i64 kd, .int .i64 fr, .int .i64 tt, .int .i64 vw, .int .i64 op, .int .i64 cm, .int .i64 nm, .slice a n c] 29)).alloc (.cells #[.int .i64 kd', .int .i64 fr', .int .i64 tt', .int .i64 vw', .int .i64 op', .int .i64 cm', .int .i64 nm', .slice b m d] 29) := ⟨_, rfl⟩
  have hb1 : Below w.heap.size w W1 := by rw [hW1]; exact (two_boxes _ _ _ _ _).2
  have hC := sameLog_any a n c L b m d M W1 hn hm (hL.keep (below_keep hb1)) (hM.keep (below_keep hb1)) hnb hmb
  clear hL hM hn hm hnb hmb
  have HN : Hid ((kd ≠ kd' → decide ((⟨kd, fr, tt, vw, op, cm, nm, L⟩ : Msg) = ⟨kd', fr', tt', vw', op', cm', nm', M⟩) = false) ∧ (fr ≠ fr' → decide ((⟨kd, fr, tt, vw, op, cm, nm, L⟩ : Msg) = ⟨kd', fr', tt', vw', op', cm', nm', M⟩) = false) ∧ (tt ≠ tt' → decide ((⟨kd, fr, tt, vw, op, cm, nm, L⟩ : Msg) = ⟨kd', fr', tt', vw', op', cm', nm', M⟩) = false) ∧ (vw ≠ vw' → decide ((⟨kd, fr, tt, vw, op, cm, nm, L⟩ : Msg) = ⟨kd', fr', tt', vw', op', cm', nm', M⟩) = false) ∧ (op ≠ op' → decide ((⟨kd, fr, tt, vw, op, cm, nm, L⟩ : Msg) = ⟨kd', fr', tt', vw', op', cm', nm', M⟩) = false) ∧ (cm ≠ cm' → decide ((⟨kd, fr, tt, vw, op, cm, nm, L⟩ : Msg) = ⟨kd', fr', tt', vw', op', cm', nm', M⟩) = false) ∧ (nm ≠ nm' → decide ((⟨kd, fr, tt, vw, op, cm, nm, L⟩ : Msg) = ⟨kd', fr', tt', vw', op', cm', nm', M⟩) = false)) := hid ⟨fun h => decide_eq_false fun e => h (by injection e), fun h => decide_eq_false fun e => h (by injection e), fun h => decide_eq_false fun e => h (by injection e), fun h => decide_eq_false fun e => h (by injection e), fun h => decide_eq_false fun e => h (by injection e), fun h => decide_eq_false fun e => h (by injection e), fun h => decide_eq_false fun e => h (by injection e)⟩
  have HY : Hid (kd = kd' → fr = fr' → tt = tt' → vw = vw' → op = op' → cm = cm' → nm = nm' → decide ((⟨kd, fr, tt, vw, op, cm, nm, L⟩ : Msg) = ⟨kd', fr', tt', vw', op', cm', nm', M⟩) = decide (L = M)) := hid (by
    intro h0 h1 h2 h3 h4 h5 h6
    subst h0 h1 h2 h3 h4 h5 h6
    by_cases h : L = M
    · subst h; simp
    · rw [decide_eq_false h, decide_eq_false (fun e => h (by injection e))])
  generalize decide ((⟨kd, fr, tt, vw, op, cm, nm, L⟩ : Msg) = ⟨kd', fr', tt', vw', op', cm', nm', M⟩) = res at *
  by_cases h0 : kd = kd'
  · skip
    by_cases h1 : fr = fr'
    · skip
      by_cases h2 : tt = tt'
      · skip
        by_cases h3 : vw = vw'
        · skip
          by_cases h4 : op = op'
          · skip
            by_cases h5 : cm = cm'
            · skip
              by_cases h6 : nm = nm'
              · skip
                have HE := hid (HY.out h0 h1 h2 h3 h4 h5 h6)
                subst h0 h1 h2 h3 h4 h5 h6
                clear HN HY
                generalize decide (L = M) = rl at *
                go_enter Try.func18, Try.ntmps18
                go_wp2_with (go_at_call 32; rw [← hW1]; refine hC.mono ?_; clear hC; rintro e w2 ⟨rfl, q, hw2⟩; have hb2 : Below w.heap.size w w2 := (by rw [hw2]; exact below_dN hb1 q); clear hw2)
                go_ret
                exact ⟨by rw [HE.out]; rfl, hb2⟩
              · have HE := hid (HN.out.2.2.2.2.2.2 h6)
                clear HN HY hC
                subst h0 h1 h2 h3 h4 h5
                have he : (nm == nm') = false := by simp [h6]
                go_enter Try.func18, Try.ntmps18
                go_wp2_with fail
                rw [← hW1]
                go_ret
                exact ⟨by rw [HE.out]; rfl, hb1⟩
            · have HE := hid (HN.out.2.2.2.2.2.1 h5)
              clear HN HY hC
              subst h0 h1 h2 h3 h4
              have he : (cm == cm') = false := by simp [h5]
              go_enter Try.func18, Try.ntmps18
              go_wp2_with fail
              rw [← hW1]
              go_ret
              exact ⟨by rw [HE.out]; rfl, hb1⟩
          · have HE := hid (HN.out.2.2.2.2.1 h4)
            clear HN HY hC
            subst h0 h1 h2 h3
            have he : (op == op') = false := by simp [h4]
            go_enter Try.func18, Try.ntmps18
            go_wp2_with fail
            rw [← hW1]
            go_ret
            exact ⟨by rw [HE.out]; rfl, hb1⟩
        · have HE := hid (HN.out.2.2.2.1 h3)
          clear HN HY hC
          subst h0 h1 h2
          have he : (vw == vw') = false := by simp [h3]
          go_enter Try.func18, Try.ntmps18
          go_wp2_with fail
          rw [← hW1]
          go_ret
          exact ⟨by rw [HE.out]; rfl, hb1⟩
      · have HE := hid (HN.out.2.2.1 h2)
        clear HN HY hC
        subst h0 h1
        have he : (tt == tt') = false := by simp [h2]
        go_enter Try.func18, Try.ntmps18
        go_wp2_with fail
        rw [← hW1]
        go_ret
        exact ⟨by rw [HE.out]; rfl, hb1⟩
    · have HE := hid (HN.out.2.1 h1)
      clear HN HY hC
      subst h0
      have he : (fr == fr') = false := by simp [h1]
      go_enter Try.func18, Try.ntmps18
      go_wp2_with fail
      rw [← hW1]
      go_ret
      exact ⟨by rw [HE.out]; rfl, hb1⟩
  · have HE := hid (HN.out.1 h0)
    clear HN HY hC
    have he : (kd == kd') = false := by simp [h0]
    go_enter Try.func18, Try.ntmps18
    go_wp2_with fail
    rw [← hW1]
    go_ret
    exact ⟨by rw [HE.out]; rfl, hb1⟩
end Go.Proofs.Ytmaecpmdikdclaa
