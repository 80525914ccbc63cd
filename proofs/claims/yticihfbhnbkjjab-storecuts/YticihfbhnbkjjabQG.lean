/- Layer 11: the tree's turned. -/
import Derived.Test.YticihfbhnbkjjabQE
namespace Go.Proofs.Yticihfbhnbkjjab
open Go.RowKit
set_option maxRecDepth 100000 in
set_option maxHeartbeats 1000000 in
theorem turned0_any (tb g n cap root : Nat) (f : Nat → Nd) (w : World) (p up : Nat) (h : TS tb g n cap root f w) (hp : p < n) (hup : (f p).l = up) (hu : up < n) (hpu : up ≠ p) (hl : (f up).l < n) (hr : (f up).r < n) (hpr : (f p).r < n) (b1 : (f (f up).l).h ≤ 1125899906842624) (b2 : (f (f up).r).h ≤ 1125899906842624) (b3 : (f (f p).r).h ≤ 1125899906842624) :
    Calls Try.prog 75 #[.pointer (some ⟨tb, 0, none⟩), .int .i64 p, .int .i64 0] w (TEnd tb g n cap root (turnF f p 0) w (.int .i64 up)) := by
  have c0 := h.c0
  have cl := h.l hp
  have cr := h.r hu
  have cf := h.fr (p * 5 + 2)
  have hlt := h.lt
  rw [hup] at cl
  obtain ⟨f1, hf1⟩ : ∃ f1, f1 = upd f p { f p with l := (f up).r } := ⟨_, rfl⟩
  obtain ⟨f2, hf2⟩ : ∃ f2, f2 = upd f1 up { f1 up with r := p } := ⟨_, rfl⟩
  have et : turnF f p 0 = measF (measF f2 p) up := by
    unfold turnF
    rw [hf2, hf1]
    simp only [show (f p).link 0 = up from hup]
    rfl
  have e1p : f1 p = { f p with l := (f up).r } := by rw [hf1, upd_same]
  have e1u : f1 up = f up := by rw [hf1, upd_other _ _ hpu]
  have e2p : f2 p = { f p with l := (f up).r } := by rw [hf2, upd_other _ _ (Ne.symm hpu), e1p]
  have e2u : f2 up = { f up with r := p } := by rw [hf2, upd_same, e1u]
  have hh : ∀ q, (f2 q).h = (f q).h := fun q => by
    by_cases x : q = p
    · rw [x, e2p]
    · by_cases y : q = up
      · rw [y, e2u]
      · rw [hf2, upd_other _ _ y, hf1, upd_other _ _ x]
  have p1 : (f2 p).l < n := by rw [e2p]; exact hr
  have p2 : (f2 p).r < n := by rw [e2p]; exact hpr
  have q1 : (f2 (f2 p).l).h ≤ 1125899906842624 := by rw [hh, e2p]; exact b2
  have q2 : (f2 (f2 p).r).h ≤ 1125899906842624 := by rw [hh, e2p]; exact b3
  have HT1 : Hid (TS tb g n cap root f1 (w.setCell ⟨g, p * 5 + 2, none⟩ (.int .i64 ((f up).r : Nat))).drew ∧ Kg g w (w.setCell ⟨g, p * 5 + 2, none⟩ (.int .i64 ((f up).r : Nat))).drew) := hidb ⟨by rw [hf1]; exact (h.setL hp).drewN 1, ((Kg.refl g w).set _ _).drewN 1⟩
  have HT2 : Hid (∀ W, TS tb g n cap root f1 W → Kg g w W → TS tb g n cap root f2 (W.setCell ⟨g, up * 5 + 3, none⟩ (.int .i64 (p : Nat))) ∧ Kg g w (W.setCell ⟨g, up * 5 + 3, none⟩ (.int .i64 (p : Nat)))) := hidb fun W h1 h2 => ⟨by rw [hf2]; exact h1.setR hu, h2.set _ _⟩
  have HM1 : Hid (∀ W, TS tb g n cap root f2 W → Kg g w W → Calls Try.prog 76 #[.pointer (some ⟨tb, 0, none⟩), .int .i64 p] W (fun e w' => e = .returned (.tuple #[]) ∧ Hid (TS tb g n cap root (measF f2 p) w' ∧ Kg g w w'))) := hidb fun W h1 h2 =>
    (measure_any tb g n cap root f2 W p h1 hp p1 p2 (Nat.le_trans q1 (by decide)) (Nat.le_trans q2 (by decide))).mono fun e w' ⟨x, y, z⟩ => ⟨x, hidb ⟨y, h2.trans z⟩⟩
  have hb3 : ∀ q, (f2 q).h ≤ 1125899906842624 ∨ q = p → (measF f2 p q).h ≤ 1152921504606846976 := fun q hq => by
    by_cases x : q = p
    · subst x
      rw [measF_h]
      omega
    · rw [measF_other x]
      exact Nat.le_trans (hq.resolve_right x) (by decide)
  have v1 : (measF f2 p (measF f2 p up).l).h ≤ 1152921504606846976 := hb3 _ (by rw [(measF_lr f2 p up).1, e2u, hh]; exact .inl b1)
  have v2 : (measF f2 p (measF f2 p up).r).h ≤ 1152921504606846976 := hb3 _ (by rw [(measF_lr f2 p up).2.1, e2u, hh]; exact .inr rfl)
  have u1 : (measF f2 p up).l < n := by rw [(measF_lr f2 p up).1, e2u]; exact hl
  have u2 : (measF f2 p up).r < n := by rw [(measF_lr f2 p up).2.1, e2u]; exact hp
  have HM2 : Hid (∀ W, TS tb g n cap root (measF f2 p) W → Kg g w W → Calls Try.prog 76 #[.pointer (some ⟨tb, 0, none⟩), .int .i64 up] W (fun e w' => e = .returned (.tuple #[]) ∧ Hid (TS tb g n cap root (turnF f p 0) w' ∧ Kg g w w'))) := hidb fun W h1 h2 =>
    (measure_any tb g n cap root (measF f2 p) W up h1 hu u1 u2 v1 v2).mono fun e w' ⟨x, y, z⟩ => ⟨x, hidb ⟨by rw [et]; exact y, h2.trans z⟩⟩
  have E1 : Hid (f1 up = f up) := hidb e1u
  clear h hup hl hr hpr b1 b2 b3 q1 q2 v1 v2 et e1p e1u e2p e2u hh hb3 p1 p2 u1 u2 hf1 hf2 hpu
  generalize hk : (f up).r = k at *
  go_enter Try.func75, Try.ntmps75
  go_wp2_with fail
  clear hk
  go_region
  revert HT1
  generalize (w.setCell ⟨g, p * 5 + 2, none⟩ (.int .i64 (k : Nat))).drew = W
  intro HT1
  clear c0 cl cr cf
  have c0 := HT1.out.1.c0
  have cf := HT1.out.1.fr (up * 5 + 3)
  have cr := HT1.out.1.r hu
  replace HT2 := hidb (HT2.out W HT1.out.1 HT1.out.2)
  clear HT1
  replace HM1 := hidb (HM1.out _ HT2.out.1 HT2.out.2)
  go_wp2_with (first
    | (go_at_call 76; refine HM1.out.mono ?_; clear HM1; rintro e w3 ⟨rfl, K3⟩; replace HM2 := hidb (HM2.out w3 K3.out.1 K3.out.2))
    | (go_at_call 76; refine HM2.out.mono ?_; clear HM2; rintro e w4 ⟨rfl, K4⟩)
    | fail)
  go_ret
  exact ⟨rfl, K4.out.1, K4.out.2⟩
set_option maxRecDepth 100000 in
set_option maxHeartbeats 1000000 in
theorem turned1_any (tb g n cap root : Nat) (f : Nat → Nd) (w : World) (p up : Nat) (h : TS tb g n cap root f w) (hp : p < n) (hup : (f p).r = up) (hu : up < n) (hpu : up ≠ p) (hl : (f up).l < n) (hr : (f up).r < n) (hpr : (f p).l < n) (b1 : (f (f up).l).h ≤ 1125899906842624) (b2 : (f (f up).r).h ≤ 1125899906842624) (b3 : (f (f p).l).h ≤ 1125899906842624) :
    Calls Try.prog 75 #[.pointer (some ⟨tb, 0, none⟩), .int .i64 p, .int .i64 1] w (TEnd tb g n cap root (turnF f p 1) w (.int .i64 up)) := by
  have c0 := h.c0
  have cl := h.r hp
  have cr := h.l hu
  have cf := h.fr (p * 5 + 3)
  have hlt := h.lt
  rw [hup] at cl
  obtain ⟨f1, hf1⟩ : ∃ f1, f1 = upd f p { f p with r := (f up).l } := ⟨_, rfl⟩
  obtain ⟨f2, hf2⟩ : ∃ f2, f2 = upd f1 up { f1 up with l := p } := ⟨_, rfl⟩
  have et : turnF f p 1 = measF (measF f2 p) up := by
    unfold turnF
    rw [hf2, hf1]
    simp only [show (f p).link 1 = up from hup]
    rfl
  have e1p : f1 p = { f p with r := (f up).l } := by rw [hf1, upd_same]
  have e1u : f1 up = f up := by rw [hf1, upd_other _ _ hpu]
  have e2p : f2 p = { f p with r := (f up).l } := by rw [hf2, upd_other _ _ (Ne.symm hpu), e1p]
  have e2u : f2 up = { f up with l := p } := by rw [hf2, upd_same, e1u]
  have hh : ∀ q, (f2 q).h = (f q).h := fun q => by
    by_cases x : q = p
    · rw [x, e2p]
    · by_cases y : q = up
      · rw [y, e2u]
      · rw [hf2, upd_other _ _ y, hf1, upd_other _ _ x]
  have p1 : (f2 p).l < n := by rw [e2p]; exact hpr
  have p2 : (f2 p).r < n := by rw [e2p]; exact hl
  have q1 : (f2 (f2 p).l).h ≤ 1125899906842624 := by rw [hh, e2p]; exact b3
  have q2 : (f2 (f2 p).r).h ≤ 1125899906842624 := by rw [hh, e2p]; exact b1
  have HT1 : Hid (TS tb g n cap root f1 (w.setCell ⟨g, p * 5 + 3, none⟩ (.int .i64 ((f up).l : Nat))).drew ∧ Kg g w (w.setCell ⟨g, p * 5 + 3, none⟩ (.int .i64 ((f up).l : Nat))).drew) := hidb ⟨by rw [hf1]; exact (h.setR hp).drewN 1, ((Kg.refl g w).set _ _).drewN 1⟩
  have HT2 : Hid (∀ W, TS tb g n cap root f1 W → Kg g w W → TS tb g n cap root f2 (W.setCell ⟨g, up * 5 + 2, none⟩ (.int .i64 (p : Nat))) ∧ Kg g w (W.setCell ⟨g, up * 5 + 2, none⟩ (.int .i64 (p : Nat)))) := hidb fun W h1 h2 => ⟨by rw [hf2]; exact h1.setL hu, h2.set _ _⟩
  have HM1 : Hid (∀ W, TS tb g n cap root f2 W → Kg g w W → Calls Try.prog 76 #[.pointer (some ⟨tb, 0, none⟩), .int .i64 p] W (fun e w' => e = .returned (.tuple #[]) ∧ Hid (TS tb g n cap root (measF f2 p) w' ∧ Kg g w w'))) := hidb fun W h1 h2 =>
    (measure_any tb g n cap root f2 W p h1 hp p1 p2 (Nat.le_trans q1 (by decide)) (Nat.le_trans q2 (by decide))).mono fun e w' ⟨x, y, z⟩ => ⟨x, hidb ⟨y, h2.trans z⟩⟩
  have hb3 : ∀ q, (f2 q).h ≤ 1125899906842624 ∨ q = p → (measF f2 p q).h ≤ 1152921504606846976 := fun q hq => by
    by_cases x : q = p
    · subst x
      rw [measF_h]
      omega
    · rw [measF_other x]
      exact Nat.le_trans (hq.resolve_right x) (by decide)
  have v1 : (measF f2 p (measF f2 p up).l).h ≤ 1152921504606846976 := hb3 _ (by rw [(measF_lr f2 p up).1, e2u, hh]; exact .inr rfl)
  have v2 : (measF f2 p (measF f2 p up).r).h ≤ 1152921504606846976 := hb3 _ (by rw [(measF_lr f2 p up).2.1, e2u, hh]; exact .inl b2)
  have u1 : (measF f2 p up).l < n := by rw [(measF_lr f2 p up).1, e2u]; exact hp
  have u2 : (measF f2 p up).r < n := by rw [(measF_lr f2 p up).2.1, e2u]; exact hr
  have HM2 : Hid (∀ W, TS tb g n cap root (measF f2 p) W → Kg g w W → Calls Try.prog 76 #[.pointer (some ⟨tb, 0, none⟩), .int .i64 up] W (fun e w' => e = .returned (.tuple #[]) ∧ Hid (TS tb g n cap root (turnF f p 1) w' ∧ Kg g w w'))) := hidb fun W h1 h2 =>
    (measure_any tb g n cap root (measF f2 p) W up h1 hu u1 u2 v1 v2).mono fun e w' ⟨x, y, z⟩ => ⟨x, hidb ⟨by rw [et]; exact y, h2.trans z⟩⟩
  have E1 : Hid (f1 up = f up) := hidb e1u
  clear h hup hl hr hpr b1 b2 b3 q1 q2 v1 v2 et e1p e1u e2p e2u hh hb3 p1 p2 u1 u2 hf1 hf2 hpu
  generalize hk : (f up).l = k at *
  go_enter Try.func75, Try.ntmps75
  go_wp2_with fail
  clear hk
  go_region
  revert HT1
  generalize (w.setCell ⟨g, p * 5 + 3, none⟩ (.int .i64 (k : Nat))).drew = W
  intro HT1
  clear c0 cl cr cf
  have c0 := HT1.out.1.c0
  have cf := HT1.out.1.fr (up * 5 + 2)
  have cr := HT1.out.1.l hu
  replace HT2 := hidb (HT2.out W HT1.out.1 HT1.out.2)
  clear HT1
  replace HM1 := hidb (HM1.out _ HT2.out.1 HT2.out.2)
  go_wp2_with (first
    | (go_at_call 76; refine HM1.out.mono ?_; clear HM1; rintro e w3 ⟨rfl, K3⟩; replace HM2 := hidb (HM2.out w3 K3.out.1 K3.out.2))
    | (go_at_call 76; refine HM2.out.mono ?_; clear HM2; rintro e w4 ⟨rfl, K4⟩)
    | fail)
  go_ret
  exact ⟨rfl, K4.out.1, K4.out.2⟩
end Go.Proofs.Yticihfbhnbkjjab
