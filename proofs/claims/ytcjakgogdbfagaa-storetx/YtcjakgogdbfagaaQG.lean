/- Layer 11: the tree's turned. Layer 11: the tree's balanced, way by way. -/
import Derived.Test.YtcjakgogdbfagaaQE
import Derived.Deep.RegionWith
namespace Go.Proofs.Ytcjakgogdbfagaa
open Go.RowKit
set_option maxRecDepth 100000 in
set_option maxHeartbeats 1000000 in
theorem turned0_any (tb g n cap root : Nat) (f : Nat → Nd) (w : World) (p up : Nat) (h : TS tb g n cap root f w) (hp : p < n) (hup : (f p).l = up) (hu : up < n) (hpu : up ≠ p) (hl : (f up).l < n) (hr : (f up).r < n) (hpr : (f p).r < n) (b1 : (f (f up).l).h ≤ 1125899906842624) (b2 : (f (f up).r).h ≤ 1125899906842624) (b3 : (f (f p).r).h ≤ 1125899906842624) :
    Calls Try.prog 85 #[.pointer (some ⟨tb, 0, none⟩), .int .i64 p, .int .i64 0] w (TEnd tb g n cap root (turnF f p 0) w (.int .i64 up)) := by
  have c0 := h.c0
  have cl := h.l hp
  have cr := h.r hu
  have cf := h.fr (p * 5 + 2)
  have hlt := h.lt
  rw [hup] at cl
  obtain ⟨f1, hf1⟩ : ∃ f1, f1 = upd f p { f p with l := (f up).r } := ⟨_, rfl⟩
  obtain ⟨f2, hf2⟩ : ∃ f2, f2 = upd f1 up { f1 up with r := p } := ⟨_, rfl⟩
  have et : turnF f p 0 = measF (measF f2 p) up := by
    unfold turnF
    rw [hf2, hf1]
    simp only [show (f p).link 0 = up from hup]
    rfl
  have e1p : f1 p = { f p with l := (f up).r } := by rw [hf1, upd_same]
  have e1u : f1 up = f up := by rw [hf1, upd_other _ _ hpu]
  have e2p : f2 p = { f p with l := (f up).r } := by rw [hf2, upd_other _ _ (Ne.symm hpu), e1p]
  have e2u : f2 up = { f up with r := p } := by rw [hf2, upd_same, e1u]
  have hh : ∀ q, (f2 q).h = (f q).h := fun q => by
    by_cases x : q = p
    · rw [x, e2p]
    · by_cases y : q = up
      · rw [y, e2u]
      · rw [hf2, upd_other _ _ y, hf1, upd_other _ _ x]
  have p1 : (f2 p).l < n := by rw [e2p]; exact hr
  have p2 : (f2 p).r < n := by rw [e2p]; exact hpr
  have q1 : (f2 (f2 p).l).h ≤ 1125899906842624 := by rw [hh, e2p]; exact b2
  have q2 : (f2 (f2 p).r).h ≤ 1125899906842624 := by rw [hh, e2p]; exact b3
  have HT1 : Hid (TS tb g n cap root f1 (w.setCell ⟨g, p * 5 + 2, none⟩ (.int .i64 ((f up).r : Nat))).drew ∧ Kg g w (w.setCell ⟨g, p * 5 + 2, none⟩ (.int .i64 ((f up).r : Nat))).drew) := hidb ⟨by rw [hf1]; exact (h.setL hp).drewN 1, ((Kg.refl g w).set _ _).drewN 1⟩
  have HT2 : Hid (∀ W, TS tb g n cap root f1 W → Kg g w W → TS tb g n cap root f2 (W.setCell ⟨g, up * 5 + 3, none⟩ (.int .i64 (p : Nat))) ∧ Kg g w (W.setCell ⟨g, up * 5 + 3, none⟩ (.int .i64 (p : Nat)))) := hidb fun W h1 h2 => ⟨by rw [hf2]; exact h1.setR hu, h2.set _ _⟩
  have HM1 : Hid (∀ W, TS tb g n cap root f2 W → Kg g w W → Calls Try.prog 86 #[.pointer (some ⟨tb, 0, none⟩), .int .i64 p] W (fun e w' => e = .returned (.tuple #[]) ∧ Hid (TS tb g n cap root (measF f2 p) w' ∧ Kg g w w'))) := hidb fun W h1 h2 =>
    (measure_any tb g n cap root f2 W p h1 hp p1 p2 (Nat.le_trans q1 (by decide)) (Nat.le_trans q2 (by decide))).mono fun e w' ⟨x, y, z⟩ => ⟨x, hidb ⟨y, h2.trans z⟩⟩
  have hb3 : ∀ q, (f2 q).h ≤ 1125899906842624 ∨ q = p → (measF f2 p q).h ≤ 1152921504606846976 := fun q hq => by
    by_cases x : q = p
    · subst x
      rw [measF_h]
      omega
    · rw [measF_other x]
      exact Nat.le_trans (hq.resolve_right x) (by decide)
  have v1 : (measF f2 p (measF f2 p up).l).h ≤ 1152921504606846976 := hb3 _ (by rw [(measF_lr f2 p up).1, e2u, hh]; exact .inl b1)
  have v2 : (measF f2 p (measF f2 p up).r).h ≤ 1152921504606846976 := hb3 _ (by rw [(measF_lr f2 p up).2.1, e2u, hh]; exact .inr rfl)
  have u1 : (measF f2 p up).l < n := by rw [(measF_lr f2 p up).1, e2u]; exact hl
  have u2 : (measF f2 p up).r < n := by rw [(measF_lr f2 p up).2.1, e2u]; exact hp
  have HM2 : Hid (∀ W, TS tb g n cap root (measF f2 p) W → Kg g w W → Calls Try.prog 86 #[.pointer (some ⟨tb, 0, none⟩), .int .i64 up] W (fun e w' => e = .returned (.tuple #[]) ∧ Hid (TS tb g n cap root (turnF f p 0) w' ∧ Kg g w w'))) := hidb fun W h1 h2 =>
    (measure_any tb g n cap root (measF f2 p) W up h1 hu u1 u2 v1 v2).mono fun e w' ⟨x, y, z⟩ => ⟨x, hidb ⟨by rw [et]; exact y, h2.trans z⟩⟩
  have E1 : Hid (f1 up = f up) := hidb e1u
  clear h hup hl hr hpr b1 b2 b3 q1 q2 v1 v2 et e1p e1u e2p e2u hh hb3 p1 p2 u1 u2 hf1 hf2 hpu
  generalize hk : (f up).r = k at *
  go_enter Try.func85, Try.ntmps85
  go_wp2_with fail
  clear hk
  go_region
  revert HT1
  generalize (w.setCell ⟨g, p * 5 + 2, none⟩ (.int .i64 (k : Nat))).drew = W
  intro HT1
  clear c0 cl cr cf
  have c0 := HT1.out.1.c0
  have cf := HT1.out.1.fr (up * 5 + 3)
  have cr := HT1.out.1.r hu
  replace HT2 := hidb (HT2.out W HT1.out.1 HT1.out.2)
  clear HT1
  replace HM1 := hidb (HM1.out _ HT2.out.1 HT2.out.2)
  go_wp2_with (first
    | (go_at_call 86; refine HM1.out.mono ?_; clear HM1; rintro e w3 ⟨rfl, K3⟩; replace HM2 := hidb (HM2.out w3 K3.out.1 K3.out.2))
    | (go_at_call 86; refine HM2.out.mono ?_; clear HM2; rintro e w4 ⟨rfl, K4⟩)
    | fail)
  go_ret
  exact ⟨rfl, K4.out.1, K4.out.2⟩
set_option maxRecDepth 100000 in
set_option maxHeartbeats 1000000 in
theorem turned1_any (tb g n cap root : Nat) (f : Nat → Nd) (w : World) (p up : Nat) (h : TS tb g n cap root f w) (hp : p < n) (hup : (f p).r = up) (hu : up < n) (hpu : up ≠ p) (hl : (f up).l < n) (hr : (f up).r < n) (hpr : (f p).l < n) (b1 : (f (f up).l).h ≤ 1125899906842624) (b2 : (f (f up).r).h ≤ 1125899906842624) (b3 : (f (f p).l).h ≤ 1125899906842624) :
    Calls Try.prog 85 #[.pointer (some ⟨tb, 0, none⟩), .int .i64 p, .int .i64 1] w (TEnd tb g n cap root (turnF f p 1) w (.int .i64 up)) := by
  have c0 := h.c0
  have cl := h.r hp
  have cr := h.l hu
  have cf := h.fr (p * 5 + 3)
  have hlt := h.lt
  rw [hup] at cl
  obtain ⟨f1, hf1⟩ : ∃ f1, f1 = upd f p { f p with r := (f up).l } := ⟨_, rfl⟩
  obtain ⟨f2, hf2⟩ : ∃ f2, f2 = upd f1 up { f1 up with l := p } := ⟨_, rfl⟩
  have et : turnF f p 1 = measF (measF f2 p) up := by
    unfold turnF
    rw [hf2, hf1]
    simp only [show (f p).link 1 = up from hup]
    rfl
  have e1p : f1 p = { f p with r := (f up).l } := by rw [hf1, upd_same]
  have e1u : f1 up = f up := by rw [hf1, upd_other _ _ hpu]
  have e2p : f2 p = { f p with r := (f up).l } := by rw [hf2, upd_other _ _ (Ne.symm hpu), e1p]
  have e2u : f2 up = { f up with l := p } := by rw [hf2, upd_same, e1u]
  have hh : ∀ q, (f2 q).h = (f q).h := fun q => by
    by_cases x : q = p
    · rw [x, e2p]
    · by_cases y : q = up
      · rw [y, e2u]
      · rw [hf2, upd_other _ _ y, hf1, upd_other _ _ x]
  have p1 : (f2 p).l < n := by rw [e2p]; exact hpr
  have p2 : (f2 p).r < n := by rw [e2p]; exact hl
  have q1 : (f2 (f2 p).l).h ≤ 1125899906842624 := by rw [hh, e2p]; exact b3
  have q2 : (f2 (f2 p).r).h ≤ 1125899906842624 := by rw [hh, e2p]; exact b1
  have HT1 : Hid (TS tb g n cap root f1 (w.setCell ⟨g, p * 5 + 3, none⟩ (.int .i64 ((f up).l : Nat))).drew ∧ Kg g w (w.setCell ⟨g, p * 5 + 3, none⟩ (.int .i64 ((f up).l : Nat))).drew) := hidb ⟨by rw [hf1]; exact (h.setR hp).drewN 1, ((Kg.refl g w).set _ _).drewN 1⟩
  have HT2 : Hid (∀ W, TS tb g n cap root f1 W → Kg g w W → TS tb g n cap root f2 (W.setCell ⟨g, up * 5 + 2, none⟩ (.int .i64 (p : Nat))) ∧ Kg g w (W.setCell ⟨g, up * 5 + 2, none⟩ (.int .i64 (p : Nat)))) := hidb fun W h1 h2 => ⟨by rw [hf2]; exact h1.setL hu, h2.set _ _⟩
  have HM1 : Hid (∀ W, TS tb g n cap root f2 W → Kg g w W → Calls Try.prog 86 #[.pointer (some ⟨tb, 0, none⟩), .int .i64 p] W (fun e w' => e = .returned (.tuple #[]) ∧ Hid (TS tb g n cap root (measF f2 p) w' ∧ Kg g w w'))) := hidb fun W h1 h2 =>
    (measure_any tb g n cap root f2 W p h1 hp p1 p2 (Nat.le_trans q1 (by decide)) (Nat.le_trans q2 (by decide))).mono fun e w' ⟨x, y, z⟩ => ⟨x, hidb ⟨y, h2.trans z⟩⟩
  have hb3 : ∀ q, (f2 q).h ≤ 1125899906842624 ∨ q = p → (measF f2 p q).h ≤ 1152921504606846976 := fun q hq => by
    by_cases x : q = p
    · subst x
      rw [measF_h]
      omega
    · rw [measF_other x]
      exact Nat.le_trans (hq.resolve_right x) (by decide)
  have v1 : (measF f2 p (measF f2 p up).l).h ≤ 1152921504606846976 := hb3 _ (by rw [(measF_lr f2 p up).1, e2u, hh]; exact .inr rfl)
  have v2 : (measF f2 p (measF f2 p up).r).h ≤ 1152921504606846976 := hb3 _ (by rw [(measF_lr f2 p up).2.1, e2u, hh]; exact .inl b2)
  have u1 : (measF f2 p up).l < n := by rw [(measF_lr f2 p up).1, e2u]; exact hp
  have u2 : (measF f2 p up).r < n := by rw [(measF_lr f2 p up).2.1, e2u]; exact hr
  have HM2 : Hid (∀ W, TS tb g n cap root (measF f2 p) W → Kg g w W → Calls Try.prog 86 #[.pointer (some ⟨tb, 0, none⟩), .int .i64 up] W (fun e w' => e = .returned (.tuple #[]) ∧ Hid (TS tb g n cap root (turnF f p 1) w' ∧ Kg g w w'))) := hidb fun W h1 h2 =>
    (measure_any tb g n cap root (measF f2 p) W up h1 hu u1 u2 v1 v2).mono fun e w' ⟨x, y, z⟩ => ⟨x, hidb ⟨by rw [et]; exact y, h2.trans z⟩⟩
  have E1 : Hid (f1 up = f up) := hidb e1u
  clear h hup hl hr hpr b1 b2 b3 q1 q2 v1 v2 et e1p e1u e2p e2u hh hb3 p1 p2 u1 u2 hf1 hf2 hpu
  generalize hk : (f up).l = k at *
  go_enter Try.func85, Try.ntmps85
  go_wp2_with fail
  clear hk
  go_region
  revert HT1
  generalize (w.setCell ⟨g, p * 5 + 3, none⟩ (.int .i64 (k : Nat))).drew = W
  intro HT1
  clear c0 cl cr cf
  have c0 := HT1.out.1.c0
  have cf := HT1.out.1.fr (up * 5 + 2)
  have cr := HT1.out.1.l hu
  replace HT2 := hidb (HT2.out W HT1.out.1 HT1.out.2)
  clear HT1
  replace HM1 := hidb (HM1.out _ HT2.out.1 HT2.out.2)
  go_wp2_with (first
    | (go_at_call 86; refine HM1.out.mono ?_; clear HM1; rintro e w3 ⟨rfl, K3⟩; replace HM2 := hidb (HM2.out w3 K3.out.1 K3.out.2))
    | (go_at_call 86; refine HM2.out.mono ?_; clear HM2; rintro e w4 ⟨rfl, K4⟩)
    | fail)
  go_ret
  exact ⟨rfl, K4.out.1, K4.out.2⟩
end Go.Proofs.Ytcjakgogdbfagaa
namespace Go.Proofs.Ytcjakgogdbfagaa
open Go.RowKit
set_option maxRecDepth 100000 in
set_option maxHeartbeats 1000000 in
theorem balanced_none (tb g n cap root : Nat) (f : Nat → Nd) (w : World) (p : Nat) (l r : Nat) (h : TS tb g n cap root f w) (hp : p < n) (el : (f p).l = l) (er : (f p).r = r) (hl : l < n) (hr : r < n) (bl : (f l).h ≤ 1125899906842624) (br : (f r).h ≤ 1125899906842624) (h0 : ¬ (f r).h + 1 < (f l).h) (h1 : ¬ (f l).h + 1 < (f r).h) :
    Calls Try.prog 71 #[.pointer (some ⟨tb, 0, none⟩), .int .i64 p] w (TEnd tb g n cap root (measF f p) w (.int .i64 p)) := by
  have c0 := h.c0
  have cl := h.l hp
  have cr := h.r hp
  have d1 := h.h hl
  have d2 := h.h hr
  have hlt := h.lt
  rw [el] at cl
  rw [er] at cr
  have HM : Hid (∀ M, Calls Try.prog 86 #[.pointer (some ⟨tb, 0, none⟩), .int .i64 p] (w.drewN M) (fun e w' => e = .returned (.tuple #[]) ∧ Hid (TS tb g n cap root (measF f p) w' ∧ Kg g w w'))) := hidb fun M =>
    (measure_any tb g n cap root f (w.drewN M) p (h.drewN M) hp (by rw [el]; exact hl) (by rw [er]; exact hr) (by rw [el]; exact Nat.le_trans bl (by decide)) (by rw [er]; exact Nat.le_trans br (by decide))).mono fun e w' ⟨x, y, z⟩ => ⟨x, hidb ⟨y, ((Kg.refl g w).drewN M).trans z⟩⟩
  clear h el er
  generalize (f l).h = x at *
  generalize (f r).h = y at *
  have t0 : decide ((y : Int) + 1 < x) = false := by simp; omega
  have t1 : decide ((x : Int) + 1 < y) = false := by simp; omega
  have W0 : Hid (∃ M, w = w.drewN M) := hidb ⟨0, rfl⟩
  go_enter Try.func71, Try.ntmps71
  go_wp2_with fail
  go_loopw [18] (fun v wr => ∃ k : Nat, v = .int .i64 k ∧ k ≤ 2 ∧ Hid (∃ M, wr = w.drewN M)) (fun v _ => 2 - (intOf v).toNat)
  case atStart => exact ⟨0, rfl, by omega, W0⟩
  case round =>
    obtain ⟨k, rfl, hk, HW⟩ := hrel
    obtain ⟨M, rfl⟩ := HW.out
    clear HW W0
    have hk3 : k = 0 ∨ k = 1 ∨ k = 2 := by omega
    rcases hk3 with rfl | rfl | rfl
    · go_wp2_with fail
      go_quiet (fail)
      go_wp2_with fail
      go_quiet (fail)
      go_wp2_with fail
      exact ⟨⟨1, rfl, by omega, hidb ⟨_, rfl⟩⟩, by simp [intOf]⟩
    · go_wp2_with fail
      go_quiet (fail)
      go_wp2_with fail
      go_quiet (fail)
      go_wp2_with fail
      exact ⟨⟨2, rfl, by omega, hidb ⟨_, rfl⟩⟩, by simp [intOf]⟩
    · go_wp2_with (go_at_call 86; refine (HM.out _).mono ?_; clear HM; rintro e w4 ⟨rfl, K4⟩)
      go_ret
      exact ⟨rfl, K4.out.1, K4.out.2⟩
set_option maxRecDepth 100000 in
set_option maxHeartbeats 1000000 in
theorem balanced0_no (tb g n cap root : Nat) (f : Nat → Nd) (w : World) (p l r inner outer : Nat) (h : TS tb g n cap root f w) (hp : p < n) (el : (f p).l = l) (er : (f p).r = r) (hl : l < n) (hr : r < n) (br : (f r).h ≤ 1125899906842624) (ei : (f l).r = inner) (eo : (f l).l = outer) (hi : inner < n) (ho : outer < n) (ht : (f r).h + 1 < (f l).h) (hin : ¬ (f outer).h < (f inner).h)
    (f2 : Nat → Nd) (HC : Hid (∀ M, Calls Try.prog 85 #[.pointer (some ⟨tb, 0, none⟩), .int .i64 p, .int .i64 0] (w.drewN M) (fun e w' => e = .returned (.int .i64 l) ∧ Hid (TS tb g n cap root f2 w' ∧ Kg g w w')))) :
    Calls Try.prog 71 #[.pointer (some ⟨tb, 0, none⟩), .int .i64 p] w (TEnd tb g n cap root f2 w (.int .i64 l)) := by
  have c0 := h.c0
  have cl := h.l hp
  have cr := h.r hp
  have d1 := h.h hl
  have d2 := h.h hr
  have e1 := h.r hl
  have e2 := h.l hl
  have d3 := h.h hi
  have d4 := h.h ho
  have hlt := h.lt
  rw [el] at cl
  rw [er] at cr
  rw [ei] at e1
  rw [eo] at e2
  clear h el er ei eo
  generalize (f l).h = x at *
  generalize (f r).h = y at *
  generalize (f inner).h = xi at *
  generalize (f outer).h = xo at *
  have t0 : decide ((y : Int) + 1 < x) = true := by simp; omega
  have t2 : decide ((xo : Int) < xi) = false := by simp; omega
  have W0 : Hid (∃ M, w = w.drewN M) := hidb ⟨0, rfl⟩
  go_enter Try.func71, Try.ntmps71
  go_wp2_with fail
  go_loopw [18] (fun v wr => ∃ k : Nat, v = .int .i64 k ∧ k ≤ 0 ∧ Hid (∃ M, wr = w.drewN M)) (fun v _ => 2 - (intOf v).toNat)
  case atStart => exact ⟨0, rfl, by omega, W0⟩
  case round =>
    obtain ⟨k, rfl, hk, HW⟩ := hrel
    obtain ⟨M, rfl⟩ := HW.out
    clear HW W0
    have hk0 : k = 0 := by omega
    subst hk0
    · go_wp2_with fail
      go_quiet (fail)
      go_wp2_with fail
      go_quiet (fail)
      go_wp2_with fail
      go_quiet (fail)
      go_wp2_with fail
      go_quiet (fail)
      go_wp2_with fail
      go_wp2_with (go_at_call 85; refine (HC.out _).mono ?_; clear HC; rintro e w4 ⟨rfl, K4⟩)
      go_ret
      exact ⟨rfl, K4.out.1, K4.out.2⟩
set_option maxRecDepth 100000 in
set_option maxHeartbeats 1000000 in
theorem balanced0_yes (tb g n cap root : Nat) (f : Nat → Nd) (w : World) (p l r inner outer : Nat) (h : TS tb g n cap root f w) (hp : p < n) (el : (f p).l = l) (er : (f p).r = r) (hl : l < n) (hr : r < n) (br : (f r).h ≤ 1125899906842624) (ei : (f l).r = inner) (eo : (f l).l = outer) (hi : inner < n) (ho : outer < n) (ht : (f r).h + 1 < (f l).h) (hin : (f outer).h < (f inner).h)
    (f1 f2 : Nat → Nd) (HC1 : Hid (∀ M, Calls Try.prog 85 #[.pointer (some ⟨tb, 0, none⟩), .int .i64 l, .int .i64 1] (w.drewN M) (fun e w' => e = .returned (.int .i64 inner) ∧ Hid (TS tb g n cap root f1 w' ∧ Kg g w w'))))
    (HC2 : Hid (∀ W, TS tb g n cap root (upd f1 p { f1 p with l := inner }) W → Kg g w W → Calls Try.prog 85 #[.pointer (some ⟨tb, 0, none⟩), .int .i64 p, .int .i64 0] W (fun e w' => e = .returned (.int .i64 inner) ∧ Hid (TS tb g n cap root f2 w' ∧ Kg g w w')))) :
    Calls Try.prog 71 #[.pointer (some ⟨tb, 0, none⟩), .int .i64 p] w (TEnd tb g n cap root f2 w (.int .i64 inner)) := by
  have c0 := h.c0
  have cl := h.l hp
  have cr := h.r hp
  have d1 := h.h hl
  have d2 := h.h hr
  have e1 := h.r hl
  have e2 := h.l hl
  have d3 := h.h hi
  have d4 := h.h ho
  have hlt := h.lt
  rw [el] at cl
  rw [er] at cr
  rw [ei] at e1
  rw [eo] at e2
  clear h el er ei eo
  generalize (f l).h = x at *
  generalize (f r).h = y at *
  generalize (f inner).h = xi at *
  generalize (f outer).h = xo at *
  have t0 : decide ((y : Int) + 1 < x) = true := by simp; omega
  have t2 : decide ((xo : Int) < xi) = true := by simp; omega
  have W0 : Hid (∃ M, w = w.drewN M) := hidb ⟨0, rfl⟩
  go_enter Try.func71, Try.ntmps71
  go_wp2_with fail
  go_loopw [18] (fun v wr => ∃ k : Nat, v = .int .i64 k ∧ k ≤ 0 ∧ Hid (∃ M, wr = w.drewN M)) (fun v _ => 2 - (intOf v).toNat)
  case atStart => exact ⟨0, rfl, by omega, W0⟩
  case round =>
    obtain ⟨k, rfl, hk, HW⟩ := hrel
    obtain ⟨M, rfl⟩ := HW.out
    clear HW W0
    have hk0 : k = 0 := by omega
    subst hk0
    · go_wp2_with fail
      go_quiet (fail)
      go_wp2_with fail
      go_quiet (fail)
      go_wp2_with fail
      go_quiet (fail)
      go_wp2_with fail
      go_quiet (fail)
      go_wp2_with fail
      go_region_with (go_at_call 85; refine (HC1.out _).mono ?_; rintro e w3 ⟨rfl, K3⟩; have cf3 := K3.out.1.fr (p * 5 + 2); have cc3 := K3.out.1.l hp)
      all_goals
        replace HC2 := hidb (HC2.out _ (K3.out.1.setL hp) (K3.out.2.set _ _))
        go_wp2_with (go_at_call 85; refine HC2.out.mono ?_; clear HC2; rintro e w4 ⟨rfl, K4⟩)
        go_ret
        exact ⟨rfl, K4.out.1, K4.out.2⟩
set_option maxRecDepth 100000 in
set_option maxHeartbeats 1000000 in
theorem balanced1_no (tb g n cap root : Nat) (f : Nat → Nd) (w : World) (p l r inner outer : Nat) (h : TS tb g n cap root f w) (hp : p < n) (el : (f p).l = l) (er : (f p).r = r) (hl : l < n) (hr : r < n) (bl : (f l).h ≤ 1125899906842624) (br : (f r).h ≤ 1125899906842624) (ei : (f r).l = inner) (eo : (f r).r = outer) (hi : inner < n) (ho : outer < n) (ht : (f l).h + 1 < (f r).h) (hin : ¬ (f outer).h < (f inner).h)
    (f2 : Nat → Nd) (HC : Hid (∀ M, Calls Try.prog 85 #[.pointer (some ⟨tb, 0, none⟩), .int .i64 p, .int .i64 1] (w.drewN M) (fun e w' => e = .returned (.int .i64 r) ∧ Hid (TS tb g n cap root f2 w' ∧ Kg g w w')))) :
    Calls Try.prog 71 #[.pointer (some ⟨tb, 0, none⟩), .int .i64 p] w (TEnd tb g n cap root f2 w (.int .i64 r)) := by
  have c0 := h.c0
  have cl := h.l hp
  have cr := h.r hp
  have d1 := h.h hl
  have d2 := h.h hr
  have e1 := h.l hr
  have e2 := h.r hr
  have d3 := h.h hi
  have d4 := h.h ho
  have hlt := h.lt
  rw [el] at cl
  rw [er] at cr
  rw [ei] at e1
  rw [eo] at e2
  clear h el er ei eo
  generalize (f l).h = x at *
  generalize (f r).h = y at *
  generalize (f inner).h = xi at *
  generalize (f outer).h = xo at *
  have t0 : decide ((y : Int) + 1 < x) = false := by simp; omega
  have t1 : decide ((x : Int) + 1 < y) = true := by simp; omega
  have t2 : decide ((xo : Int) < xi) = false := by simp; omega
  have W0 : Hid (∃ M, w = w.drewN M) := hidb ⟨0, rfl⟩
  go_enter Try.func71, Try.ntmps71
  go_wp2_with fail
  go_loopw [18] (fun v wr => ∃ k : Nat, v = .int .i64 k ∧ k ≤ 1 ∧ Hid (∃ M, wr = w.drewN M)) (fun v _ => 2 - (intOf v).toNat)
  case atStart => exact ⟨0, rfl, by omega, W0⟩
  case round =>
    obtain ⟨k, rfl, hk, HW⟩ := hrel
    obtain ⟨M, rfl⟩ := HW.out
    clear HW W0
    by_cases hk0 : k = 0
    · subst hk0
      go_wp2_with fail
      go_quiet (fail)
      go_wp2_with fail
      go_quiet (fail)
      go_wp2_with fail
      exact ⟨⟨1, rfl, by omega, hidb ⟨_, rfl⟩⟩, by simp [intOf]⟩
    · have hk1 : k = 1 := by omega
      subst hk1
      go_wp2_with fail
      go_quiet (fail)
      go_wp2_with fail
      go_quiet (fail)
      go_wp2_with fail
      go_quiet (fail)
      go_wp2_with fail
      go_quiet (fail)
      go_wp2_with fail
      go_wp2_with (go_at_call 85; refine (HC.out _).mono ?_; clear HC; rintro e w4 ⟨rfl, K4⟩)
      go_ret
      exact ⟨rfl, K4.out.1, K4.out.2⟩
set_option maxRecDepth 100000 in
set_option maxHeartbeats 1000000 in
theorem balanced1_yes (tb g n cap root : Nat) (f : Nat → Nd) (w : World) (p l r inner outer : Nat) (h : TS tb g n cap root f w) (hp : p < n) (el : (f p).l = l) (er : (f p).r = r) (hl : l < n) (hr : r < n) (bl : (f l).h ≤ 1125899906842624) (br : (f r).h ≤ 1125899906842624) (ei : (f r).l = inner) (eo : (f r).r = outer) (hi : inner < n) (ho : outer < n) (ht : (f l).h + 1 < (f r).h) (hin : (f outer).h < (f inner).h)
    (f1 f2 : Nat → Nd) (HC1 : Hid (∀ M, Calls Try.prog 85 #[.pointer (some ⟨tb, 0, none⟩), .int .i64 r, .int .i64 0] (w.drewN M) (fun e w' => e = .returned (.int .i64 inner) ∧ Hid (TS tb g n cap root f1 w' ∧ Kg g w w'))))
    (HC2 : Hid (∀ W, TS tb g n cap root (upd f1 p { f1 p with r := inner }) W → Kg g w W → Calls Try.prog 85 #[.pointer (some ⟨tb, 0, none⟩), .int .i64 p, .int .i64 1] W (fun e w' => e = .returned (.int .i64 inner) ∧ Hid (TS tb g n cap root f2 w' ∧ Kg g w w')))) :
    Calls Try.prog 71 #[.pointer (some ⟨tb, 0, none⟩), .int .i64 p] w (TEnd tb g n cap root f2 w (.int .i64 inner)) := by
  have c0 := h.c0
  have cl := h.l hp
  have cr := h.r hp
  have d1 := h.h hl
  have d2 := h.h hr
  have e1 := h.l hr
  have e2 := h.r hr
  have d3 := h.h hi
  have d4 := h.h ho
  have hlt := h.lt
  rw [el] at cl
  rw [er] at cr
  rw [ei] at e1
  rw [eo] at e2
  clear h el er ei eo
  generalize (f l).h = x at *
  generalize (f r).h = y at *
  generalize (f inner).h = xi at *
  generalize (f outer).h = xo at *
  have t0 : decide ((y : Int) + 1 < x) = false := by simp; omega
  have t1 : decide ((x : Int) + 1 < y) = true := by simp; omega
  have t2 : decide ((xo : Int) < xi) = true := by simp; omega
  have W0 : Hid (∃ M, w = w.drewN M) := hidb ⟨0, rfl⟩
  go_enter Try.func71, Try.ntmps71
  go_wp2_with fail
  go_loopw [18] (fun v wr => ∃ k : Nat, v = .int .i64 k ∧ k ≤ 1 ∧ Hid (∃ M, wr = w.drewN M)) (fun v _ => 2 - (intOf v).toNat)
  case atStart => exact ⟨0, rfl, by omega, W0⟩
  case round =>
    obtain ⟨k, rfl, hk, HW⟩ := hrel
    obtain ⟨M, rfl⟩ := HW.out
    clear HW W0
    by_cases hk0 : k = 0
    · subst hk0
      go_wp2_with fail
      go_quiet (fail)
      go_wp2_with fail
      go_quiet (fail)
      go_wp2_with fail
      exact ⟨⟨1, rfl, by omega, hidb ⟨_, rfl⟩⟩, by simp [intOf]⟩
    · have hk1 : k = 1 := by omega
      subst hk1
      go_wp2_with fail
      go_quiet (fail)
      go_wp2_with fail
      go_quiet (fail)
      go_wp2_with fail
      go_quiet (fail)
      go_wp2_with fail
      go_quiet (fail)
      go_wp2_with fail
      go_region_with (go_at_call 85; refine (HC1.out _).mono ?_; rintro e w3 ⟨rfl, K3⟩; have cf3 := K3.out.1.fr (p * 5 + 3); have cc3 := K3.out.1.r hp)
      all_goals
        replace HC2 := hidb (HC2.out _ (K3.out.1.setR hp) (K3.out.2.set _ _))
        go_wp2_with (go_at_call 85; refine HC2.out.mono ?_; clear HC2; rintro e w4 ⟨rfl, K4⟩)
        go_ret
        exact ⟨rfl, K4.out.1, K4.out.2⟩
end Go.Proofs.Ytcjakgogdbfagaa
