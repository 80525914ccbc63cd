/- Layer 11: the tree's balanced, way by way. -/
import Derived.Test.YticihfbhnbkjjabQG
import Derived.Deep.RegionWith
namespace Go.Proofs.Yticihfbhnbkjjab
open Go.RowKit
set_option maxRecDepth 100000 in
set_option maxHeartbeats 1000000 in
theorem balanced_none (tb g n cap root : Nat) (f : Nat → Nd) (w : World) (p : Nat) (l r : Nat) (h : TS tb g n cap root f w) (hp : p < n) (el : (f p).l = l) (er : (f p).r = r) (hl : l < n) (hr : r < n) (bl : (f l).h ≤ 1125899906842624) (br : (f r).h ≤ 1125899906842624) (h0 : ¬ (f r).h + 1 < (f l).h) (h1 : ¬ (f l).h + 1 < (f r).h) :
    Calls Try.prog 61 #[.pointer (some ⟨tb, 0, none⟩), .int .i64 p] w (TEnd tb g n cap root (measF f p) w (.int .i64 p)) := by
  have c0 := h.c0
  have cl := h.l hp
  have cr := h.r hp
  have d1 := h.h hl
  have d2 := h.h hr
  have hlt := h.lt
  rw [el] at cl
  rw [er] at cr
  have HM : Hid (∀ M, Calls Try.prog 76 #[.pointer (some ⟨tb, 0, none⟩), .int .i64 p] (w.drewN M) (fun e w' => e = .returned (.tuple #[]) ∧ Hid (TS tb g n cap root (measF f p) w' ∧ Kg g w w'))) := hidb fun M =>
    (measure_any tb g n cap root f (w.drewN M) p (h.drewN M) hp (by rw [el]; exact hl) (by rw [er]; exact hr) (by rw [el]; exact Nat.le_trans bl (by decide)) (by rw [er]; exact Nat.le_trans br (by decide))).mono fun e w' ⟨x, y, z⟩ => ⟨x, hidb ⟨y, ((Kg.refl g w).drewN M).trans z⟩⟩
  clear h el er
  generalize (f l).h = x at *
  generalize (f r).h = y at *
  have t0 : decide ((y : Int) + 1 < x) = false := by simp; omega
  have t1 : decide ((x : Int) + 1 < y) = false := by simp; omega
  have W0 : Hid (∃ M, w = w.drewN M) := hidb ⟨0, rfl⟩
  go_enter Try.func61, Try.ntmps61
  go_wp2_with fail
  go_loopw [18] (fun v wr => ∃ k : Nat, v = .int .i64 k ∧ k ≤ 2 ∧ Hid (∃ M, wr = w.drewN M)) (fun v _ => 2 - (intOf v).toNat)
  case atStart => exact ⟨0, rfl, by omega, W0⟩
  case round =>
    obtain ⟨k, rfl, hk, HW⟩ := hrel
    obtain ⟨M, rfl⟩ := HW.out
    clear HW W0
    have hk3 : k = 0 ∨ k = 1 ∨ k = 2 := by omega
    rcases hk3 with rfl | rfl | rfl
    · go_wp2_with fail
      go_quiet (fail)
      go_wp2_with fail
      go_quiet (fail)
      go_wp2_with fail
      exact ⟨⟨1, rfl, by omega, hidb ⟨_, rfl⟩⟩, by simp [intOf]⟩
    · go_wp2_with fail
      go_quiet (fail)
      go_wp2_with fail
      go_quiet (fail)
      go_wp2_with fail
      exact ⟨⟨2, rfl, by omega, hidb ⟨_, rfl⟩⟩, by simp [intOf]⟩
    · go_wp2_with (go_at_call 76; refine (HM.out _).mono ?_; clear HM; rintro e w4 ⟨rfl, K4⟩)
      go_ret
      exact ⟨rfl, K4.out.1, K4.out.2⟩
set_option maxRecDepth 100000 in
set_option maxHeartbeats 1000000 in
theorem balanced0_no (tb g n cap root : Nat) (f : Nat → Nd) (w : World) (p l r inner outer : Nat) (h : TS tb g n cap root f w) (hp : p < n) (el : (f p).l = l) (er : (f p).r = r) (hl : l < n) (hr : r < n) (br : (f r).h ≤ 1125899906842624) (ei : (f l).r = inner) (eo : (f l).l = outer) (hi : inner < n) (ho : outer < n) (ht : (f r).h + 1 < (f l).h) (hin : ¬ (f outer).h < (f inner).h)
    (f2 : Nat → Nd) (HC : Hid (∀ M, Calls Try.prog 75 #[.pointer (some ⟨tb, 0, none⟩), .int .i64 p, .int .i64 0] (w.drewN M) (fun e w' => e = .returned (.int .i64 l) ∧ Hid (TS tb g n cap root f2 w' ∧ Kg g w w')))) :
    Calls Try.prog 61 #[.pointer (some ⟨tb, 0, none⟩), .int .i64 p] w (TEnd tb g n cap root f2 w (.int .i64 l)) := by
  have c0 := h.c0
  have cl := h.l hp
  have cr := h.r hp
  have d1 := h.h hl
  have d2 := h.h hr
  have e1 := h.r hl
  have e2 := h.l hl
  have d3 := h.h hi
  have d4 := h.h ho
  have hlt := h.lt
  rw [el] at cl
  rw [er] at cr
  rw [ei] at e1
  rw [eo] at e2
  clear h el er ei eo
  generalize (f l).h = x at *
  generalize (f r).h = y at *
  generalize (f inner).h = xi at *
  generalize (f outer).h = xo at *
  have t0 : decide ((y : Int) + 1 < x) = true := by simp; omega
  have t2 : decide ((xo : Int) < xi) = false := by simp; omega
  have W0 : Hid (∃ M, w = w.drewN M) := hidb ⟨0, rfl⟩
  go_enter Try.func61, Try.ntmps61
  go_wp2_with fail
  go_loopw [18] (fun v wr => ∃ k : Nat, v = .int .i64 k ∧ k ≤ 0 ∧ Hid (∃ M, wr = w.drewN M)) (fun v _ => 2 - (intOf v).toNat)
  case atStart => exact ⟨0, rfl, by omega, W0⟩
  case round =>
    obtain ⟨k, rfl, hk, HW⟩ := hrel
    obtain ⟨M, rfl⟩ := HW.out
    clear HW W0
    have hk0 : k = 0 := by omega
    subst hk0
    · go_wp2_with fail
      go_quiet (fail)
      go_wp2_with fail
      go_quiet (fail)
      go_wp2_with fail
      go_quiet (fail)
      go_wp2_with fail
      go_quiet (fail)
      go_wp2_with fail
      go_wp2_with (go_at_call 75; refine (HC.out _).mono ?_; clear HC; rintro e w4 ⟨rfl, K4⟩)
      go_ret
      exact ⟨rfl, K4.out.1, K4.out.2⟩
set_option maxRecDepth 100000 in
set_option maxHeartbeats 1000000 in
theorem balanced0_yes (tb g n cap root : Nat) (f : Nat → Nd) (w : World) (p l r inner outer : Nat) (h : TS tb g n cap root f w) (hp : p < n) (el : (f p).l = l) (er : (f p).r = r) (hl : l < n) (hr : r < n) (br : (f r).h ≤ 1125899906842624) (ei : (f l).r = inner) (eo : (f l).l = outer) (hi : inner < n) (ho : outer < n) (ht : (f r).h + 1 < (f l).h) (hin : (f outer).h < (f inner).h)
    (f1 f2 : Nat → Nd) (HC1 : Hid (∀ M, Calls Try.prog 75 #[.pointer (some ⟨tb, 0, none⟩), .int .i64 l, .int .i64 1] (w.drewN M) (fun e w' => e = .returned (.int .i64 inner) ∧ Hid (TS tb g n cap root f1 w' ∧ Kg g w w'))))
    (HC2 : Hid (∀ W, TS tb g n cap root (upd f1 p { f1 p with l := inner }) W → Kg g w W → Calls Try.prog 75 #[.pointer (some ⟨tb, 0, none⟩), .int .i64 p, .int .i64 0] W (fun e w' => e = .returned (.int .i64 inner) ∧ Hid (TS tb g n cap root f2 w' ∧ Kg g w w')))) :
    Calls Try.prog 61 #[.pointer (some ⟨tb, 0, none⟩), .int .i64 p] w (TEnd tb g n cap root f2 w (.int .i64 inner)) := by
  have c0 := h.c0
  have cl := h.l hp
  have cr := h.r hp
  have d1 := h.h hl
  have d2 := h.h hr
  have e1 := h.r hl
  have e2 := h.l hl
  have d3 := h.h hi
  have d4 := h.h ho
  have hlt := h.lt
  rw [el] at cl
  rw [er] at cr
  rw [ei] at e1
  rw [eo] at e2
  clear h el er ei eo
  generalize (f l).h = x at *
  generalize (f r).h = y at *
  generalize (f inner).h = xi at *
  generalize (f outer).h = xo at *
  have t0 : decide ((y : Int) + 1 < x) = true := by simp; omega
  have t2 : decide ((xo : Int) < xi) = true := by simp; omega
  have W0 : Hid (∃ M, w = w.drewN M) := hidb ⟨0, rfl⟩
  go_enter Try.func61, Try.ntmps61
  go_wp2_with fail
  go_loopw [18] (fun v wr => ∃ k : Nat, v = .int .i64 k ∧ k ≤ 0 ∧ Hid (∃ M, wr = w.drewN M)) (fun v _ => 2 - (intOf v).toNat)
  case atStart => exact ⟨0, rfl, by omega, W0⟩
  case round =>
    obtain ⟨k, rfl, hk, HW⟩ := hrel
    obtain ⟨M, rfl⟩ := HW.out
    clear HW W0
    have hk0 : k = 0 := by omega
    subst hk0
    · go_wp2_with fail
      go_quiet (fail)
      go_wp2_with fail
      go_quiet (fail)
      go_wp2_with fail
      go_quiet (fail)
      go_wp2_with fail
      go_quiet (fail)
      go_wp2_with fail
      go_region_with (go_at_call 75; refine (HC1.out _).mono ?_; rintro e w3 ⟨rfl, K3⟩; have cf3 := K3.out.1.fr (p * 5 + 2); have cc3 := K3.out.1.l hp)
      all_goals
        replace HC2 := hidb (HC2.out _ (K3.out.1.setL hp) (K3.out.2.set _ _))
        go_wp2_with (go_at_call 75; refine HC2.out.mono ?_; clear HC2; rintro e w4 ⟨rfl, K4⟩)
        go_ret
        exact ⟨rfl, K4.out.1, K4.out.2⟩
set_option maxRecDepth 100000 in
set_option maxHeartbeats 1000000 in
theorem balanced1_no (tb g n cap root : Nat) (f : Nat → Nd) (w : World) (p l r inner outer : Nat) (h : TS tb g n cap root f w) (hp : p < n) (el : (f p).l = l) (er : (f p).r = r) (hl : l < n) (hr : r < n) (bl : (f l).h ≤ 1125899906842624) (br : (f r).h ≤ 1125899906842624) (ei : (f r).l = inner) (eo : (f r).r = outer) (hi : inner < n) (ho : outer < n) (ht : (f l).h + 1 < (f r).h) (hin : ¬ (f outer).h < (f inner).h)
    (f2 : Nat → Nd) (HC : Hid (∀ M, Calls Try.prog 75 #[.pointer (some ⟨tb, 0, none⟩), .int .i64 p, .int .i64 1] (w.drewN M) (fun e w' => e = .returned (.int .i64 r) ∧ Hid (TS tb g n cap root f2 w' ∧ Kg g w w')))) :
    Calls Try.prog 61 #[.pointer (some ⟨tb, 0, none⟩), .int .i64 p] w (TEnd tb g n cap root f2 w (.int .i64 r)) := by
  have c0 := h.c0
  have cl := h.l hp
  have cr := h.r hp
  have d1 := h.h hl
  have d2 := h.h hr
  have e1 := h.l hr
  have e2 := h.r hr
  have d3 := h.h hi
  have d4 := h.h ho
  have hlt := h.lt
  rw [el] at cl
  rw [er] at cr
  rw [ei] at e1
  rw [eo] at e2
  clear h el er ei eo
  generalize (f l).h = x at *
  generalize (f r).h = y at *
  generalize (f inner).h = xi at *
  generalize (f outer).h = xo at *
  have t0 : decide ((y : Int) + 1 < x) = false := by simp; omega
  have t1 : decide ((x : Int) + 1 < y) = true := by simp; omega
  have t2 : decide ((xo : Int) < xi) = false := by simp; omega
  have W0 : Hid (∃ M, w = w.drewN M) := hidb ⟨0, rfl⟩
  go_enter Try.func61, Try.ntmps61
  go_wp2_with fail
  go_loopw [18] (fun v wr => ∃ k : Nat, v = .int .i64 k ∧ k ≤ 1 ∧ Hid (∃ M, wr = w.drewN M)) (fun v _ => 2 - (intOf v).toNat)
  case atStart => exact ⟨0, rfl, by omega, W0⟩
  case round =>
    obtain ⟨k, rfl, hk, HW⟩ := hrel
    obtain ⟨M, rfl⟩ := HW.out
    clear HW W0
    by_cases hk0 : k = 0
    · subst hk0
      go_wp2_with fail
      go_quiet (fail)
      go_wp2_with fail
      go_quiet (fail)
      go_wp2_with fail
      exact ⟨⟨1, rfl, by omega, hidb ⟨_, rfl⟩⟩, by simp [intOf]⟩
    · have hk1 : k = 1 := by omega
      subst hk1
      go_wp2_with fail
      go_quiet (fail)
      go_wp2_with fail
      go_quiet (fail)
      go_wp2_with fail
      go_quiet (fail)
      go_wp2_with fail
      go_quiet (fail)
      go_wp2_with fail
      go_wp2_with (go_at_call 75; refine (HC.out _).mono ?_; clear HC; rintro e w4 ⟨rfl, K4⟩)
      go_ret
      exact ⟨rfl, K4.out.1, K4.out.2⟩
set_option maxRecDepth 100000 in
set_option maxHeartbeats 1000000 in
theorem balanced1_yes (tb g n cap root : Nat) (f : Nat → Nd) (w : World) (p l r inner outer : Nat) (h : TS tb g n cap root f w) (hp : p < n) (el : (f p).l = l) (er : (f p).r = r) (hl : l < n) (hr : r < n) (bl : (f l).h ≤ 1125899906842624) (br : (f r).h ≤ 1125899906842624) (ei : (f r).l = inner) (eo : (f r).r = outer) (hi : inner < n) (ho : outer < n) (ht : (f l).h + 1 < (f r).h) (hin : (f outer).h < (f inner).h)
    (f1 f2 : Nat → Nd) (HC1 : Hid (∀ M, Calls Try.prog 75 #[.pointer (some ⟨tb, 0, none⟩), .int .i64 r, .int .i64 0] (w.drewN M) (fun e w' => e = .returned (.int .i64 inner) ∧ Hid (TS tb g n cap root f1 w' ∧ Kg g w w'))))
    (HC2 : Hid (∀ W, TS tb g n cap root (upd f1 p { f1 p with r := inner }) W → Kg g w W → Calls Try.prog 75 #[.pointer (some ⟨tb, 0, none⟩), .int .i64 p, .int .i64 1] W (fun e w' => e = .returned (.int .i64 inner) ∧ Hid (TS tb g n cap root f2 w' ∧ Kg g w w')))) :
    Calls Try.prog 61 #[.pointer (some ⟨tb, 0, none⟩), .int .i64 p] w (TEnd tb g n cap root f2 w (.int .i64 inner)) := by
  have c0 := h.c0
  have cl := h.l hp
  have cr := h.r hp
  have d1 := h.h hl
  have d2 := h.h hr
  have e1 := h.l hr
  have e2 := h.r hr
  have d3 := h.h hi
  have d4 := h.h ho
  have hlt := h.lt
  rw [el] at cl
  rw [er] at cr
  rw [ei] at e1
  rw [eo] at e2
  clear h el er ei eo
  generalize (f l).h = x at *
  generalize (f r).h = y at *
  generalize (f inner).h = xi at *
  generalize (f outer).h = xo at *
  have t0 : decide ((y : Int) + 1 < x) = false := by simp; omega
  have t1 : decide ((x : Int) + 1 < y) = true := by simp; omega
  have t2 : decide ((xo : Int) < xi) = true := by simp; omega
  have W0 : Hid (∃ M, w = w.drewN M) := hidb ⟨0, rfl⟩
  go_enter Try.func61, Try.ntmps61
  go_wp2_with fail
  go_loopw [18] (fun v wr => ∃ k : Nat, v = .int .i64 k ∧ k ≤ 1 ∧ Hid (∃ M, wr = w.drewN M)) (fun v _ => 2 - (intOf v).toNat)
  case atStart => exact ⟨0, rfl, by omega, W0⟩
  case round =>
    obtain ⟨k, rfl, hk, HW⟩ := hrel
    obtain ⟨M, rfl⟩ := HW.out
    clear HW W0
    by_cases hk0 : k = 0
    · subst hk0
      go_wp2_with fail
      go_quiet (fail)
      go_wp2_with fail
      go_quiet (fail)
      go_wp2_with fail
      exact ⟨⟨1, rfl, by omega, hidb ⟨_, rfl⟩⟩, by simp [intOf]⟩
    · have hk1 : k = 1 := by omega
      subst hk1
      go_wp2_with fail
      go_quiet (fail)
      go_wp2_with fail
      go_quiet (fail)
      go_wp2_with fail
      go_quiet (fail)
      go_wp2_with fail
      go_quiet (fail)
      go_wp2_with fail
      go_region_with (go_at_call 75; refine (HC1.out _).mono ?_; rintro e w3 ⟨rfl, K3⟩; have cf3 := K3.out.1.fr (p * 5 + 3); have cc3 := K3.out.1.r hp)
      all_goals
        replace HC2 := hidb (HC2.out _ (K3.out.1.setR hp) (K3.out.2.set _ _))
        go_wp2_with (go_at_call 75; refine HC2.out.mono ?_; clear HC2; rintro e w4 ⟨rfl, K4⟩)
        go_ret
        exact ⟨rfl, K4.out.1, K4.out.2⟩
end Go.Proofs.Yticihfbhnbkjjab
