/- What a Reader's Byte, Int and Text do. -/
import Derived.Test.YtmaecpmdikdclaaRD
import Derived.Test.YtmaecpmdikdclaaWH
namespace Go.Proofs.Ytmaecpmdikdclaa
open Go.RowKit

/-- A number of 64 bits as an int. -/
def toInt (n : Nat) : Int := if n < 9223372036854775808 then (n : Int) else (n : Int) - 18446744073709551616
theorem wrap_toInt (n : Nat) (h : n < 18446744073709551616) : wrap64 (n : Int) = toInt n := by
  unfold toInt wrap64
  split <;> omega
theorem wrap_none : wrap64 ((num [] : Nat) : Int) = 0 := by rw [wrap_toInt _ (num_lt _)]; rfl
theorem num_one (x : UInt8) : num [x] = x.toNat := by
  simp [num, numStep]
theorem num_two (x y : UInt8) : num [x, y] = x.toNat * 256 + y.toNat := by
  have := x.toNat_lt
  have := y.toNat_lt
  simp [num, numStep]; omega

set_option maxHeartbeats 400000 in
theorem rbyte_bad (p h g : Nat) (bs : List UInt8) (err : Int) (w : World) (H : RdS w p h g bs err) (he : err ≠ 0) :
    Calls Try.prog 71 #[.pointer (some ⟨p, 0, none⟩)] w fun e w' => e = .returned (.int .i64 0) ∧ w' = w := by
  obtain ⟨⟨ao, cap, hE, hB, hc, hm⟩, hg⟩ := H
  go_enter Try.func71, Try.ntmps71
  go_wp2_with (first | (go_at_call 87; refine (take_bad p h ao _ cap err _ _ hE he).mono ?_; rintro e w' ⟨rfl, hw⟩; subst hw) | (go_at_call 86; refine (number_any none 0 0 [] _ rfl (by decide) (.inl rfl)).mono ?_; rintro e w' ⟨rfl, hw⟩; subst hw))
  go_ret
  exact ⟨ret_int wrap_none, rfl⟩
set_option maxHeartbeats 400000 in
theorem rint_bad (p h g : Nat) (bs : List UInt8) (err : Int) (w : World) (H : RdS w p h g bs err) (he : err ≠ 0) :
    Calls Try.prog 72 #[.pointer (some ⟨p, 0, none⟩)] w fun e w' => e = .returned (.int .i64 0) ∧ w' = w := by
  obtain ⟨⟨ao, cap, hE, hB, hc, hm⟩, hg⟩ := H
  go_enter Try.func72, Try.ntmps72
  go_wp2_with (first | (go_at_call 87; refine (take_bad p h ao _ cap err _ _ hE he).mono ?_; rintro e w' ⟨rfl, hw⟩; subst hw) | (go_at_call 86; refine (number_any none 0 0 [] _ rfl (by decide) (.inl rfl)).mono ?_; rintro e w' ⟨rfl, hw⟩; subst hw))
  go_ret
  exact ⟨ret_int wrap_none, rfl⟩

theorem RdS.failed {w : World} {p h g : Nat} {bs : List UInt8} {ao : Option Addr} {cap : Nat} (hE : RdE w p h (.slice ao bs.length cap) 0) (hB : BsAt w g ao bs) (hc : bs.length ≤ cap) (hm : cap ≤ 140737488355328) (hg : g ≠ h) :
    RdS (w.setCell ⟨h, 1, none⟩ (.int .i64 20)) p h g bs 20 ∧ Chg w (w.setCell ⟨h, 1, none⟩ (.int .i64 20)) (fun k => k = h) :=
  ⟨⟨⟨ao, cap, hE.set1 20, hB.chg (Chg.setCell w ⟨h, 1, none⟩ _) hg, hc, hm⟩, hg⟩, Chg.setCell w ⟨h, 1, none⟩ _⟩

set_option maxHeartbeats 400000 in
theorem rbyte_end (p h g : Nat) (bs : List UInt8) (w : World) (H : RdS w p h g bs 0) (hl : bs.length < 1) :
    Calls Try.prog 71 #[.pointer (some ⟨p, 0, none⟩)] w fun e w' => e = .returned (.int .i64 0) ∧ RdS w' p h g bs 20 ∧ Chg w w' (fun k => k = h) := by
  obtain ⟨⟨ao, cap, hE, hB, hc, hm⟩, hg⟩ := H
  have HR := RdS.failed hE hB hc hm hg
  go_enter Try.func71, Try.ntmps71
  go_wp2_with (first | (go_at_call 87; refine (take_end p h ao _ cap _ _ hE (by omega)).mono ?_; rintro e w' ⟨rfl, rfl⟩) | (go_at_call 86; refine (number_any none 0 0 [] _ rfl (by decide) (.inl rfl)).mono ?_; rintro e w' ⟨rfl, rfl⟩))
  go_ret
  exact ⟨ret_int wrap_none, HR⟩
set_option maxHeartbeats 400000 in
theorem rint_end (p h g : Nat) (bs : List UInt8) (w : World) (H : RdS w p h g bs 0) (hl : bs.length < 8) :
    Calls Try.prog 72 #[.pointer (some ⟨p, 0, none⟩)] w fun e w' => e = .returned (.int .i64 0) ∧ RdS w' p h g bs 20 ∧ Chg w w' (fun k => k = h) := by
  obtain ⟨⟨ao, cap, hE, hB, hc, hm⟩, hg⟩ := H
  have HR := RdS.failed hE hB hc hm hg
  go_enter Try.func72, Try.ntmps72
  go_wp2_with (first | (go_at_call 87; refine (take_end p h ao _ cap _ _ hE (by omega)).mono ?_; rintro e w' ⟨rfl, rfl⟩) | (go_at_call 86; refine (number_any none 0 0 [] _ rfl (by decide) (.inl rfl)).mono ?_; rintro e w' ⟨rfl, rfl⟩))
  go_ret
  exact ⟨ret_int wrap_none, HR⟩

set_option maxHeartbeats 400000 in
theorem rbyte_ok (p h g : Nat) (bs : List UInt8) (w : World) (H : RdS w p h g bs 0) (hl : 1 ≤ bs.length) :
    Calls Try.prog 71 #[.pointer (some ⟨p, 0, none⟩)] w fun e w' => e = .returned (.int .i64 ((bs[0]'(by omega)).toNat : Nat)) ∧ RdS w' p h g (bs.drop 1) 0 ∧ Chg w w' (fun k => k = h) := by
  obtain ⟨⟨ao, cap, hE, hB, hc, hm⟩, hg⟩ := H
  have e1 : bs.take 1 = [bs[0]'(by omega)] := by rw [List.take_succ_eq_append_getElem (by omega)]; rfl
  have hx := (bs[0]'(by omega)).toNat_lt
  have HN : Hid (wrap64 ((num (bs.take 1) : Nat) : Int) = ((bs[0]'(by omega)).toNat : Nat)) := hid (by rw [wrap_toInt _ (num_lt _), e1, num_one]; unfold toInt; rw [if_pos (by omega)])
  have l1 : (bs.take 1).length = 1 := by simp; omega
  clear e1
  go_enter Try.func71, Try.ntmps71
  go_wp2_with fail
  refine (take_ok p h ao _ cap 1 _ w rfl hE hl hc).mono ?_
  rintro e w1 ⟨rfl, hE1, hk⟩
  have HR := RdS.took hB hg hl hc hm hE1 hk
  go_wp2_with fail
  refine (number_any ao 1 cap (bs.take 1) w1 l1 (by decide) ((hB.take 1).chg hk hg).bs).mono ?_
  rintro e w2 ⟨rfl, hw⟩
  subst hw
  go_wp2
  go_ret
  exact ⟨ret_int HN.out, HR, hk⟩
set_option maxHeartbeats 400000 in
theorem rint_ok (p h g : Nat) (bs : List UInt8) (w : World) (H : RdS w p h g bs 0) (hl : 8 ≤ bs.length) :
    Calls Try.prog 72 #[.pointer (some ⟨p, 0, none⟩)] w fun e w' => e = .returned (.int .i64 (toInt (num (bs.take 8)))) ∧ RdS w' p h g (bs.drop 8) 0 ∧ Chg w w' (fun k => k = h) := by
  obtain ⟨⟨ao, cap, hE, hB, hc, hm⟩, hg⟩ := H
  have HN : Hid (wrap64 ((num (bs.take 8) : Nat) : Int) = toInt (num (bs.take 8))) := hid (wrap_toInt _ (num_lt _))
  have l1 : (bs.take 8).length = 8 := by simp; omega
  go_enter Try.func72, Try.ntmps72
  go_wp2_with fail
  refine (take_ok p h ao _ cap 8 _ w rfl hE hl hc).mono ?_
  rintro e w1 ⟨rfl, hE1, hk⟩
  have HR := RdS.took hB hg hl hc hm hE1 hk
  go_wp2_with fail
  refine (number_any ao 8 cap (bs.take 8) w1 l1 (by decide) ((hB.take 8).chg hk hg).bs).mono ?_
  rintro e w2 ⟨rfl, hw⟩
  subst hw
  go_wp2
  go_ret
  exact ⟨ret_int HN.out, HR, hk⟩

/-- The length that a text begins with. -/
def tlOf (bs : List UInt8) : Nat := if bs.length < 2 then 0 else num (bs.take 2)
theorem tl_le (bs : List UInt8) : tlOf bs ≤ 65535 := by
  unfold tlOf
  split
  · omega
  · have e : bs.take 2 = [bs[0]'(by omega), bs[1]'(by omega)] := by
      rw [List.take_succ_eq_append_getElem (by omega), List.take_succ_eq_append_getElem (by omega)]; rfl
    rw [e, num_two]
    have := (bs[0]'(by omega)).toNat_lt
    have := (bs[1]'(by omega)).toNat_lt
    omega
set_option maxHeartbeats 400000 in
theorem rtl_any (p h g : Nat) (bs : List UInt8) (err : Int) (w : World) (H : RdS w p h g bs err) :
    Calls Try.prog 89 #[.pointer (some ⟨p, 0, none⟩)] w fun e w' => e = .returned (.int .i64 (tlOf bs : Nat)) ∧ w' = w := by
  have H0 := H
  obtain ⟨⟨ao, cap, hE, hB, hc, hm⟩, hg⟩ := H
  obtain ⟨c0, c1, f0, f1⟩ := cells2 hE.hh
  have cp := cell_of_one hE.hp
  by_cases hl : bs.length < 2
  · have HN : Hid (tlOf bs = 0) := hid (by unfold tlOf; rw [if_pos hl])
    go_enter Try.func89, Try.ntmps89
    go_wp2_with (go_at_call 75; refine (rleft_any p h g bs err _ H0).mono ?_; rintro e w' ⟨rfl, hw⟩; subst hw)
    go_ret
    exact ⟨ret_int (by rw [HN.out]; rfl), rfl⟩
  · have hle := tl_le bs
    have HN : Hid (wrap64 ((num (bs.take 2) : Nat) : Int) = (tlOf bs : Nat)) := hid (by
      have e : tlOf bs = num (bs.take 2) := by unfold tlOf; rw [if_neg hl]
      rw [wrap_toInt _ (num_lt _), ← e]; unfold toInt; rw [if_pos (by omega)])
    have l1 : (bs.take 2).length = 2 := by simp; omega
    go_enter Try.func89, Try.ntmps89
    go_wp2_with (first | (go_at_call 75; refine (rleft_any p h g bs err _ H0).mono ?_; rintro e w' ⟨rfl, hw⟩; subst hw) | (go_at_call 86; refine (number_any ao 2 cap (bs.take 2) _ l1 (by decide) (hB.take 2).bs).mono ?_; rintro e w' ⟨rfl, hw⟩; subst hw))
    go_ret
    exact ⟨ret_int HN.out, rfl⟩

set_option maxHeartbeats 400000 in
theorem rtext_bad (p h g : Nat) (bs : List UInt8) (err : Int) (w : World) (H : RdS w p h g bs err) (he : err ≠ 0) :
    Calls Try.prog 74 #[.pointer (some ⟨p, 0, none⟩)] w fun e w' => e = .returned (.string ⟨#[]⟩) ∧ w' = w := by
  have hle := tl_le bs
  have H0 := H
  obtain ⟨⟨ao, cap, hE, hB, hc, hm⟩, hg⟩ := H
  go_enter Try.func74, Try.ntmps74
  go_wp2_with (first | (go_at_call 89; refine (rtl_any p h g bs err _ H0).mono ?_; rintro e w' ⟨rfl, hw⟩; subst hw) | (go_at_call 87; refine (take_bad p h ao _ cap err _ _ hE he).mono ?_; rintro e w' ⟨rfl, hw⟩; subst hw))
  go_ret
  exact ⟨rfl, rfl⟩
set_option maxHeartbeats 400000 in
theorem rtext_end (p h g : Nat) (bs : List UInt8) (w : World) (H : RdS w p h g bs 0) (hl : bs.length < 2 + tlOf bs) :
    Calls Try.prog 74 #[.pointer (some ⟨p, 0, none⟩)] w fun e w' => e = .returned (.string ⟨#[]⟩) ∧ RdS w' p h g bs 20 ∧ Chg w w' (fun k => k = h) := by
  have hle := tl_le bs
  have H0 := H
  obtain ⟨⟨ao, cap, hE, hB, hc, hm⟩, hg⟩ := H
  have HR := RdS.failed hE hB hc hm hg
  go_enter Try.func74, Try.ntmps74
  go_wp2_with fail
  refine (rtl_any p h g bs 0 _ H0).mono ?_
  rintro e w1 ⟨rfl, hw⟩
  subst hw
  go_wp2_with fail
  refine (take_end p h ao _ cap _ _ hE (by omega)).mono ?_
  rintro e w2 ⟨rfl, rfl⟩
  go_wp2
  go_ret
  exact ⟨rfl, HR⟩
set_option maxRecDepth 100000 in
set_option maxHeartbeats 1000000 in
theorem rtext_ok (p h g : Nat) (bs : List UInt8) (w : World) (H : RdS w p h g bs 0) (hl : 2 + tlOf bs ≤ bs.length) :
    Calls Try.prog 74 #[.pointer (some ⟨p, 0, none⟩)] w fun e w' => e = .returned (.string ⟨((bs.drop 2).take (tlOf bs)).toArray⟩) ∧ RdS w' p h g (bs.drop (2 + tlOf bs)) 0 ∧ Chg w w' (fun k => k = h) := by
  have hle := tl_le bs
  have H0 := H
  obtain ⟨⟨ao, cap, hE, hB, hc, hm⟩, hg⟩ := H
  go_enter Try.func74, Try.ntmps74
  go_wp2_with fail
  refine (rtl_any p h g bs 0 _ H0).mono ?_
  rintro e w1 ⟨rfl, hw⟩
  subst hw
  go_wp2_with fail
  refine (take_ok p h ao _ cap (2 + tlOf bs) _ _ (by omega) hE hl hc).mono ?_
  rintro e w2 ⟨rfl, hE1, hk⟩
  have HR := RdS.took hB hg hl hc hm hE1 hk
  have hB2 := ((hB.take (2 + tlOf bs)).from 2 cap (by simp; omega)).chg hk hg
  have eq : (bs.take (2 + tlOf bs)).drop 2 = (bs.drop 2).take (tlOf bs) := by rw [List.drop_take]; congr 1; omega
  rw [eq] at hB2
  have ll : ((bs.drop 2).take (tlOf bs)).length = tlOf bs := by simp; omega
  have hbs := hB2.bs
  generalize hs : (bs.drop 2).take (tlOf bs) = s at hbs ll
  have Hs : Hid ((bs.drop 2).take (tlOf bs) = s) := hs
  clear hs eq
  generalize hT : tlOf bs = T at hl hle ll
  have HT : Hid (tlOf bs = T) := hT
  clear hT
  have s1 : cap = 2 → (convert 25 9 (.slice ao T (cap - 2))).run Try.prog w2 = .ok (.string ⟨s.toArray⟩) w2 := fun h => by
    rw [if_pos h] at hbs; subst ll; exact run_str hbs _
  have s2 : ¬ cap = 2 → (convert 25 9 (.slice (ao.map (fun a => a.add 2)) T (cap - 2))).run Try.prog w2 = .ok (.string ⟨s.toArray⟩) w2 := fun h => by
    rw [if_neg h] at hbs; subst ll; exact run_str hbs _
  by_cases hc2 : cap = 2
  · have s3 := s1 hc2
    obtain rfl : T = 0 := by omega
    rw [hc2] at s3
    simp only [Nat.sub_self] at s3
    clear s1 s2 hbs hB2 hE1
    go_wp2
    go_ret
    exact ⟨by rw [Hs.out]; rfl, HR, hk⟩
  · have s3 := s2 hc2
    rw [show (fun a : Addr => a.add 2) = fun x => ⟨x.block, x.off + 2, none⟩ from funext fun a => by simp [Addr.add]] at s3
    clear s1 s2 hbs hB2 hE1
    go_wp2
    go_ret
    exact ⟨by rw [Hs.out]; rfl, HR, hk⟩
end Go.Proofs.Ytmaecpmdikdclaa
