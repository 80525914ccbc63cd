/- What a Reader's Byte, Int and Text do. Plain facts: numbers and texts are read as they were written. -/
import Derived.Test.YthmjejmignangaaGreatDoorWJ
import Derived.Test.YthmjejmignangaaGreatDoorWE
namespace Go.Proofs.YthmjejmignangaaGreatDoor
open Go.RowKit

/-- A number of 64 bits as an int. -/
def toInt (n : Nat) : Int := if n < 9223372036854775808 then (n : Int) else (n : Int) - 18446744073709551616
theorem wrap_toInt (n : Nat) (h : n < 18446744073709551616) : wrap64 (n : Int) = toInt n := by
  unfold toInt wrap64
  split <;> omega
theorem wrap_none : wrap64 ((num [] : Nat) : Int) = 0 := by rw [wrap_toInt _ (num_lt _)]; rfl
theorem num_one (x : UInt8) : num [x] = x.toNat := by
  simp [num, numStep]
theorem num_two (x y : UInt8) : num [x, y] = x.toNat * 256 + y.toNat := by
  have := x.toNat_lt
  have := y.toNat_lt
  simp [num, numStep]; omega

set_option maxHeartbeats 400000 in
theorem rbyte_bad (p h g : Nat) (bs : List UInt8) (err : Int) (w : World) (H : RdS w p h g bs err) (he : err ≠ 0) :
    Calls Tryz.prog 72 #[.pointer (some ⟨p, 0, none⟩)] w fun e w' => e = .returned (.int .i64 0) ∧ w' = w := by
  obtain ⟨⟨ao, cap, hE, hB, hc, hm⟩, hg⟩ := H
  go_enter Tryz.func72, Tryz.ntmps72
  go_wp2_with (first | (go_at_call 94; refine (take_bad p h ao _ cap err _ _ hE he).mono ?_; rintro e w' ⟨rfl, hw⟩; subst hw) | (go_at_call 93; refine (number_any none 0 0 [] _ rfl (by decide) (.inl rfl)).mono ?_; rintro e w' ⟨rfl, hw⟩; subst hw))
  go_ret
  exact ⟨ret_int wrap_none, rfl⟩
set_option maxHeartbeats 400000 in
theorem rint_bad (p h g : Nat) (bs : List UInt8) (err : Int) (w : World) (H : RdS w p h g bs err) (he : err ≠ 0) :
    Calls Tryz.prog 70 #[.pointer (some ⟨p, 0, none⟩)] w fun e w' => e = .returned (.int .i64 0) ∧ w' = w := by
  obtain ⟨⟨ao, cap, hE, hB, hc, hm⟩, hg⟩ := H
  go_enter Tryz.func70, Tryz.ntmps70
  go_wp2_with (first | (go_at_call 94; refine (take_bad p h ao _ cap err _ _ hE he).mono ?_; rintro e w' ⟨rfl, hw⟩; subst hw) | (go_at_call 93; refine (number_any none 0 0 [] _ rfl (by decide) (.inl rfl)).mono ?_; rintro e w' ⟨rfl, hw⟩; subst hw))
  go_ret
  exact ⟨ret_int wrap_none, rfl⟩

theorem RdS.failed {w : World} {p h g : Nat} {bs : List UInt8} {ao : Option Addr} {cap : Nat} (hE : RdE w p h (.slice ao bs.length cap) 0) (hB : BsAt w g ao bs) (hc : bs.length ≤ cap) (hm : cap ≤ 140737488355328) (hg : g ≠ h) :
    RdS (w.setCell ⟨h, 1, none⟩ (.int .i64 20)) p h g bs 20 ∧ Chg w (w.setCell ⟨h, 1, none⟩ (.int .i64 20)) (fun k => k = h) :=
  ⟨⟨⟨ao, cap, hE.set1 20, hB.chg (Chg.setCell w ⟨h, 1, none⟩ _) hg, hc, hm⟩, hg⟩, Chg.setCell w ⟨h, 1, none⟩ _⟩

set_option maxHeartbeats 400000 in
theorem rbyte_end (p h g : Nat) (bs : List UInt8) (w : World) (H : RdS w p h g bs 0) (hl : bs.length < 1) :
    Calls Tryz.prog 72 #[.pointer (some ⟨p, 0, none⟩)] w fun e w' => e = .returned (.int .i64 0) ∧ RdS w' p h g bs 20 ∧ Chg w w' (fun k => k = h) := by
  obtain ⟨⟨ao, cap, hE, hB, hc, hm⟩, hg⟩ := H
  have HR := RdS.failed hE hB hc hm hg
  go_enter Tryz.func72, Tryz.ntmps72
  go_wp2_with (first | (go_at_call 94; refine (take_end p h ao _ cap _ _ hE (by omega)).mono ?_; rintro e w' ⟨rfl, rfl⟩) | (go_at_call 93; refine (number_any none 0 0 [] _ rfl (by decide) (.inl rfl)).mono ?_; rintro e w' ⟨rfl, rfl⟩))
  go_ret
  exact ⟨ret_int wrap_none, HR⟩
set_option maxHeartbeats 400000 in
theorem rint_end (p h g : Nat) (bs : List UInt8) (w : World) (H : RdS w p h g bs 0) (hl : bs.length < 8) :
    Calls Tryz.prog 70 #[.pointer (some ⟨p, 0, none⟩)] w fun e w' => e = .returned (.int .i64 0) ∧ RdS w' p h g bs 20 ∧ Chg w w' (fun k => k = h) := by
  obtain ⟨⟨ao, cap, hE, hB, hc, hm⟩, hg⟩ := H
  have HR := RdS.failed hE hB hc hm hg
  go_enter Tryz.func70, Tryz.ntmps70
  go_wp2_with (first | (go_at_call 94; refine (take_end p h ao _ cap _ _ hE (by omega)).mono ?_; rintro e w' ⟨rfl, rfl⟩) | (go_at_call 93; refine (number_any none 0 0 [] _ rfl (by decide) (.inl rfl)).mono ?_; rintro e w' ⟨rfl, rfl⟩))
  go_ret
  exact ⟨ret_int wrap_none, HR⟩

set_option maxHeartbeats 400000 in
theorem rbyte_ok (p h g : Nat) (bs : List UInt8) (w : World) (H : RdS w p h g bs 0) (hl : 1 ≤ bs.length) :
    Calls Tryz.prog 72 #[.pointer (some ⟨p, 0, none⟩)] w fun e w' => e = .returned (.int .i64 ((bs[0]'(by omega)).toNat : Nat)) ∧ RdS w' p h g (bs.drop 1) 0 ∧ Chg w w' (fun k => k = h) := by
  obtain ⟨⟨ao, cap, hE, hB, hc, hm⟩, hg⟩ := H
  have e1 : bs.take 1 = [bs[0]'(by omega)] := by rw [List.take_succ_eq_append_getElem (by omega)]; rfl
  have hx := (bs[0]'(by omega)).toNat_lt
  have HN : Hid (wrap64 ((num (bs.take 1) : Nat) : Int) = ((bs[0]'(by omega)).toNat : Nat)) := hid (by rw [wrap_toInt _ (num_lt _), e1, num_one]; unfold toInt; rw [if_pos (by omega)])
  have l1 : (bs.take 1).length = 1 := by simp; omega
  clear e1
  go_enter Tryz.func72, Tryz.ntmps72
  go_wp2_with fail
  refine (take_ok p h ao _ cap 1 _ w rfl hE hl hc).mono ?_
  rintro e w1 ⟨rfl, hE1, hk⟩
  have HR := RdS.took hB hg hl hc hm hE1 hk
  go_wp2_with fail
  refine (number_any ao 1 cap (bs.take 1) w1 l1 (by decide) ((hB.take 1).chg hk hg).bs).mono ?_
  rintro e w2 ⟨rfl, hw⟩
  subst hw
  go_wp2
  go_ret
  exact ⟨ret_int HN.out, HR, hk⟩
set_option maxHeartbeats 400000 in
theorem rint_ok (p h g : Nat) (bs : List UInt8) (w : World) (H : RdS w p h g bs 0) (hl : 8 ≤ bs.length) :
    Calls Tryz.prog 70 #[.pointer (some ⟨p, 0, none⟩)] w fun e w' => e = .returned (.int .i64 (toInt (num (bs.take 8)))) ∧ RdS w' p h g (bs.drop 8) 0 ∧ Chg w w' (fun k => k = h) := by
  obtain ⟨⟨ao, cap, hE, hB, hc, hm⟩, hg⟩ := H
  have HN : Hid (wrap64 ((num (bs.take 8) : Nat) : Int) = toInt (num (bs.take 8))) := hid (wrap_toInt _ (num_lt _))
  have l1 : (bs.take 8).length = 8 := by simp; omega
  go_enter Tryz.func70, Tryz.ntmps70
  go_wp2_with fail
  refine (take_ok p h ao _ cap 8 _ w rfl hE hl hc).mono ?_
  rintro e w1 ⟨rfl, hE1, hk⟩
  have HR := RdS.took hB hg hl hc hm hE1 hk
  go_wp2_with fail
  refine (number_any ao 8 cap (bs.take 8) w1 l1 (by decide) ((hB.take 8).chg hk hg).bs).mono ?_
  rintro e w2 ⟨rfl, hw⟩
  subst hw
  go_wp2
  go_ret
  exact ⟨ret_int HN.out, HR, hk⟩

/-- The length that a text begins with. -/
def tlOf (bs : List UInt8) : Nat := if bs.length < 2 then 0 else num (bs.take 2)
theorem tl_le (bs : List UInt8) : tlOf bs ≤ 65535 := by
  unfold tlOf
  split
  · omega
  · have e : bs.take 2 = [bs[0]'(by omega), bs[1]'(by omega)] := by
      rw [List.take_succ_eq_append_getElem (by omega), List.take_succ_eq_append_getElem (by omega)]; rfl
    rw [e, num_two]
    have := (bs[0]'(by omega)).toNat_lt
    have := (bs[1]'(by omega)).toNat_lt
    omega
end Go.Proofs.YthmjejmignangaaGreatDoor
namespace Go.Proofs.YthmjejmignangaaGreatDoor
open Go.RowKit

theorem be_succ (n k : Nat) : be n (k + 1) = be (n / 256) k ++ [UInt8.ofNat n] := by
  unfold be
  rw [List.range_succ, List.map_append, List.map_cons, List.map_nil]
  congr 1
  · apply List.map_congr_left
    intro j hj
    have hj' : j < k := List.mem_range.1 hj
    congr 1
    rw [show k + 1 - 1 - j = (k - 1 - j) + 1 by omega, Nat.pow_succ, Nat.mul_comm, Nat.div_div_eq_div_mul]
  · simp
theorem num_be (n k : Nat) (hk : k ≤ 8) : num (be n k) = n % 256 ^ k := by
  induction k generalizing n with
  | zero => simp [be, num, Nat.mod_one]
  | succ k ih =>
    rw [be_succ]
    have e : num (be (n / 256) k ++ [UInt8.ofNat n]) = numStep (num (be (n / 256) k)) (UInt8.ofNat n) := by simp only [num, List.foldl_append, List.foldl_cons, List.foldl_nil]
    rw [e, ih (n / 256) (by omega)]
    unfold numStep
    rw [UInt8.toNat_ofNat', show (256 : Nat) ^ (k + 1) = 256 * 256 ^ k by rw [Nat.pow_succ, Nat.mul_comm], Nat.mod_mul, show (2 : Nat) ^ 8 = 256 from rfl]
    have hp : 256 ^ k ≤ 256 ^ 7 := Nat.pow_le_pow_right (by decide) (by omega)
    have hl : n / 256 % 256 ^ k < 256 ^ k := Nat.mod_lt _ (Nat.pow_pos (by decide))
    have h7 : (256 : Nat) ^ 7 = 72057594037927936 := by decide
    rw [h7] at hp
    rw [Nat.mod_eq_of_lt (by omega)]
    omega
theorem back_int (x : Int) (h1 : -9223372036854775808 ≤ x) (h2 : x ≤ 9223372036854775807) : toInt (num (be64 x)) = x := by
  unfold be64
  rw [num_be _ 8 (by decide), show (256 : Nat) ^ 8 = 18446744073709551616 from rfl]
  unfold toInt
  split <;> omega
theorem ints_drop (ns : List Int) (k : Nat) (h : k < ns.length) : ints (ns.drop k) = be64 ns[k] ++ ints (ns.drop (k + 1)) := by
  rw [List.drop_eq_getElem_cons h]; simp only [ints, List.flatMap_cons]
theorem texts_drop (ss : List (List UInt8)) (k : Nat) (h : k < ss.length) : texts (ss.drop k) = text ss[k] ++ texts (ss.drop (k + 1)) := by
  rw [List.drop_eq_getElem_cons h]; simp only [texts, List.flatMap_cons]
theorem read_int (x : Int) (r : List UInt8) : (be64 x ++ r).take 8 = be64 x ∧ (be64 x ++ r).drop 8 = r := by
  have h := be64_length x
  exact ⟨by rw [← h]; exact List.take_left, by rw [← h]; exact List.drop_left⟩
theorem read_text (s r : List UInt8) (hs : s.length ≤ 65535) : tlOf (text s ++ r) = s.length ∧ ((text s ++ r).drop 2).take s.length = s ∧ (text s ++ r).drop (2 + s.length) = r ∧ 2 + s.length ≤ (text s ++ r).length := by
  have hb := be_length s.length 2
  have e1 : (text s ++ r).take 2 = be s.length 2 := by unfold text; rw [List.append_assoc, ← hb]; exact List.take_left
  have e2 : (text s ++ r).drop 2 = s ++ r := by unfold text; rw [List.append_assoc, ← hb]; exact List.drop_left
  have hl : (text s ++ r).length = 2 + s.length + r.length := by rw [List.length_append, text_length]
  refine ⟨?_, by rw [e2]; exact List.take_left, ?_, by omega⟩
  · unfold tlOf
    rw [if_neg (by omega), e1, num_be _ 2 (by decide)]
    omega
  · rw [← List.drop_drop, e2]; exact List.drop_left
theorem Is.keep {w w' : World} {ao : Option Addr} {ns : List Int} (h : Is w ao ns) (hk : ∀ a v, w.cell? a = some v → w'.cell? a = some v) : Is w' ao ns := by
  rcases h with h | ⟨b, off, h, hc⟩
  · exact .inl h
  · exact .inr ⟨b, off, h, fun j hj => hk _ _ (hc j hj)⟩
theorem Ss.keep {w w' : World} {ao : Option Addr} {ss : List (List UInt8)} (h : Ss w ao ss) (hk : ∀ a v, w.cell? a = some v → w'.cell? a = some v) : Ss w' ao ss := by
  rcases h with h | ⟨b, off, h, hc⟩
  · exact .inl h
  · exact .inr ⟨b, off, h, fun j hj => hk _ _ (hc j hj)⟩
/-- One call that is refused. -/
theorem int_none (p h base B : Nat) (v : Value) (bs : List UInt8) (x : Int) (w : World) (hB : w.heap.size = B) (H : WrE w p h v 0) (hO : OwnB w base v bs) (hl : bs.length ≤ 1048576) (hroom : 1048576 < bs.length + 8) :
    Calls Tryz.prog 87 #[.pointer (some ⟨p, 0, none⟩), .slice (some ⟨B, 0, none⟩) 1 1] (w.alloc (.cells #[.int .i64 x] 3)) fun e w' => e = .returned (.int .i64 6) ∧ Chg w w' (fun k => k = h) := by
  subst hB
  obtain ⟨ao0, cap0, rfl, _⟩ := Own.bs hO
  refine (int_no p h ao0 bs.length cap0 _ 1 1 _ (H.chg (Chg.alloc w _ (fun _ => False)) id id) hl (by omega)).mono ?_
  rintro e w' ⟨rfl, _, hc⟩
  exact ⟨rfl, (Chg.alloc w _ _).trans hc (fun _ _ e => e)⟩
theorem byte_none (p h base B : Nat) (v : Value) (bs : List UInt8) (x : UInt8) (w : World) (hB : w.heap.size = B) (H : WrE w p h v 0) (hO : OwnB w base v bs) (hl : bs.length ≤ 1048576) (hroom : 1048576 < bs.length + 1) :
    Calls Tryz.prog 88 #[.pointer (some ⟨p, 0, none⟩), .slice (some ⟨B, 0, none⟩) 1 1] (w.alloc (.cells #[.int .i64 (x.toNat : Int)] 3)) fun e w' => e = .returned (.int .i64 6) ∧ Chg w w' (fun k => k = h) := by
  subst hB
  obtain ⟨ao0, cap0, rfl, _⟩ := Own.bs hO
  have hx := x.toNat_lt
  have hS : Is (w.alloc (.cells #[.int .i64 (x.toNat : Int)] 3)) (some ⟨w.heap.size, 0, none⟩) [(x.toNat : Int)] := .inr ⟨w.heap.size, 0, rfl, fun j hj => by
    obtain rfl : j = 0 := by simp at hj; omega
    exact new_cell w _ _ 0 _ rfl⟩
  refine (byte_full p h ao0 bs.length cap0 _ 1 1 [(x.toNat : Int)] _ (H.chg (Chg.alloc w _ (fun _ => False)) id id) hl rfl (by decide) hS (fun j hj => ?_) (by omega)).mono ?_
  · obtain rfl : j = 0 := by simp at hj; omega
    simp only [List.getElem_cons_zero]; omega
  · rintro e w' ⟨rfl, _, hc⟩
    exact ⟨rfl, (Chg.alloc w _ _).trans hc (fun _ _ e => e)⟩
/-- What was written is read. -/
theorem rint_back (p h g : Nat) (x : Int) (r : List UInt8) (w : World) (H : RdS w p h g (be64 x ++ r) 0) (h1 : -9223372036854775808 ≤ x) (h2 : x ≤ 9223372036854775807) :
    Calls Tryz.prog 70 #[.pointer (some ⟨p, 0, none⟩)] w fun e w' => e = .returned (.int .i64 x) ∧ RdS w' p h g r 0 ∧ Chg w w' (fun k => k = h) := by
  obtain ⟨e1, e2⟩ := read_int x r
  refine (rint_ok p h g _ w H (by rw [List.length_append, be64_length]; omega)).mono ?_
  rintro e w' ⟨rfl, hR, hc⟩
  rw [e2] at hR
  exact ⟨by rw [e1, back_int x h1 h2], hR, hc⟩
theorem rbyte_back (p h g : Nat) (x : UInt8) (r : List UInt8) (w : World) (H : RdS w p h g (x :: r) 0) :
    Calls Tryz.prog 72 #[.pointer (some ⟨p, 0, none⟩)] w fun e w' => e = .returned (.int .i64 (x.toNat : Nat)) ∧ RdS w' p h g r 0 ∧ Chg w w' (fun k => k = h) := by
  refine (rbyte_ok p h g _ w H (by simp)).mono ?_
  rintro e w' ⟨rfl, hR, hc⟩
  exact ⟨rfl, hR, hc⟩
theorem RdS.drew {w : World} {p h g : Nat} {bs : List UInt8} {err : Int} (H : RdS w p h g bs err) : RdS w.drew p h g bs err := H.chg (Chg.drew w (fun _ => False)) id id id
/-- Nothing that lies below a Reader turns. -/
theorem rd_below {w wr w2 : World} {h : Nat} (hb : Below w.heap.size w wr) (hh : w.heap.size ≤ h) (hc : Chg wr w2 (fun k => k = h)) : Below w.heap.size w w2 :=
  hb.trans (hc.below hb.size (fun i e => by omega))

end Go.Proofs.YthmjejmignangaaGreatDoor
