/- op's number, text, truth. -/
import Derived.Test.YtkmfopdklohgnaaOG
namespace Go.Proofs.Ytkmfopdklohgnaa
open Go.RowKit
attribute [local go_sem high] eq_val eq_val0

def numV (n : Int) (L : List Val) : Int :=
  if n = 16 then wrap64 (-(A0 L).n) else if n = 20 then bits .xor .i64 (-1) (A0 L).n else if n = 32 then (A0 L).b.length else if n = 35 then ((A0 L).b.getD (A1 L).n.toNat 0).toNat else if n = 39 then unpackV (A0 L).b else calcV n (A0 L).n (A1 L).n
/-- Operations that answer a number, and what they want. -/
def NumOp (n : Int) (k : Nat) (L : List Val) : Prop := (CalcOp n (A1 L).n ∧ k = 2) ∨ ((n = 16 ∨ n = 20 ∨ n = 32 ∨ n = 39) ∧ k = 1) ∨ (n = 35 ∧ k = 2 ∧ 0 ≤ (A1 L).n ∧ (A1 L).n < (A0 L).b.length)
theorem getD_at (l : List UInt8) (p : Nat) (h : p < l.length) : (⟨l.toArray⟩ : ByteArray)[p]'(by show p < l.toArray.size; simpa using h) = l.getD p 0 := by
  simp [ByteArray.getElem_eq_getElem_data, List.getD, h]
set_option maxHeartbeats 4000000 in
theorem number_any (n : Int) (a : Option Addr) (k c : Nat) (L : List Val) (hk : L.length = k) (w : World) (hV : Vs w a L) (hn : NumOp n k L) (h256 : (A0 L).b.length ≤ 256) : Calls Try.prog 24 #[.int .i64 n, .slice a k c] w fun e w' => e = .returned (.int .i64 (numV n L)) ∧ Below w.heap.size w w' := by
  have h0 : 0 < L.length := by rcases hn with ⟨_, h⟩ | ⟨_, h⟩ | ⟨_, h, _⟩ <;> omega
  obtain ⟨b, off, rfl, ⟨c00, c01, c02⟩, C1, C2⟩ := hV.cells h0
  unfold numV
  unfold NumOp at hn
  clear C2 hV
  generalize A0 L = x at *
  generalize A1 L = y at *
  obtain ⟨xt, xn, xb⟩ := x
  obtain ⟨yt, yn, yb⟩ := y
  simp only at c00 c01 c02 C1 hn h256
  rcases hn with ⟨hc, rfl⟩ | ⟨hn, rfl⟩ | ⟨rfl, rfl, g0, g1⟩
  · obtain ⟨c10, c11, c12⟩ := C1 (by omega)
    have hC := calculate_any n xn yn hc
    clear C1
    have e1 : (n == 16) = false := by unfold CalcOp at hc; simp; omega
    have e2 : (n == 20) = false := by unfold CalcOp at hc; simp; omega
    have e3 : (n == 32) = false := by unfold CalcOp at hc; simp; omega
    have e4 : (n == 35) = false := by unfold CalcOp at hc; simp; omega
    have e5 : (n == 39) = false := by unfold CalcOp at hc; simp; omega
    have HE : Hid ((if n = 16 then wrap64 (-xn) else if n = 20 then bits .xor .i64 (-1) xn else if n = 32 then (xb.length : Int) else if n = 35 then ((xb.getD yn.toNat 0).toNat : Int) else if n = 39 then unpackV xb else calcV n xn yn) = calcV n xn yn) := hidV (by
      simp at e1 e2 e3 e4 e5
      rw [if_neg e1, if_neg e2, if_neg e3, if_neg e4, if_neg e5])
    rw [HE.out]
    clear HE
    generalize calcV n xn yn = r at *
    go_enter Try.func24, Try.ntmps24
    go_wp2
    go_quiet ((go_at_call 41; exact Calls.quiet_of_same (hC _)))
    go_wp2
    go_ret
    exact ⟨rfl, below_draws (Below.refl _ _) _⟩
  · clear C1
    rcases hn with rfl | rfl | rfl | rfl
    · go_enter Try.func24, Try.ntmps24
      go_wp2
      go_ret
      exact ⟨rfl, Below.refl _ _⟩
    · go_enter Try.func24, Try.ntmps24
      go_wp2
      all_goals first | (go_ret; exact ⟨rfl, Below.refl _ _⟩) | (exfalso; rename_i h; revert h; decide)
    · go_enter Try.func24, Try.ntmps24
      go_wp2
      go_ret
      exact ⟨rfl, Below.refl _ _⟩
    · go_enter Try.func24, Try.ntmps24
      go_wp2_with (go_at_call 40; refine (unpack_any xb (by omega) _).mono ?_; rintro e w2 ⟨rfl, rfl⟩)
      go_ret
      exact ⟨rfl, Below.refl _ _⟩
  · obtain ⟨c10, c11, c12⟩ := C1 (by omega)
    clear C1
    obtain ⟨p, rfl⟩ : ∃ p : Nat, yn = p := ⟨yn.toNat, by omega⟩
    have hp : p < xb.length := by omega
    have HG := hidV (getD_at xb p hp)
    have HW := hidV (byte64 (xb.getD p 0))
    go_enter Try.func24, Try.ntmps24
    go_wp2
    go_quiet (fail)
    go_wp2
    go_ret
    refine ⟨?_, below_draws (Below.refl _ _) _⟩
    show Ending.returned (.int .i64 (wrap64 (((⟨xb.toArray⟩ : ByteArray)[p]).toNat : Int))) = _
    rw [HG.out, HW.out]
    simp [List.getD, hp]
def textV (n : Int) (L : List Val) : List UInt8 :=
  if n = 33 then (A0 L).b ++ (A1 L).b else if n = 34 then ((A0 L).b.take (A2 L).n.toNat).drop (A1 L).n.toNat else if n = 38 then packV (A0 L).n else [UInt8.ofNat ((A0 L).n % 256).toNat]
/-- Operations that answer bytes, and what they want. -/
def TextOp (n : Int) (k : Nat) (L : List Val) : Prop := (n = 33 ∧ k = 2) ∨ (n = 34 ∧ k = 3 ∧ (0 ≤ (A1 L).n ∧ (A1 L).n ≤ (A2 L).n) ∧ (A2 L).n ≤ (A0 L).b.length) ∨ (n = 38 ∧ k = 1) ∨ (n = 40 ∧ k = 1)
theorem conv1 (w : World) (x : Int) (t : TypeId) :
    (convert 61 9 (.slice (some ⟨w.heap.size, 0, none⟩) 1 1)).run Try.prog (w.alloc (.cells #[.int .u8 x] t)) = .ok (.string (strOfNums [x])) (w.alloc (.cells #[.int .u8 x] t)) := by
  have h := heap_alloc_new w (.cells #[.int .u8 x] t)
  rw [run_convert_bytes_arg _ 61 5 Try.underlying61 Try.underlying5 w.heap.size 0 1 1 [x] rfl (fun i hi => ?_) 9 Try.underlying9]
  rw [cell_of_row _ _ (0 + i) _ _ (0, 0) h]
  obtain rfl : i = 0 := by omega
  rfl
theorem cut_mid (l : List UInt8) (p q : Nat) : (⟨l.toArray⟩ : ByteArray).extract p q = ⟨((l.take q).drop p).toArray⟩ := by
  apply ByteArray.ext
  rw [ByteArray.data_extract]
  simp [List.extract_eq_take_drop, List.drop_take]
theorem join_two (l m : List UInt8) : (⟨l.toArray⟩ : ByteArray) ++ ⟨m.toArray⟩ = ⟨(l ++ m).toArray⟩ := by
  apply ByteArray.ext
  simp [ByteArray.data_append]
set_option maxHeartbeats 4000000 in
theorem text_any (n : Int) (a : Option Addr) (k c : Nat) (L : List Val) (hk : L.length = k) (w : World) (hV : Vs w a L) (hn : TextOp n k L) (h256 : (A0 L).b.length ≤ 256) (h256' : (A1 L).b.length ≤ 256) : Calls Try.prog 25 #[.int .i64 n, .slice a k c] w fun e w' => e = .returned (.string ⟨(textV n L).toArray⟩) ∧ Below w.heap.size w w' := by
  have h0 : 0 < L.length := by rcases hn with ⟨_, h⟩ | ⟨_, h, _⟩ | ⟨_, h⟩ | ⟨_, h⟩ <;> omega
  obtain ⟨b, off, rfl, ⟨c00, c01, c02⟩, C1, C2⟩ := hV.cells h0
  unfold textV
  unfold TextOp at hn
  clear hV
  generalize A0 L = x at *
  generalize A1 L = y at *
  generalize A2 L = z at *
  obtain ⟨xt, xn, xb⟩ := x
  obtain ⟨yt, yn, yb⟩ := y
  obtain ⟨zt, zn, zb⟩ := z
  simp only at c00 c01 c02 C1 C2 hn h256 h256'
  rcases hn with ⟨rfl, rfl⟩ | ⟨rfl, rfl, ⟨g0, g1⟩, g2⟩ | ⟨rfl, rfl⟩ | ⟨rfl, rfl⟩
  · obtain ⟨c10, c11, c12⟩ := C1 (by omega)
    clear C1 C2
    have HJ := hidV (join_two xb yb)
    go_enter Try.func25, Try.ntmps25
    go_wp2
    go_quiet (fail)
    go_wp2
    go_ret
    exact ⟨by show Ending.returned (.string ((⟨xb.toArray⟩ : ByteArray) ++ ⟨yb.toArray⟩)) = _; rw [HJ.out], below_draws (Below.refl _ _) _⟩
  · obtain ⟨c10, c11, c12⟩ := C1 (by omega)
    obtain ⟨c20, c21, c22⟩ := C2 (by omega)
    clear C1 C2
    obtain ⟨p, rfl⟩ : ∃ p : Nat, yn = p := ⟨yn.toNat, by omega⟩
    obtain ⟨q, rfl⟩ : ∃ q : Nat, zn = q := ⟨zn.toNat, by omega⟩
    have g1' : p ≤ q := by omega
    have g2' : q ≤ xb.length := by omega
    clear g0 g1 g2
    have HJ := hidV (cut_mid xb p q)
    go_enter Try.func25, Try.ntmps25
    go_wp2
    go_quiet (fail)
    go_wp2
    go_ret
    exact ⟨by show Ending.returned (.string ((⟨xb.toArray⟩ : ByteArray).extract p q)) = _; rw [HJ.out], below_draws (Below.refl _ _) _⟩
  · clear C1 C2
    go_enter Try.func25, Try.ntmps25
    go_wp2_with (go_at_call 42; refine (pack_any xn _).mono ?_; rintro e w2 ⟨rfl, hb2⟩)
    go_ret
    exact ⟨rfl, hb2⟩
  · clear C1 C2
    go_enter Try.func25, Try.ntmps25
    go_wp2
    rw [conv1]
    simp only [Result.andThen]
    rw [Oper.upon_value]
    go_wp2
    go_ret
    exact ⟨rfl, (Below.refl _ w).alloc (Nat.le_refl _) _⟩
def truthV (n : Int) (L : List Val) : Bool :=
  if n = 3 then true else if n = 4 then false else if n = 29 then (A0 L).n == 1 && (A1 L).n == 1 else if n = 30 then (A0 L).n == 1 || (A1 L).n == 1 else if n = 31 then (A0 L).n == 0 else holdsV n (cmpV (A0 L) (A1 L))
def TruthOp (n : Int) (k : Nat) : Prop := ((n = 3 ∨ n = 4) ∧ k = 0) ∨ ((n = 29 ∨ n = 30 ∨ HoldOp n) ∧ k = 2) ∨ (n = 31 ∧ k = 1)
set_option maxHeartbeats 4000000 in
theorem truth_op (n : Int) (a : Option Addr) (k c : Nat) (L : List Val) (hk : L.length = k) (w : World) (hV : Vs w a L) (hn : TruthOp n k) : Calls Try.prog 27 #[.int .i64 n, .slice a k c] w fun e w' => e = .returned (.bool (truthV n L)) ∧ Below w.heap.size w w' := by
  rcases hn with ⟨hn, rfl⟩ | hn
  · rcases hn with rfl | rfl
    all_goals
      go_enter Try.func27, Try.ntmps27
      go_wp2
      go_ret
      exact ⟨rfl, Below.refl _ _⟩
  have h0 : 0 < L.length := by rcases hn with ⟨_, h⟩ | ⟨_, h⟩ <;> omega
  obtain ⟨b, off, rfl, ⟨c00, c01, c02⟩, C1, C2⟩ := hV.cells h0
  unfold truthV
  clear hV C2
  generalize A0 L = x at *
  generalize A1 L = y at *
  have hC := compare_any x y
  generalize hr : cmpV x y = r at *
  clear hr
  obtain ⟨xt, xn, xb⟩ := x
  obtain ⟨yt, yn, yb⟩ := y
  simp only [Val.v] at c00 c01 c02 C1 hC
  rcases hn with ⟨rfl | rfl | hh, rfl⟩ | ⟨rfl, rfl⟩
  · obtain ⟨c10, c11, c12⟩ := C1 (by omega)
    clear C1 hC
    by_cases hx : xn = 1
    · subst hx
      go_enter Try.func27, Try.ntmps27
      go_wp2
      go_ret
      exact ⟨by simp, Below.refl _ _⟩
    · have hx' : (xn == 1) = false := by simp [hx]
      go_enter Try.func27, Try.ntmps27
      go_wp2
      go_ret
      exact ⟨by simp, Below.refl _ _⟩
  · obtain ⟨c10, c11, c12⟩ := C1 (by omega)
    clear C1 hC
    by_cases hx : xn = 1
    · subst hx
      go_enter Try.func27, Try.ntmps27
      go_wp2
      go_ret
      exact ⟨by simp, Below.refl _ _⟩
    · have hx' : (xn == 1) = false := by simp [hx]
      go_enter Try.func27, Try.ntmps27
      go_wp2
      go_ret
      exact ⟨by simp, Below.refl _ _⟩
  · obtain ⟨c10, c11, c12⟩ := C1 (by omega)
    clear C1
    have hH := holds_any n r hh
    have e1 : (n == 3) = false := by unfold HoldOp at hh; simp; omega
    have e2 : (n == 4) = false := by unfold HoldOp at hh; simp; omega
    have e3 : (n == 29) = false := by unfold HoldOp at hh; simp; omega
    have e4 : (n == 30) = false := by unfold HoldOp at hh; simp; omega
    have e5 : (n == 31) = false := by unfold HoldOp at hh; simp; omega
    rw [if_neg (by simpa using e1), if_neg (by simpa using e2), if_neg (by simpa using e3), if_neg (by simpa using e4), if_neg (by simpa using e5)]
    generalize holdsV n r = q at *
    clear hh
    go_enter Try.func27, Try.ntmps27
    go_wp2
    go_region_with (first | (go_at_call 44; refine (hC _).mono ?_; rintro e w2 ⟨rfl, hb2⟩) | (go_at_call 43; refine (hH _).mono ?_; rintro e w3 ⟨rfl, rfl⟩))
    all_goals go_wp2
    all_goals go_ret
    all_goals exact ⟨rfl, (Below.refl _ w).drew.trans hb2⟩
  · clear C1 hC
    go_enter Try.func27, Try.ntmps27
    go_wp2
    go_ret
    exact ⟨rfl, Below.refl _ _⟩
end Go.Proofs.Ytkmfopdklohgnaa
