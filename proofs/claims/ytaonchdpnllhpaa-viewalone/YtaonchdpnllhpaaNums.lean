/- Plain facts: numbers and texts are read as they were written. -/
import Derived.Test.YtaonchdpnllhpaaRD
import Derived.Test.YtaonchdpnllhpaaWI
namespace Go.Proofs.Ytaonchdpnllhpaa
open Go.RowKit

theorem be_succ (n k : Nat) : be n (k + 1) = be (n / 256) k ++ [UInt8.ofNat n] := by
  unfold be
  rw [List.range_succ, List.map_append, List.map_cons, List.map_nil]
  congr 1
  · apply List.map_congr_left
    intro j hj
    have hj' : j < k := List.mem_range.1 hj
    congr 1
    rw [show k + 1 - 1 - j = (k - 1 - j) + 1 by omega, Nat.pow_succ, Nat.mul_comm, Nat.div_div_eq_div_mul]
  · simp
theorem num_be (n k : Nat) (hk : k ≤ 8) : num (be n k) = n % 256 ^ k := by
  induction k generalizing n with
  | zero => simp [be, num, Nat.mod_one]
  | succ k ih =>
    rw [be_succ]
    have e : num (be (n / 256) k ++ [UInt8.ofNat n]) = numStep (num (be (n / 256) k)) (UInt8.ofNat n) := by simp only [num, List.foldl_append, List.foldl_cons, List.foldl_nil]
    rw [e, ih (n / 256) (by omega)]
    unfold numStep
    rw [UInt8.toNat_ofNat', show (256 : Nat) ^ (k + 1) = 256 * 256 ^ k by rw [Nat.pow_succ, Nat.mul_comm], Nat.mod_mul, show (2 : Nat) ^ 8 = 256 from rfl]
    have hp : 256 ^ k ≤ 256 ^ 7 := Nat.pow_le_pow_right (by decide) (by omega)
    have hl : n / 256 % 256 ^ k < 256 ^ k := Nat.mod_lt _ (Nat.pow_pos (by decide))
    have h7 : (256 : Nat) ^ 7 = 72057594037927936 := by decide
    rw [h7] at hp
    rw [Nat.mod_eq_of_lt (by omega)]
    omega
theorem back_int (x : Int) (h1 : -9223372036854775808 ≤ x) (h2 : x ≤ 9223372036854775807) : toInt (num (be64 x)) = x := by
  unfold be64
  rw [num_be _ 8 (by decide), show (256 : Nat) ^ 8 = 18446744073709551616 from rfl]
  unfold toInt
  split <;> omega
theorem ints_drop (ns : List Int) (k : Nat) (h : k < ns.length) : ints (ns.drop k) = be64 ns[k] ++ ints (ns.drop (k + 1)) := by
  rw [List.drop_eq_getElem_cons h]; simp only [ints, List.flatMap_cons]
theorem texts_drop (ss : List (List UInt8)) (k : Nat) (h : k < ss.length) : texts (ss.drop k) = text ss[k] ++ texts (ss.drop (k + 1)) := by
  rw [List.drop_eq_getElem_cons h]; simp only [texts, List.flatMap_cons]
theorem read_int (x : Int) (r : List UInt8) : (be64 x ++ r).take 8 = be64 x ∧ (be64 x ++ r).drop 8 = r := by
  have h := be64_length x
  exact ⟨by rw [← h]; exact List.take_left, by rw [← h]; exact List.drop_left⟩
theorem read_text (s r : List UInt8) (hs : s.length ≤ 65535) : tlOf (text s ++ r) = s.length ∧ ((text s ++ r).drop 2).take s.length = s ∧ (text s ++ r).drop (2 + s.length) = r ∧ 2 + s.length ≤ (text s ++ r).length := by
  have hb := be_length s.length 2
  have e1 : (text s ++ r).take 2 = be s.length 2 := by unfold text; rw [List.append_assoc, ← hb]; exact List.take_left
  have e2 : (text s ++ r).drop 2 = s ++ r := by unfold text; rw [List.append_assoc, ← hb]; exact List.drop_left
  have hl : (text s ++ r).length = 2 + s.length + r.length := by rw [List.length_append, text_length]
  refine ⟨?_, by rw [e2]; exact List.take_left, ?_, by omega⟩
  · unfold tlOf
    rw [if_neg (by omega), e1, num_be _ 2 (by decide)]
    omega
  · rw [← List.drop_drop, e2]; exact List.drop_left
theorem Is.keep {w w' : World} {ao : Option Addr} {ns : List Int} (h : Is w ao ns) (hk : ∀ a v, w.cell? a = some v → w'.cell? a = some v) : Is w' ao ns := by
  rcases h with h | ⟨b, off, h, hc⟩
  · exact .inl h
  · exact .inr ⟨b, off, h, fun j hj => hk _ _ (hc j hj)⟩
theorem Ss.keep {w w' : World} {ao : Option Addr} {ss : List (List UInt8)} (h : Ss w ao ss) (hk : ∀ a v, w.cell? a = some v → w'.cell? a = some v) : Ss w' ao ss := by
  rcases h with h | ⟨b, off, h, hc⟩
  · exact .inl h
  · exact .inr ⟨b, off, h, fun j hj => hk _ _ (hc j hj)⟩
/-- Nothing that lies below a Reader turns. -/
theorem rd_below {w wr w2 : World} {h : Nat} (hb : Below w.heap.size w wr) (hh : w.heap.size ≤ h) (hc : Chg wr w2 (fun k => k = h)) : Below w.heap.size w w2 :=
  hb.trans (hc.below hb.size (fun i e => by omega))

end Go.Proofs.Ytaonchdpnllhpaa
