/- Plain facts: the sum bit by bit is the sum by the table of sixteen. -/
import Derived.Test.YtmaecpmdikdclaaWA
namespace Go.Proofs.Ytmaecpmdikdclaa
open Go.RowKit

/-- One bit. -/
def s1 (c : Nat) : Nat := if c % 2 = 1 then c / 2 ^^^ 3988292384 else c / 2
theorem xor_half (a b : Nat) : (a ^^^ b) / 2 = a / 2 ^^^ b / 2 := by
  have := @Nat.xor_div_two_pow a b 1
  simpa using this
theorem xor_par (a b : Nat) : (a ^^^ b) % 2 = (a % 2 + b % 2) % 2 := by
  have := @Nat.xor_mod_two_pow a b 1
  simp only [Nat.pow_one] at this
  rw [this]
  rcases Nat.mod_two_eq_zero_or_one a with h | h <;> rcases Nat.mod_two_eq_zero_or_one b with k | k <;> rw [h, k] <;> rfl
theorem s1_xor (a b : Nat) : s1 (a ^^^ b) = s1 a ^^^ s1 b := by
  unfold s1
  rw [xor_half, xor_par]
  rcases Nat.mod_two_eq_zero_or_one a with h | h <;> rcases Nat.mod_two_eq_zero_or_one b with k | k <;> rw [h, k] <;> simp only [Nat.add_zero, Nat.zero_add, Nat.zero_mod, Nat.reduceAdd, Nat.reduceMod, if_true, if_false, Nat.zero_ne_one]
  · rw [Nat.xor_assoc]
  · rw [Nat.xor_assoc, Nat.xor_assoc, Nat.xor_comm 3988292384 (b / 2)]
  · rw [Nat.xor_assoc, Nat.xor_comm 3988292384, Nat.xor_assoc, Nat.xor_self, Nat.xor_zero]
theorem s1_twice (m : Nat) : s1 (m * 2) = m := by
  unfold s1
  rw [if_neg (by omega)]
  omega
def s4 (c : Nat) : Nat := s1 (s1 (s1 (s1 c)))
theorem s4_xor (a b : Nat) : s4 (a ^^^ b) = s4 a ^^^ s4 b := by unfold s4; simp only [s1_xor]
theorem s4_16 (m : Nat) : s4 (m * 16) = m := by
  unfold s4
  rw [show m * 16 = m * 2 * 2 * 2 * 2 by omega]
  simp only [s1_twice]
theorem tab_s4 (l : Nat) (h : l < 16) : tab l = s4 l := by
  have : ∀ k : Fin 16, tab k.val = s4 k.val := by decide +kernel
  exact this ⟨l, h⟩
theorem join16 (c : Nat) : c = (c / 16) * 16 ^^^ c % 16 := by
  have h : (c / 16) * 16 ||| c % 16 = (c / 16) * 16 + c % 16 := nat_join4 _ _ (by omega) (by omega)
  have k : (c / 16) * 16 ^^^ c % 16 = (c / 16) * 16 ||| c % 16 := by
    apply Nat.eq_of_testBit_eq
    intro i
    rw [Nat.testBit_xor, Nat.testBit_or]
    by_cases hi : i < 4
    · have : ((c / 16) * 16).testBit i = false := by
        rw [show (c / 16) * 16 = (c / 16) <<< 4 by rw [Nat.shiftLeft_eq], Nat.testBit_shiftLeft]
        simp; omega
      rw [this]; simp
    · have : (c % 16).testBit i = false := Nat.testBit_lt_two_pow (Nat.lt_of_lt_of_le (Nat.mod_lt c (by decide)) (by
        have : (2 : Nat) ^ 4 ≤ 2 ^ i := Nat.pow_le_pow_right (by decide) (by omega)
        simpa using this))
      rw [this]; simp
  rw [k, h]; omega
theorem crcHalf_s4 (c : Nat) : crcHalf c = s4 c := by
  conv => rhs; rw [join16 c]
  rw [s4_xor, s4_16, ← tab_s4 _ (Nat.mod_lt c (by decide))]
  rfl
/-- One bit of the register with one bit of a byte. -/
def bitStep (c b : Nat) : Nat := s1 (c ^^^ b)
/-- The first k bits of a byte. -/
def bitsTo (c x : Nat) : Nat → Nat
  | 0 => c
  | k + 1 => bitStep (bitsTo c x k) (x / 2 ^ k % 2)
theorem s1_push (A y : Nat) : s1 A ^^^ y = s1 (A ^^^ y * 2) := by rw [s1_xor, s1_twice]
theorem byte_join (x : Nat) (h : x < 256) : x / 2 ^ 0 % 2 ^^^ (x / 2 ^ 1 % 2 * 2 ^^^ (x / 2 ^ 2 % 2 * 2 * 2 ^^^ (x / 2 ^ 3 % 2 * 2 * 2 * 2 ^^^ (x / 2 ^ 4 % 2 * 2 * 2 * 2 * 2 ^^^ (x / 2 ^ 5 % 2 * 2 * 2 * 2 * 2 * 2 ^^^ (x / 2 ^ 6 % 2 * 2 * 2 * 2 * 2 * 2 * 2 ^^^ x / 2 ^ 7 % 2 * 2 * 2 * 2 * 2 * 2 * 2 * 2)))))) = x := by
  have : ∀ k : Fin 256, k.val / 2 ^ 0 % 2 ^^^ (k.val / 2 ^ 1 % 2 * 2 ^^^ (k.val / 2 ^ 2 % 2 * 2 * 2 ^^^ (k.val / 2 ^ 3 % 2 * 2 * 2 * 2 ^^^ (k.val / 2 ^ 4 % 2 * 2 * 2 * 2 * 2 ^^^ (k.val / 2 ^ 5 % 2 * 2 * 2 * 2 * 2 * 2 ^^^ (k.val / 2 ^ 6 % 2 * 2 * 2 * 2 * 2 * 2 * 2 ^^^ k.val / 2 ^ 7 % 2 * 2 * 2 * 2 * 2 * 2 * 2 * 2)))))) = k.val := by decide +kernel
  exact this ⟨x, h⟩
theorem bits_s8 (c x : Nat) (h : x < 256) : bitsTo c x 8 = s4 (s4 (c ^^^ x)) := by
  have e := byte_join x h
  unfold s4
  simp only [bitsTo, bitStep, s1_push, Nat.xor_assoc]
  rw [e]
theorem crcByte_bits (c : Nat) (x : UInt8) : crcByte c x = bitsTo c x.toNat 8 := by
  rw [bits_s8 _ _ x.toNat_lt]
  unfold crcByte
  rw [crcHalf_s4, crcHalf_s4]
end Go.Proofs.Ytmaecpmdikdclaa
