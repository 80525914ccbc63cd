/- Plain facts on numbers of 64 bits. -/
import Derived.WalkKit
import Derived.Laws.BitsLemmas
namespace Go.Proofs.Ytkmfopdklohgnaa
open Go.RowKit
theorem wrap_off (u : Int) : ∃ k : Int, wrap64 u = u + 18446744073709551616 * k := ⟨-((u + 9223372036854775808) / 18446744073709551616), by unfold wrap64; omega⟩
theorem wrap_same {x y : Int} (h : ∃ k : Int, x = y + 18446744073709551616 * k) : wrap64 x = wrap64 y := by
  obtain ⟨k, rfl⟩ := h
  unfold wrap64
  omega
theorem wrap_in {x : Int} (h0 : -9223372036854775808 ≤ x) (h1 : x ≤ 9223372036854775807) : wrap64 x = x := by unfold wrap64; omega
theorem add_sub_back {a b : Int} (h0 : -9223372036854775808 ≤ a) (h1 : a ≤ 9223372036854775807) : wrap64 (wrap64 (a + b) + wrap64 (-b)) = a := by
  obtain ⟨k, hk⟩ := wrap_off (a + b)
  obtain ⟨m, hm⟩ := wrap_off (-b)
  rw [wrap_same (y := a) ⟨k + m, by rw [hk, hm]; omega⟩, wrap_in h0 h1]
theorem div_rem_back {a b : Int} (h0 : -9223372036854775808 ≤ a) (h1 : a ≤ 9223372036854775807) : wrap64 (wrap64 (wrap64 (a.tdiv b) * b) + a.tmod b) = a := by
  obtain ⟨k, hk⟩ := wrap_off (a.tdiv b)
  obtain ⟨m, hm⟩ := wrap_off (wrap64 (a.tdiv b) * b)
  have e := Int.tmod_add_mul_tdiv a b
  have e2 : wrap64 (a.tdiv b) * b = b * a.tdiv b + 18446744073709551616 * (k * b) := by rw [hk, Int.add_mul, Int.mul_comm (a.tdiv b) b, Int.mul_assoc]
  rw [wrap_same (y := a) ⟨k * b + m, by rw [hm, e2]; generalize b * a.tdiv b = u at *; generalize k * b = v at *; omega⟩, wrap_in h0 h1]
theorem ofInt_nat (a : Int) : ((BitVec.ofInt 64 a).toNat : Int) = a % 18446744073709551616 := by
  rw [BitVec.toNat_ofInt]
  omega
theorem not_64 {a : Int} (h0 : -9223372036854775808 ≤ a) (h1 : a ≤ 9223372036854775807) : bits .xor .i64 (-1) a = -a - 1 := by
  have hx : BitVec.ofInt 64 (-1) = BitVec.allOnes 64 := by decide
  show IntKind.i64.wrap ((BitVec.ofInt 64 (-1) ^^^ BitVec.ofInt 64 a).toNat : Int) = _
  rw [hx, BitVec.allOnes_xor, BitVec.toNat_not, IntKind.wrap_i64]
  have e := ofInt_nat a
  have l := (BitVec.ofInt 64 a).isLt
  omega
theorem inv_neg {a : Int} (h0 : -9223372036854775808 ≤ a) (h1 : a ≤ 9223372036854775807) : wrap64 (wrap64 (-a) + wrap64 (-1)) = bits .xor .i64 (-1) a := by
  rw [not_64 h0 h1]
  unfold wrap64
  omega
theorem bits_is (op : BinOp) (f : BitVec 64 → BitVec 64 → BitVec 64) (h : ∀ a b : Int, bits op .i64 a b = IntKind.i64.wrap ((f (BitVec.ofInt 64 a) (BitVec.ofInt 64 b)).toNat : Int)) (a b : Int) : ∃ k : Int, bits op .i64 a b = ((f (BitVec.ofInt 64 a) (BitVec.ofInt 64 b)).toNat : Int) + 18446744073709551616 * k := by
  rw [h, IntKind.wrap_i64]
  exact ⟨-((((f (BitVec.ofInt 64 a) (BitVec.ofInt 64 b)).toNat : Int) + 9223372036854775808) / 18446744073709551616), by omega⟩
theorem and_is (a b : Int) : ∃ k : Int, bits .and .i64 a b = ((BitVec.ofInt 64 a &&& BitVec.ofInt 64 b).toNat : Int) + 18446744073709551616 * k := bits_is .and (· &&& ·) (fun _ _ => rfl) a b
theorem or_is (a b : Int) : ∃ k : Int, bits .or .i64 a b = ((BitVec.ofInt 64 a ||| BitVec.ofInt 64 b).toNat : Int) + 18446744073709551616 * k := bits_is .or (· ||| ·) (fun _ _ => rfl) a b
theorem xor_is (a b : Int) : ∃ k : Int, bits .xor .i64 a b = ((BitVec.ofInt 64 a ^^^ BitVec.ofInt 64 b).toNat : Int) + 18446744073709551616 * k := bits_is .xor (· ^^^ ·) (fun _ _ => rfl) a b
theorem and_add_or64 (A B : BitVec 64) : (A &&& B) + (A ||| B) = A + B := by
  have d1 : (A &&& ~~~B) + (A &&& B) = A := by
    rw [BitVec.add_eq_or_of_and_eq_zero]
    · ext i hi
      simp
      cases A[i] <;> cases B[i] <;> simp
    · ext i hi
      simp
      cases A[i] <;> cases B[i] <;> simp
  have d2 : (A &&& ~~~B) + B = A ||| B := by
    rw [BitVec.add_eq_or_of_and_eq_zero]
    · ext i hi
      simp
      cases A[i] <;> cases B[i] <;> simp
    · ext i hi
      simp
  rw [← d2, ← BitVec.add_assoc, BitVec.add_comm (A &&& B), d1]
theorem and_or_sum (a b : Int) : wrap64 (bits .and .i64 a b + bits .or .i64 a b) = wrap64 (a + b) := by
  obtain ⟨k, hk⟩ := and_is a b
  obtain ⟨m, hm⟩ := or_is a b
  have e : ((BitVec.ofInt 64 a &&& BitVec.ofInt 64 b) + (BitVec.ofInt 64 a ||| BitVec.ofInt 64 b)).toNat = (BitVec.ofInt 64 a + BitVec.ofInt 64 b).toNat := by rw [and_add_or64]
  rw [BitVec.toNat_add, BitVec.toNat_add] at e
  have ea := ofInt_nat a
  have eb := ofInt_nat b
  rw [hk, hm]
  generalize (BitVec.ofInt 64 a &&& BitVec.ofInt 64 b).toNat = x at *
  generalize (BitVec.ofInt 64 a ||| BitVec.ofInt 64 b).toNat = y at *
  generalize (BitVec.ofInt 64 a).toNat = u at *
  generalize (BitVec.ofInt 64 b).toNat = v at *
  unfold wrap64
  omega
theorem or_less_and (a b : Int) : wrap64 (bits .or .i64 a b + wrap64 (-(bits .and .i64 a b))) = bits .xor .i64 a b := by
  obtain ⟨k, hk⟩ := and_is a b
  obtain ⟨m, hm⟩ := or_is a b
  have hx : bits .xor .i64 a b = IntKind.i64.wrap (((BitVec.ofInt 64 a) ^^^ (BitVec.ofInt 64 b)).toNat : Int) := rfl
  have e : ((BitVec.ofInt 64 a ^^^ BitVec.ofInt 64 b) + (BitVec.ofInt 64 a &&& BitVec.ofInt 64 b)).toNat = (BitVec.ofInt 64 a ||| BitVec.ofInt 64 b).toNat := by
    congr 1
    generalize BitVec.ofInt 64 a = A
    generalize BitVec.ofInt 64 b = B
    rw [BitVec.add_eq_or_of_and_eq_zero]
    · ext i hi
      simp
      cases A[i] <;> cases B[i] <;> rfl
    · ext i hi
      simp
      cases A[i] <;> cases B[i] <;> simp
  rw [BitVec.toNat_add] at e
  rw [hx, hk, hm, IntKind.wrap_i64]
  have l := ((BitVec.ofInt 64 a) ^^^ (BitVec.ofInt 64 b)).isLt
  generalize (BitVec.ofInt 64 a &&& BitVec.ofInt 64 b).toNat = x at *
  generalize (BitVec.ofInt 64 a ||| BitVec.ofInt 64 b).toNat = y at *
  generalize ((BitVec.ofInt 64 a) ^^^ (BitVec.ofInt 64 b)).toNat = z at *
  unfold wrap64
  omega
theorem mod_span (k : Int) : 0 ≤ ((k.tmod 64) + 64).tmod 64 ∧ ((k.tmod 64) + 64).tmod 64 ≤ 63 ∧ -63 ≤ k.tmod 64 ∧ k.tmod 64 ≤ 63 := by
  have h1 := Int.tmod_lt_of_pos k (by decide : (0 : Int) < 64)
  have h2 := Int.lt_tmod_of_pos k (by decide : (0 : Int) < 64)
  have e : ((k.tmod 64) + 64).tmod 64 = (k.tmod 64 + 64) % 64 := Int.tmod_eq_emod_of_nonneg (by omega)
  rw [e]
  omega
end Go.Proofs.Ytkmfopdklohgnaa
