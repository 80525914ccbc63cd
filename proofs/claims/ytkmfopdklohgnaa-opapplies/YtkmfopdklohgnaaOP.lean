/- Plain facts: what is packed is unpacked; less is an order. -/
import Derived.Test.YtkmfopdklohgnaaOF
import Derived.Test.YtkmfopdklohgnaaOM
namespace Go.Proofs.Ytkmfopdklohgnaa
open Go.RowKit
theorem ofInt_wrap (u : Int) : BitVec.ofInt 64 (wrap64 u) = BitVec.ofInt 64 u := by
  apply BitVec.eq_of_toNat_eq
  have h1 := ofInt_nat (wrap64 u)
  have h2 := ofInt_nat u
  unfold wrap64 at *
  omega
theorem or_byte (u : Int) (x : Nat) (hx : x < 256) : bits .or .i64 (wrap64 (u * 256)) (x : Int) = wrap64 (u * 256 + x) := by
  show IntKind.i64.wrap ((BitVec.ofInt 64 (wrap64 (u * 256)) ||| BitVec.ofInt 64 (x : Int)).toNat : Int) = _
  have h1 := ofInt_nat (u * 256)
  have h2 := ofInt_nat (x : Int)
  rw [ofInt_wrap, BitVec.toNat_or, nat_join8 _ _ (by omega) (by omega), IntKind.wrap_i64]
  unfold wrap64
  omega
theorem unpack_pack {n : Int} (h0 : -9223372036854775808 ≤ n) (h1 : n ≤ 9223372036854775807) : unpackV (packV n) = n := by
  have g : ∀ (u m p : Int), wrap64 (wrap64 u * 256 + (n / m % 256)) = wrap64 (u * 256 + n / m % 256) := fun u m p => by
    obtain ⟨k, hk⟩ := wrap_off u
    exact wrap_same ⟨k * 256, by rw [hk]; omega⟩
  have b : ∀ m : Int, (((UInt8.ofNat (n / m % 256).toNat).toNat : Nat) : Int) = n / m % 256 := fun m => by
    rw [UInt8.toNat_ofNat']
    omega
  have b1 : (((UInt8.ofNat (n % 256).toNat).toNat : Nat) : Int) = n % 256 := by
    rw [UInt8.toNat_ofNat']
    omega
  have s : ∀ (u : Int) (x : UInt8), bits .or .i64 (wrap64 (u * 256)) (x.toNat : Int) = wrap64 (u * 256 + x.toNat) := fun u x => or_byte u x.toNat x.toNat_lt
  simp only [unpackV, packV, List.map_cons, List.map_nil, List.foldl_cons, List.foldl_nil, s, b, b1]
  have q : ∀ (u y : Int), wrap64 (wrap64 u * 256 + y) = wrap64 (u * 256 + y) := fun u y => by
    obtain ⟨k, hk⟩ := wrap_off u
    exact wrap_same ⟨k * 256, by rw [hk]; omega⟩
  simp only [q]
  clear g b b1 s q
  obtain ⟨N, hN0, hN1, hN⟩ : ∃ N : Int, 0 ≤ N ∧ N < 18446744073709551616 ∧ n % 18446744073709551616 = N := ⟨_, by omega, by omega, rfl⟩
  have x0 : n / 72057594037927936 % 256 = N / 72057594037927936 := by omega
  have x1 : n / 281474976710656 % 256 = N / 281474976710656 % 256 := by omega
  have x2 : n / 1099511627776 % 256 = N / 1099511627776 % 256 := by omega
  have x3 : n / 4294967296 % 256 = N / 4294967296 % 256 := by omega
  have x4 : n / 16777216 % 256 = N / 16777216 % 256 := by omega
  have x5 : n / 65536 % 256 = N / 65536 % 256 := by omega
  have x6 : n / 256 % 256 = N / 256 % 256 := by omega
  have x7 : n % 256 = N % 256 := by omega
  rw [x0, x1, x2, x3, x4, x5, x6, x7]
  have y0 : 0 * 256 + N / 72057594037927936 = N / 72057594037927936 := by omega
  have y1 : N / 72057594037927936 * 256 + N / 281474976710656 % 256 = N / 281474976710656 := by omega
  have y2 : N / 281474976710656 * 256 + N / 1099511627776 % 256 = N / 1099511627776 := by omega
  have y3 : N / 1099511627776 * 256 + N / 4294967296 % 256 = N / 4294967296 := by omega
  have y4 : N / 4294967296 * 256 + N / 16777216 % 256 = N / 16777216 := by omega
  have y5 : N / 16777216 * 256 + N / 65536 % 256 = N / 65536 := by omega
  have y6 : N / 65536 * 256 + N / 256 % 256 = N / 256 := by omega
  have y7 : N / 256 * 256 + N % 256 = N := by omega
  rw [y0, y1, y2, y3, y4, y5, y6, y7]
  unfold wrap64
  omega
theorem less_irrefl (a : List UInt8) : Op.bytesLess a a = false := by
  induction a with
  | nil => rfl
  | cons x a ih => simp [Op.bytesLess, ih]
theorem less_total (a : List UInt8) : ∀ b, a ≠ b → Op.bytesLess a b = !Op.bytesLess b a := by
  induction a with
  | nil =>
    intro b hb
    cases b with
    | nil => exact absurd rfl hb
    | cons y b => rfl
  | cons x a ih =>
    intro b hb
    cases b with
    | nil => rfl
    | cons y b =>
      simp only [Op.bytesLess]
      by_cases hxy : x = y
      · subst hxy
        have := ih b (fun e => hb (by rw [e]))
        simp [this]
      · have h1 : (x == y) = false := by simp [hxy]
        have h2 : (y == x) = false := by simp [Ne.symm hxy]
        simp only [h1, h2, Bool.false_and, Bool.or_false]
        have : x.toNat ≠ y.toNat := fun e => hxy (UInt8.toNat_inj.1 e)
        by_cases h : x < y
        · have h' : ¬ y < x := by rw [UInt8.lt_iff_toNat_lt] at *; omega
          simp [h, h']
        · have h' : y < x := by rw [UInt8.lt_iff_toNat_lt] at *; omega
          simp [h, h']
theorem cmp_bytes (a b : List UInt8) : cmpV ⟨2, 0, a⟩ ⟨2, 0, b⟩ = if a = b then 0 else if Op.bytesLess a b then -1 else 1 := by
  unfold cmpV lessV
  by_cases h : a = b <;> simp [h]
end Go.Proofs.Ytkmfopdklohgnaa
