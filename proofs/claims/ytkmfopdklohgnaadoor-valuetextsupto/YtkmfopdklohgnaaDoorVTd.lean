/- The document's Digits. -/
import Derived.Test.YtkmfopdklohgnaaDoorPA
import Derived.Test.YtkmfopdklohgnaaDoorWH
import Derived.Lib.ItoaNum
namespace Go.Proofs.YtkmfopdklohgnaaDoor
open Go.RowKit
/-- One byte in a new block, as text. -/
theorem str_one (w : World) (x : Int) (c : UInt8) (h : x = (c.toNat : Int)) : (convert 59 9 (.slice (some ⟨w.heap.size, 0, none⟩) 1 1)).run Tryd.prog (w.alloc (.cells #[.int .u8 x] 5)) = .ok (.string ⟨#[c]⟩) (w.alloc (.cells #[.int .u8 x] 5)) := by
  subst h
  refine run_str (bs := [c]) (.inr ⟨w.heap.size, 0, rfl, fun j hj => ?_⟩) 1
  obtain rfl : j = 0 := by simp at hj; omega
  rw [Lib.cell_of_heap (heap_alloc_new w _)]
  rfl
theorem digits_step (k : Nat) (h : 9 < k) : Lib.decDigits k = Lib.decDigits (k / 10) ++ [UInt8.ofNat (48 + k % 10)] := by
  rw [Lib.decDigits, dif_neg (by omega)]
theorem digits_last (k : Nat) (h : ¬ 9 < k) : Lib.decDigits k = [UInt8.ofNat (48 + k)] := by
  rw [Lib.decDigits, dif_pos (by omega)]
theorem digits_len : ∀ (k u : Nat), 1 ≤ k → u < 10 ^ k → (Lib.decDigits u).length ≤ k
  | k, u, h1, h => by
    rw [Lib.decDigits]
    split
    · simpa using h1
    · rename_i h2
      cases k with
      | zero => omega
      | succ k =>
        have : 1 ≤ k := by
          rcases k with _ | k
          · simp at h; omega
          · omega
        have := digits_len k (u / 10) this (by rw [Nat.pow_succ] at h; omega)
        simp only [List.length_append, List.length_singleton]
        omega
theorem ba_cons (c : UInt8) (t : List UInt8) : (⟨#[c]⟩ : ByteArray) ++ (⟨t.toArray⟩ : ByteArray) = ⟨(c :: t).toArray⟩ := by
  apply ByteArray.ext
  simp
set_option maxRecDepth 100000 in
set_option maxHeartbeats 1000000 in
theorem rdigits_any (n : Int) (h0 : -9223372036854775808 ≤ n) (h1 : n ≤ 9223372036854775807) (w : World) : Calls Tryd.prog 35 #[.int .i64 n] w fun e w' => e = .returned (.string ⟨(Lib.itoa n).toArray⟩) ∧ Below w.heap.size w w' := by
  obtain ⟨u, hu⟩ : ∃ u, u = n.natAbs := ⟨_, rfl⟩
  have hstart : n < 0 → IntKind.u64.wrap (-IntKind.u64.wrap n) = u := fun h => by rw [IntKind.wrap_u64, IntKind.wrap_u64]; omega
  have hstart' : ¬ n < 0 → IntKind.u64.wrap n = u := fun h => by rw [IntKind.wrap_u64]; omega
  have hI : Hid (Lib.itoa n = if n < 0 then 45 :: Lib.decDigits u else Lib.decDigits u) := hidV (by
    unfold Lib.itoa
    split
    · rw [hu]
    · rw [hu, show n.natAbs = n.toNat by omega])
  have hu64 : u < 18446744073709551616 := by omega
  have hul : (Lib.decDigits u).length ≤ 20 := digits_len 20 u (by decide) (by omega)
  by_cases hneg : n < 0
  · have hs := hstart hneg
    clear hstart hstart'
    go_enter Tryd.func35, Tryd.ntmps35
    go_wp2
    go_loopw [3, 4] (fun x s wr => ∃ (k : Nat) (t : List UInt8), k ≤ u ∧ x = .int .u64 k ∧ s = .string ⟨t.toArray⟩ ∧ Hid (Lib.decDigits k ++ t = Lib.decDigits u) ∧ Below w.heap.size w wr) (fun u _ _ => (intOf u).toNat)
    case atStart => exact ⟨u, [], Nat.le_refl _, by first | rw [hs] | rw [hu], rfl, hidV (by simp), Below.refl _ _⟩
    case round =>
      obtain ⟨k, t, hk, rfl, rfl, ht, hb⟩ := hrel
      have htl : t.length ≤ 20 := by
        have := congrArg List.length ht.out
        rw [List.length_append] at this
        omega
      by_cases h9 : 9 < k
      · have hc := str_one wr (48 + (k : Int) % 10) (UInt8.ofNat (48 + k % 10)) (by rw [UInt8.toNat_ofNat']; omega)
        have hT : Hid (Lib.decDigits (k / 10) ++ UInt8.ofNat (48 + k % 10) :: t = Lib.decDigits u) := hidV (by rw [← ht.out, digits_step k h9]; simp)
        generalize UInt8.ofNat (48 + k % 10) = cc at *
        go_wp2
        rw [ba_cons]
        exact ⟨⟨k / 10, cc :: t, by omega, by simp, rfl, hT, hb.alloc hb.size _⟩, by simp [intOf]; omega⟩
      · have hc := str_one wr (48 + (k : Int)) (UInt8.ofNat (48 + k)) (by rw [UInt8.toNat_ofNat']; omega)
        have hT : Hid (UInt8.ofNat (48 + k) :: t = Lib.decDigits u) := hidV (by rw [← ht.out, digits_last k h9]; simp)
        generalize UInt8.ofNat (48 + k) = cc at *
        go_wp2
        go_ret
        refine ⟨?_, hb.alloc hb.size _⟩
        rw [ba_cons, ba_cons, hT.out, hI.out, if_pos hneg]
        rfl
  · have hs := hstart' hneg
    clear hstart hstart'
    go_enter Tryd.func35, Tryd.ntmps35
    go_wp2
    go_loopw [3, 4] (fun x s wr => ∃ (k : Nat) (t : List UInt8), k ≤ u ∧ x = .int .u64 k ∧ s = .string ⟨t.toArray⟩ ∧ Hid (Lib.decDigits k ++ t = Lib.decDigits u) ∧ Below w.heap.size w wr) (fun u _ _ => (intOf u).toNat)
    case atStart => exact ⟨u, [], Nat.le_refl _, by first | rw [hs] | rw [hu], rfl, hidV (by simp), Below.refl _ _⟩
    case round =>
      obtain ⟨k, t, hk, rfl, rfl, ht, hb⟩ := hrel
      have htl : t.length ≤ 20 := by
        have := congrArg List.length ht.out
        rw [List.length_append] at this
        omega
      by_cases h9 : 9 < k
      · have hc := str_one wr (48 + (k : Int) % 10) (UInt8.ofNat (48 + k % 10)) (by rw [UInt8.toNat_ofNat']; omega)
        have hT : Hid (Lib.decDigits (k / 10) ++ UInt8.ofNat (48 + k % 10) :: t = Lib.decDigits u) := hidV (by rw [← ht.out, digits_step k h9]; simp)
        generalize UInt8.ofNat (48 + k % 10) = cc at *
        go_wp2
        rw [ba_cons]
        exact ⟨⟨k / 10, cc :: t, by omega, by simp, rfl, hT, hb.alloc hb.size _⟩, by simp [intOf]; omega⟩
      · have hc := str_one wr (48 + (k : Int)) (UInt8.ofNat (48 + k)) (by rw [UInt8.toNat_ofNat']; omega)
        have hT : Hid (UInt8.ofNat (48 + k) :: t = Lib.decDigits u) := hidV (by rw [← ht.out, digits_last k h9]; simp)
        generalize UInt8.ofNat (48 + k) = cc at *
        go_wp2
        go_ret
        refine ⟨?_, hb.alloc hb.size _⟩
        rw [ba_cons, hT.out, hI.out, if_neg (by omega)]
        rfl
theorem digit_at2 (i : Nat) (h : i < 16) : (⟨#[48, 49, 50, 51, 52, 53, 54, 55, 56, 57, 97, 98, 99, 100, 101, 102]⟩ : ByteArray)[i]'h = [(48 : UInt8), 49, 50, 51, 52, 53, 54, 55, 56, 57, 97, 98, 99, 100, 101, 102].getD i 0 := by
  have : ∀ j : Fin 16, (⟨#[48, 49, 50, 51, 52, 53, 54, 55, 56, 57, 97, 98, 99, 100, 101, 102]⟩ : ByteArray)[j.1]'j.2 = [(48 : UInt8), 49, 50, 51, 52, 53, 54, 55, 56, 57, 97, 98, 99, 100, 101, 102].getD j.1 0 := by decide
  exact this ⟨i, h⟩
end Go.Proofs.YtkmfopdklohgnaaDoor
