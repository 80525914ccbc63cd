/- What the document's own functions of layer 1 come to: Number, Sum and Frame; and the law's helpers Lent and Stays. -/
import Derived.Test.YtmaecpmdikdclaaWH
import Derived.Test.YtmaecpmdikdclaaCrc
import Derived.Test.YtmaecpmdikdclaaOff
namespace Go.Proofs.Ytmaecpmdikdclaa
open Go.RowKit

set_option maxHeartbeats 400000 in
theorem refNumber_any (n : Int) (w : World) :
    Calls Try.prog 68 #[.int .i64 n] w fun e w' => ∃ v', e = .returned v' ∧ OwnB w' w.heap.size v' (be64 n) ∧ Below w.heap.size w w' := by
  have hw : IntKind.u64.wrap n = (((n % 18446744073709551616).toNat : Nat) : Int) := by rw [IntKind.wrap_u64]; omega
  unfold be64
  generalize (n % 18446744073709551616).toNat = m at hw
  go_enter Try.func68, Try.ntmps68
  go_wp2
  go_loopw [3, 4] (fun u i wr => ∃ k : Nat, k ≤ 8 ∧ i = .int .i64 (56 - 8 * (k : Int)) ∧ OwnB wr w.heap.size u ((be m 8).take k) ∧ Below w.heap.size w wr) (fun _ i _ => (intOf i + 8).toNat)
  case atStart => exact ⟨0, Nat.zero_le _, by go_num, Own.nil _ _ _, Below.refl _ _⟩
  case round =>
    obtain ⟨k, hk, rfl, ho, hb⟩ := hrel
    by_cases hlt : k < 8
    · have hsz := hb.size
      have hl : ((be m 8).take k).length = k := by simp [be_length]; omega
      have hby : ((m : Int) / 2 ^ (56 - 8 * k)) % 256 = (((UInt8.ofNat (m / 256 ^ (8 - 1 - k))).toNat : Nat) : Int) := by rw [← be_byte, show 8 * (8 - 1 - k) = 56 - 8 * k by omega]
      generalize hxs : (be m 8).take k = xs at ho hl
      have Hxs : Hid ((be m 8).take k = xs) := hxs
      clear hxs
      go_wp2_with (at_builtin; go_loud (refine wpList_app _ rfl _ _ _ _ rfl elem_u8 w.heap.size _ _ rfl (Own.alloc ho _) _ rfl [bv (UInt8.ofNat (m / 256 ^ (8 - 1 - k)))] (src_one _ Try.underlying25 _ _ _ (by first | rfl | rw [hby]) rfl _) (by simp only [List.length_map, List.length_singleton, hl]; unfold maxLen; omega) (by simp only [List.length_map, List.length_singleton, hl]; omega) (by simp; omega) ?_))
      intro v1 w1 ho1 hst1
      have R1 : OwnB w1 w.heap.size v1 (List.take (k + 1) (be m 8)) := by
        unfold OwnB
        rw [be_take m 8 k hlt, Hxs.out, List.map_append]
        exact ho1
      have R2 : Below w.heap.size w w1 := (hb.alloc hb.size _).trans (hst1.below (by simp; omega) (fun k h => (ho.lt k h).1))
      clear ho1 hst1 ho hb hby
      go_wp2
      go_roundw
      case rel => exact ⟨k + 1, by omega, by go_num, R1, R2⟩
      case measure => simp [intOf]; omega
    · have HE : Hid ((be m 8).take k = be m 8) := List.take_of_length_le (by rw [be_length]; omega)
      go_wp2
      go_ret
      rw [HE.out] at ho
      exact ⟨_, rfl, ho, hb⟩

theorem bitsTo_lt (c x k : Nat) (h : c < 4294967296) : bitsTo c x k < 4294967296 := by
  induction k with
  | zero => exact h
  | succ k ih =>
    unfold bitsTo bitStep s1
    have hx : bitsTo c x k ^^^ x / 2 ^ k % 2 < 4294967296 := Nat.xor_lt_two_pow (n := 32) ih (by omega)
    split
    · exact Nat.xor_lt_two_pow (n := 32) (by omega) (by decide)
    · omega
/-- What one bit of the register and one of a byte come to, as the program reckons it. -/
theorem bit_parts (c b : Nat) (hc : c < 4294967296) (hb : b < 2) : ∃ p t : Nat, bits .and .u32 (c : Int) 1 = (p : Int) ∧ bits .xor .u32 (p : Int) (b : Int) = (t : Int) ∧ t < 2 ∧ (t = 1 → bits .xor .u32 ((c : Int) / 2) 3988292384 = ((bitStep c b : Nat) : Int)) ∧ (t = 0 → (c : Int) / 2 = ((bitStep c b : Nat) : Int)) := by
  have hp : (c ^^^ b) % 2 = (c % 2 + b) % 2 := by rw [xor_par]; omega
  have hh : (c ^^^ b) / 2 = c / 2 := by rw [xor_half, show b / 2 = 0 by omega, Nat.xor_zero]
  refine ⟨c % 2, (c % 2 + b) % 2, ?_, ?_, by omega, fun ht => ?_, fun ht => ?_⟩
  · have := u32_and_nat c 1 hc (by decide)
    rw [show ((1 : Nat) : Int) = 1 from rfl] at this
    rw [this, show (1 : Nat) = 2 ^ 1 - 1 from rfl, Nat.and_two_pow_sub_one_eq_mod]
  · have e : c % 2 ^^^ b = (c % 2 + b) % 2 := by
      rcases Nat.mod_two_eq_zero_or_one c with h | h <;> rcases (show b = 0 ∨ b = 1 by omega) with k | k <;> rw [h, k] <;> rfl
    rw [u32_xor_nat (c % 2) b (by omega) (by omega), e]
  · unfold bitStep s1
    rw [if_pos (by omega), hh]
    have := u32_xor_nat (c / 2) 3988292384 (by omega) (by decide)
    rw [show ((c / 2 : Nat) : Int) = (c : Int) / 2 by omega, show ((3988292384 : Nat) : Int) = 3988292384 from rfl] at this
    exact this
  · unfold bitStep s1
    rw [if_neg (by omega), hh]
    omega
theorem byte_bit (x k : Nat) (hx : x < 256) : bits .and .u32 ((x : Int) / 2 ^ k) 1 = ((x / 2 ^ k % 2 : Nat) : Int) := by
  have h1 : x / 2 ^ k < 4294967296 := Nat.lt_of_le_of_lt (Nat.div_le_self _ _) (by omega)
  have := u32_and_nat (x / 2 ^ k) 1 h1 (by decide)
  rw [show ((1 : Nat) : Int) = 1 from rfl] at this
  rw [show ((x / 2 ^ k : Nat) : Int) = (x : Int) / 2 ^ k by rw [Int.natCast_ediv]; norm_cast] at this
  rw [this, show (1 : Nat) = 2 ^ 1 - 1 from rfl, Nat.and_two_pow_sub_one_eq_mod]

theorem not_bits' (c : Nat) (h : c < 4294967296) : bits .xor .u32 (c : Int) 4294967295 = ((4294967295 - c : Nat) : Int) := by
  have k := not_bits c h
  rw [show IntKind.u32.max = ((4294967295 : Nat) : Int) from rfl, u32_xor_nat 4294967295 c (by decide) h, Nat.xor_comm, ← u32_xor_nat c 4294967295 h (by decide)] at k
  exact k

set_option maxHeartbeats 400000 in
theorem lent_any (ao : Option Addr) (len cap : Nat) (bs : List UInt8) (w : World) (hl : bs.length = len) (hm : len ≤ 140737488351232) (hb : Bs w ao bs) :
    Calls Try.prog 9 #[.slice ao len cap] w fun e w' => ∃ g c, e = .returned (.slice (some ⟨g, 0, none⟩) len c) ∧ OwnB w' w.heap.size (.slice (some ⟨g, 0, none⟩) (len + 2) c) (bs ++ [77, 78]) ∧ Below w.heap.size w w' := by
  have hb1 : Below w.heap.size w (w.alloc (.cells #[] 5)) := (Below.refl _ _).alloc (Nat.le_refl _) _
  have hO1 : OwnB (w.alloc (.cells #[] 5)) w.heap.size (.slice (some ⟨w.heap.size, 0, none⟩) 0 0) [] := World.ownsRow_lit w #[] 0 (Nat.le_refl _) (Nat.zero_le _) rfl
  have hS := src_bs (P := Try.prog) _ Try.underlying25 (hb.keep (below_keep hb1)) cap
  rw [hl] at hS
  go_enter Try.func9, Try.ntmps9
  go_wp2_with (at_builtin; go_loud (refine wpList_app _ rfl (.tmp 4) (.tmp 5) _ _ rfl elem_u8 w.heap.size _ _ rfl hO1 _ rfl (bs.map bv) hS (by simp only [List.length_map, hl]; unfold maxLen; simp; omega) (by simp only [List.length_map, hl]; simp; omega) (by simp) ?_))
  intro v2 w2 ho2 hs2
  have hO2 : OwnB w2 w.heap.size v2 bs := by simpa [OwnB] using ho2
  have hb2 : Below w.heap.size w w2 := hb1.trans (hs2.below (by simp) (fun k h => (hO1.lt k h).1))
  clear ho2 hs2 hO1 hb1 hS
  go_wp2_with (at_builtin; go_loud (refine wpList_app _ rfl (.tmp 7) (.tmp 8) _ _ rfl elem_u8 w.heap.size _ _ rfl (Own.alloc hO2 _) _ rfl [bv 77, bv 78] (Src.ofSlice _ Try.underlying25 ⟨w2.heap.size, 0, none⟩ 2 2 _ rfl (World.news_of_block (heap_alloc_new w2 _)) (by intro u hu; simp at hu; rcases hu with rfl | rfl <;> rfl)) (by simp only [List.length_map, hl]; unfold maxLen; simp; omega) (by simp only [List.length_map, hl]; simp; omega) (by have := hb2.size; simp; omega) ?_))
  intro v3 w3 ho3 hs3
  have hO3 : OwnB w3 w.heap.size v3 (bs ++ [77, 78]) := by unfold OwnB; rw [List.map_append]; exact ho3
  have hb3 : Below w.heap.size w w3 := (hb2.alloc hb2.size _).trans (hs3.below (by have := hb2.size; simp; omega) (fun k h => (hO2.lt k h).1))
  obtain ⟨g, c, rfl, _, _⟩ := World.ownsRow.form hO3 (by simp)
  have e : ((bs ++ [77, 78]).map bv).length = len + 2 := by simp [hl]
  have hcap : len + 2 ≤ c := by
    rcases hO3.2 with ⟨h, _⟩ | ⟨g', cap', cur, h, _, _, hle, _⟩
    · cases h
    · cases h; omega
  rw [e] at hO3 ⊢
  clear ho3 hs3 hO2 hb2
  go_wp2
  go_ret
  exact ⟨g, c, rfl, hO3, hb3⟩

end Go.Proofs.Ytmaecpmdikdclaa
