/- What wire's smallest functions do: number reads bytes as a number, appendNumber writes one behind a slice, fresh copies a slice. What wire's sums come to: sumOf is CRC-32 by a table of sixteen numbers, lowestFirst turns the four bytes of a sum round. What wire's frames come to: Sum, Frame, firstFrame and Frames of any bytes. What wire's Frames comes to. What wire's Frames comes to: the frames that bytes begin with, each in a new slice. -/
import Derived.Test.YtaonchdpnllhpaaProg
import Derived.Test.YtaonchdpnllhpaaPlain
import Derived.WalkLawsBesides
import Derived.Laws.CopyOwn
import Derived.BigQuiet
import Derived.Deep.QuietTactic
import Derived.WalkSmall
namespace Go.Proofs.Ytaonchdpnllhpaa
open Go.RowKit

theorem ret_int {k : IntKind} {a b : Int} (h : a = b) : Ending.returned (.int k a) = .returned (.int k b) := by rw [h]

theorem elem_u8 : Elem Try.prog 102 5 1 := by
  refine ⟨Try.underlying102, ?_⟩
  obtain ⟨i0, hi, hz0, hz1, hz2⟩ := info_parts (show (Try.prog.info? 5).map (fun i => (i.zero, i.size, i.bytes)) = some (some (.int .u8 0), 1, 1) by kernel_rfl)
  exact ⟨i0, _, hi, hz0, hz1, hz2, rfl⟩

/-- Owned bytes. -/
def OwnB (w : World) (base : Nat) (v : Value) (bs : List UInt8) : Prop := Own w base 5 v (bs.map bv)

end Go.Proofs.Ytaonchdpnllhpaa
namespace Go.Proofs.Ytaonchdpnllhpaa
open Go.RowKit

/-- The table, as the program lays it. -/
def tabL : List Nat := [0, 498536548, 997073096, 651767980, 1994146192, 1802195444, 1303535960, 1342533948, 3988292384, 4027552580, 3604390888, 3412177804, 2607071920, 2262029012, 2685067896, 3183342108]
def tab (j : Nat) : Nat := tabL.getD j 0
/-- One round of four bits. -/
def crcHalf (c : Nat) : Nat := c / 16 ^^^ tab (c % 16)
def crcByte (c : Nat) (x : UInt8) : Nat := crcHalf (crcHalf (c ^^^ x.toNat))
def crcFold (c : Nat) (bs : List UInt8) : Nat := bs.foldl crcByte c
def crcParts (c : Nat) (bss : List (List UInt8)) : Nat := bss.foldl crcFold c

theorem tab_lt (j : Nat) : tab j < 4294967296 := by
  unfold tab
  by_cases h : j < 16
  · have : ∀ k : Fin 16, tabL.getD k.val 0 < 4294967296 := by decide
    exact this ⟨j, h⟩
  · rw [List.getD_eq_getElem?_getD, List.getElem?_eq_none (by simp [tabL]; omega)]; decide
theorem crcHalf_lt (c : Nat) (h : c < 4294967296) : crcHalf c < 4294967296 :=
  Nat.xor_lt_two_pow (n := 32) (by omega) (tab_lt _)
theorem xor_byte_lt (c : Nat) (x : UInt8) (h : c < 4294967296) : c ^^^ x.toNat < 4294967296 :=
  Nat.xor_lt_two_pow (n := 32) h (by have := x.toNat_lt; omega)
theorem crcByte_lt (c : Nat) (x : UInt8) (h : c < 4294967296) : crcByte c x < 4294967296 :=
  crcHalf_lt _ (crcHalf_lt _ (xor_byte_lt c x h))
theorem crcFold_lt (c : Nat) (bs : List UInt8) (h : c < 4294967296) : crcFold c bs < 4294967296 := by
  unfold crcFold
  induction bs generalizing c with
  | nil => exact h
  | cons x r ih => exact ih _ (crcByte_lt c x h)
theorem crcParts_lt (c : Nat) (bss : List (List UInt8)) (h : c < 4294967296) : crcParts c bss < 4294967296 := by
  unfold crcParts
  induction bss generalizing c with
  | nil => exact h
  | cons x r ih => exact ih _ (crcFold_lt c x h)
theorem crcFold_snoc (c : Nat) (bs : List UInt8) (k : Nat) (h : k < bs.length) : crcFold c (bs.take (k + 1)) = crcByte (crcFold c (bs.take k)) bs[k] := by
  rw [List.take_succ_eq_append_getElem h]
  simp only [crcFold, List.foldl_append, List.foldl_cons, List.foldl_nil]
theorem crcParts_snoc (c : Nat) (bss : List (List UInt8)) (k : Nat) (h : k < bss.length) : crcParts c (bss.take (k + 1)) = crcFold (crcParts c (bss.take k)) bss[k] := by
  rw [List.take_succ_eq_append_getElem h]
  simp only [crcParts, List.foldl_append, List.foldl_cons, List.foldl_nil]
theorem half_bits (c : Nat) (h : c < 4294967296) : ∃ i t : Nat, bits .and .u32 (c : Int) 15 = (i : Int) ∧ i < 16 ∧ tab i = t ∧ bits .xor .u32 ((c : Int) / 16) (t : Int) = ((crcHalf c : Nat) : Int) := by
  refine ⟨c % 16, tab (c % 16), ?_, by omega, rfl, ?_⟩
  · have := u32_and_nat c 15 h (by decide)
    rw [show ((15 : Nat) : Int) = 15 from rfl] at this
    rw [this, show (15 : Nat) = 2 ^ 4 - 1 from rfl, Nat.and_two_pow_sub_one_eq_mod]
  · have := u32_xor_nat (c / 16) (tab (c % 16)) (by omega) (tab_lt _)
    rw [show ((c / 16 : Nat) : Int) = (c : Int) / 16 by omega] at this
    exact this
theorem byte_bits (c : Nat) (x : UInt8) (h : c < 4294967296) : bits .xor .u32 (c : Int) ((x.toNat : Int) % 4294967296) = ((c ^^^ x.toNat : Nat) : Int) := by
  have hx := x.toNat_lt
  rw [show ((x.toNat : Int) % 4294967296) = (x.toNat : Int) by omega]
  exact u32_xor_nat c x.toNat h (by omega)

theorem not_bits (c : Nat) (h : c < 4294967296) : bits .xor .u32 IntKind.u32.max (c : Int) = ((4294967295 - c : Nat) : Int) := by
  have e : IntKind.u32.max = ((4294967295 : Nat) : Int) := rfl
  rw [e, u32_xor_nat 4294967295 c (by decide) h]
  have k : (BitVec.allOnes 32 ^^^ BitVec.ofNat 32 c).toNat = (~~~ BitVec.ofNat 32 c).toNat := by rw [BitVec.allOnes_xor]
  rw [BitVec.toNat_xor, BitVec.toNat_not, BitVec.toNat_allOnes, BitVec.toNat_ofNat, Nat.mod_eq_of_lt (by omega : c < 2 ^ 32)] at k
  have k' : 4294967295 ^^^ c = 4294967295 - c := k
  rw [k']

theorem or_split (k a b : Nat) : a ||| b = (a / 2 ^ k ||| b / 2 ^ k) * 2 ^ k + (a % 2 ^ k ||| b % 2 ^ k) := by
  rw [← Nat.or_div_two_pow, ← Nat.or_mod_two_pow, Nat.mul_comm]
  exact (Nat.div_add_mod _ _).symm
theorem and_split (k a b : Nat) : a &&& b = (a / 2 ^ k &&& b / 2 ^ k) * 2 ^ k + (a % 2 ^ k &&& b % 2 ^ k) := by
  rw [← Nat.and_div_two_pow, ← Nat.and_mod_two_pow, Nat.mul_comm]
  exact (Nat.div_add_mod _ _).symm
theorem mask_255 (n : Nat) : n &&& 255 = n % 256 := by
  have := @Nat.and_two_pow_sub_one_eq_mod n 8
  simpa using this
theorem mask_ff00ff (n : Nat) : n &&& 16711935 = n / 65536 % 256 * 65536 + n % 256 := by
  rw [and_split 16]
  have e1 : 16711935 / 2 ^ 16 = 255 := by decide
  have e2 : 16711935 % 2 ^ 16 = 255 := by decide
  rw [e1, e2, mask_255, mask_255]
  omega
theorem or_bytes (l h : Nat) (hl : l < 256) : l ||| h * 256 = h * 256 + l := nat_join8' (h * 256) l (by omega) hl
theorem or_words (H M : Nat) (hH : H < 65536) (hM : M % 65536 = 0) : H ||| M = M + H := nat_join16' M H hM hH
theorem rev_parts (a b c d : Nat) (ha : a < 256) (hb : b < 256) (hd : d < 256) :
    (d * 65536 + b) ||| (c * 16777216 + a * 256) = (c * 256 + d) * 65536 + (a * 256 + b) := by
  rw [or_split 16, show (2 : Nat) ^ 16 = 65536 from rfl]
  have e1 : (d * 65536 + b) / 65536 = d := by omega
  have k : c * 16777216 + a * 256 = 65536 * (c * 256) + a * 256 := by omega
  have ka : a * 256 < 65536 := by omega
  have e2 : (c * 16777216 + a * 256) / 65536 = c * 256 := by rw [k, Nat.mul_add_div (by decide), Nat.div_eq_of_lt ka, Nat.add_zero]
  have e3 : (d * 65536 + b) % 65536 = b := by omega
  have e4 : (c * 16777216 + a * 256) % 65536 = a * 256 := by rw [k, Nat.mul_add_mod, Nat.mod_eq_of_lt ka]
  rw [e1, e2, e3, e4, or_bytes d c hd, or_bytes b a hb]
/-- Four bytes, turned round. -/
def rev4 (x : Nat) : Nat := x % 256 * 16777216 + x / 256 % 256 * 65536 + x / 65536 % 256 * 256 + x / 16777216
theorem rev_bits (x : Nat) (h : x < 4294967296) :
    bits BinOp.or IntKind.u32
                        (bits BinOp.or IntKind.u32 (bits BinOp.and IntKind.u32 ((x : Int) / 256) 16711935)
                            (bits BinOp.and IntKind.u32 (x : Int) 16711935 * 256 % 4294967296) /
                          65536)
                        (bits BinOp.or IntKind.u32 (bits BinOp.and IntKind.u32 ((x : Int) / 256) 16711935)
                              (bits BinOp.and IntKind.u32 (x : Int) 16711935 * 256 % 4294967296) *
                            65536 %
                          4294967296) = ((rev4 x : Nat) : Int) := by
  have m : ((16711935 : Nat) : Int) = 16711935 := rfl
  have a1 := u32_and_nat (x / 256) 16711935 (by omega) (by decide)
  rw [m, show ((x / 256 : Nat) : Int) = (x : Int) / 256 by omega, mask_ff00ff] at a1
  have a2 := u32_and_nat x 16711935 h (by decide)
  rw [m, mask_ff00ff] at a2
  rw [a1, a2]
  obtain ⟨a, ha⟩ : ∃ a, a = x % 256 := ⟨_, rfl⟩
  obtain ⟨b, hb⟩ : ∃ b, b = x / 256 % 256 := ⟨_, rfl⟩
  obtain ⟨c, hc⟩ : ∃ c, c = x / 65536 % 256 := ⟨_, rfl⟩
  obtain ⟨d, hd⟩ : ∃ d, d = x / 16777216 := ⟨_, rfl⟩
  have hd' : x / 256 / 65536 % 256 = d := by omega
  have hr : rev4 x = a * 16777216 + b * 65536 + c * 256 + d := by unfold rev4; omega
  rw [hr, ← ha, ← hb, ← hc, hd']
  have ba : a < 256 := by omega
  have bb : b < 256 := by omega
  have bc : c < 256 := by omega
  have bd : d < 256 := by omega
  clear ha hb hc hd hd' a1 a2 hr h
  have e1 : (((c * 65536 + a : Nat) : Int) * 256 % 4294967296) = ((c * 16777216 + a * 256 : Nat) : Int) := by omega
  rw [e1, u32_or_nat _ _ (by omega) (by omega), rev_parts a b c d ba bb bd]
  have e2 : ((((c * 256 + d) * 65536 + (a * 256 + b) : Nat) : Int) / 65536) = ((c * 256 + d : Nat) : Int) := by omega
  have n3 : ((c * 256 + d) * 65536 + (a * 256 + b)) * 65536 % 4294967296 = a * 16777216 + b * 65536 := by
    have k : ((c * 256 + d) * 65536 + (a * 256 + b)) * 65536 = 4294967296 * (c * 256 + d) + (a * 16777216 + b * 65536) := by omega
    rw [k, Nat.mul_add_mod, Nat.mod_eq_of_lt (by omega)]
  have e3 : ((((c * 256 + d) * 65536 + (a * 256 + b) : Nat) : Int) * 65536 % 4294967296) = ((a * 16777216 + b * 65536 : Nat) : Int) := by
    rw [← n3, Int.natCast_emod, Int.natCast_mul]; rfl
  have h1 : a * 16777216 = 65536 * (a * 256) := by omega
  have h2 : (a * 16777216 + b * 65536) % 65536 = 0 := by rw [h1, Nat.mul_add_mod, Nat.mul_mod_left]
  rw [e2, e3, u32_or_nat _ _ (by omega) (by omega), or_words (c * 256 + d) (a * 16777216 + b * 65536) (by omega) h2, ← Nat.add_assoc]

theorem rev4_lt (x : Nat) (h : x < 4294967296) : rev4 x < 4294967296 := by unfold rev4; omega

end Go.Proofs.Ytaonchdpnllhpaa
namespace Go.Proofs.Ytaonchdpnllhpaa
open Go.RowKit

theorem Bs.keep {w w' : World} {ao : Option Addr} {bs : List UInt8} (h : Bs w ao bs) (hk : ∀ a v, w.cell? a = some v → w'.cell? a = some v) : Bs w' ao bs := by
  rcases h with h | ⟨b, off, h, hc⟩
  · exact .inl h
  · exact .inr ⟨b, off, h, fun j hj => hk _ _ (hc j hj)⟩
theorem below_keep {w w' : World} (hb : Below w.heap.size w w') : ∀ a v, w.cell? a = some v → w'.cell? a = some v := fun a v h => by
  rw [hb.cell (p := a) (World.block_lt_of_cell? _ _ h)]; exact h
theorem alloc_keep (w : World) (o : Obj) : ∀ a v, w.cell? a = some v → (w.alloc o).cell? a = some v :=
  below_keep ((Below.refl _ w).alloc (Nat.le_refl _) o)

/-- The sum of bytes. -/
def crc (bs : List UInt8) : Nat := 4294967295 - crcFold 4294967295 bs
theorem crc_lt (bs : List UInt8) : crc bs < 4294967296 := by unfold crc; omega
theorem crcParts_one (bs : List UInt8) : 4294967295 - crcParts 4294967295 [bs] = crc bs := rfl
theorem crcParts_two (a b : List UInt8) : 4294967295 - crcParts 4294967295 [a, b] = crc (a ++ b) := by
  simp only [crcParts, crc, crcFold, List.foldl_cons, List.foldl_nil, List.foldl_append]
/-- A frame's bytes. -/
def frameOf (bs : List UInt8) : List UInt8 := be bs.length 4 ++ be (rev4 (crc (be bs.length 4 ++ bs))) 4 ++ bs

theorem new_cell (w : World) (cs : Array Value) (t : TypeId) (k : Nat) (v : Value) (h : cs[k]? = some v) : (w.alloc (.cells cs t)).cell? ⟨w.heap.size, k, none⟩ = some v := by
  rw [cell_of_row _ _ k cs t (0, 0) (heap_alloc_new w _)]
  exact h
end Go.Proofs.Ytaonchdpnllhpaa
namespace Go.Proofs.Ytaonchdpnllhpaa
open Go.RowKit

/-- What is in the frame that bytes begin with. -/
def firstOf (bs : List UInt8) : Option (List UInt8) :=
  if bs.length < 8 then none
  else if 1048576 < num (bs.take 4) then none
  else if bs.length - 8 < num (bs.take 4) then none
  else if num ((bs.drop 4).take 4) ≠ rev4 (crc (bs.take 4 ++ (bs.drop 8).take (num (bs.take 4)))) then none
  else some ((bs.drop 8).take (num (bs.take 4)))

theorem Bs.cut {w : World} {b off : Nat} {bs : List UInt8} (hc : ∀ j (h : j < bs.length), w.cell? ⟨b, off + j, none⟩ = some (.int .u8 (bs[j].toNat : Int))) (k n : Nat) : Bs w (some ⟨b, off + k, none⟩) ((bs.drop k).take n) := by
  refine .inr ⟨b, off + k, rfl, fun j hj => ?_⟩
  simp only [List.length_take, List.length_drop] at hj
  have := hc (k + j) (by omega)
  rw [← Nat.add_assoc] at this
  rw [this]
  simp

/-- What a call of firstFrame leaves. -/
def FirstEnd (w : World) (bs : List UInt8) (e : Ending) (w' : World) : Prop :=
  ∃ ao' c', e = .returned (.tuple #[.slice ao' ((firstOf bs).getD []).length c', .bool (firstOf bs).isSome]) ∧ ((firstOf bs).getD []).length ≤ c' ∧ Bs w ao' ((firstOf bs).getD []) ∧ Below w.heap.size w w'
theorem FirstEnd.no {w w' : World} {bs : List UInt8} (h : firstOf bs = none) (hb : Below w.heap.size w w') : FirstEnd w bs (.returned (.tuple #[.slice none 0 0, .bool false])) w' :=
  ⟨none, 0, by rw [h]; rfl, by rw [h]; exact Nat.le_refl _, by rw [h]; exact .inl rfl, hb⟩

theorem FirstEnd.yes {w w' : World} {bs inn : List UInt8} {ao : Option Addr} {n c : Nat} (h : firstOf bs = some inn) (hn : inn.length = n) (hc : n ≤ c) (hB : Bs w ao inn) (hb : Below w.heap.size w w') : FirstEnd w bs (.returned (.tuple #[.slice ao n c, .bool true])) w' := by
  subst hn
  exact ⟨ao, c, by rw [h]; rfl, by rw [h]; exact hc, by rw [h]; exact hB, hb⟩

theorem FirstEnd.elim_no {w w' : World} {bs : List UInt8} {e : Ending} (H : FirstEnd w bs e w') (h : firstOf bs = none) : ∃ ao c, e = .returned (.tuple #[.slice ao 0 c, .bool false]) ∧ Below w.heap.size w w' := by
  obtain ⟨ao, c, he, _, _, hb⟩ := H
  rw [h] at he
  exact ⟨ao, c, he, hb⟩
theorem FirstEnd.elim_yes {w w' : World} {bs inn : List UInt8} {e : Ending} (H : FirstEnd w bs e w') (h : firstOf bs = some inn) : ∃ ao c, e = .returned (.tuple #[.slice ao inn.length c, .bool true]) ∧ inn.length ≤ c ∧ Bs w ao inn ∧ Below w.heap.size w w' := by
  obtain ⟨ao, c, he, hc, hB, hb⟩ := H
  rw [h] at he hc hB
  exact ⟨ao, c, he, hc, hB, hb⟩

end Go.Proofs.Ytaonchdpnllhpaa
namespace Go.Proofs.Ytaonchdpnllhpaa
open Go.RowKit

theorem firstOf_len {bs inn : List UInt8} (h : firstOf bs = some inn) : 8 + inn.length ≤ bs.length := by
  unfold firstOf at h
  split at h
  · cases h
  · split at h
    · cases h
    · split at h
      · cases h
      · split at h
        · cases h
        · cases h
          simp only [List.length_take, List.length_drop]
          omega
/-- The frames that bytes begin with, and how many bytes they have. -/
def framesOf (bs : List UInt8) : List (List UInt8) × Nat :=
  match h : firstOf bs with
  | none => ([], 0)
  | some inn => (inn :: (framesOf (bs.drop (8 + inn.length))).1, 8 + inn.length + (framesOf (bs.drop (8 + inn.length))).2)
termination_by bs.length
decreasing_by all_goals (have := firstOf_len h; simp only [List.length_drop]; omega)
theorem framesOf_none {bs : List UInt8} (h : firstOf bs = none) : framesOf bs = ([], 0) := by
  rw [framesOf]; split
  · rfl
  · rename_i h'; rw [h] at h'; cases h'
theorem framesOf_some {bs inn : List UInt8} (h : firstOf bs = some inn) : framesOf bs = (inn :: (framesOf (bs.drop (8 + inn.length))).1, 8 + inn.length + (framesOf (bs.drop (8 + inn.length))).2) := by
  rw [framesOf]; split
  · rename_i h'; rw [h] at h'; cases h'
  · rename_i h'; rw [h] at h'; cases h'; rfl

theorem Bs.from {w : World} {ao : Option Addr} {bs : List UInt8} (h : Bs w ao bs) (k cap : Nat) (hcap : bs.length ≤ cap) : Bs w (if cap = k then ao else ao.map (fun a => a.add k)) (bs.drop k) := by
  rcases h with rfl | ⟨b, off, rfl, hc⟩
  · left; simp
  · split
    · left; exact List.drop_eq_nil_of_le (by omega)
    · refine .inr ⟨b, off + k, ?_, fun j hj => ?_⟩
      · have hadd : (⟨b, off, none⟩ : Addr).add k = ⟨b, off + k, none⟩ := by unfold Addr.add; split <;> simp_all
        simp [hadd]
      · simp only [List.length_drop] at hj
        have := hc (k + j) (by omega)
        rw [← Nat.add_assoc] at this
        rw [this]
        simp

/-- A row of new slices: each in a block of its own. -/
def sl (g n : Nat) : Value := .slice (some ⟨g, 0, none⟩) n n
structure Rows2 (w : World) (base : Nat) (v : Value) (gs : List Nat) (L : List (List UInt8)) : Prop where
  len : gs.length = L.length
  row : Own w base 102 v (List.zipWith (fun g (b : List UInt8) => sl g b.length) gs L)
  each : ∀ i (h : i < L.length) (h' : i < gs.length), OwnB w base (sl gs[i] L[i].length) L[i]
  nodup : gs.Nodup

theorem Own.below {w w' : World} {base : Nat} {e : TypeId} {v : Value} {xs : List Value} (h : Own w base e v xs) (hb : Below w.heap.size w w') : Own w' base e v xs := by
  refine ⟨h.1, ?_⟩
  rcases h.2 with h2 | ⟨g, cap, cur, rfl, hg, hh, r⟩
  · exact .inl h2
  · exact .inr ⟨g, cap, cur, rfl, hg, by rw [hb.block g (Array.getElem?_eq_some_iff.1 hh).1]; exact hh, r⟩
theorem Rows2.below {w w' : World} {base : Nat} {v : Value} {gs : List Nat} {L : List (List UInt8)} (h : Rows2 w base v gs L) (hb : Below w.heap.size w w') : Rows2 w' base v gs L :=
  ⟨h.len, Own.below h.row hb, fun i h1 h2 => Own.below (h.each i h1 h2) hb, h.nodup⟩
/-- A row of bytes is no row of slices. -/
theorem apart {w : World} {b b' g n : Nat} {e e' : TypeId} {v : Value} {xs ys : List Value} (hee : e ≠ e') (h : Own w b e (sl g n) xs) (k : Own w b' e' v ys) : (sl g n).ownBlock = none ∨ (sl g n).ownBlock ≠ v.ownBlock := by
  right
  intro he
  rcases h.2 with ⟨h2, _⟩ | ⟨g1, cap, cur, hv, _, hh, _⟩
  · cases h2
  · cases hv
    rcases k.2 with ⟨k2, _⟩ | ⟨g2, cap2, cur2, kv, _, kk, _⟩
    · rw [k2] at he; cases he
    · rw [kv] at he
      cases he
      rw [hh] at kk
      cases kk
      exact hee rfl
theorem own_base {w : World} {b b' g n : Nat} {e : TypeId} {xs : List Value} (h : Own w b e (sl g n) xs) (hb : b' ≤ b) : Own w b' e (sl g n) xs :=
  Own.mono h (fun k hk => Nat.le_trans hb (h.lt k hk).1)
/-- One slice more in the row. -/
theorem Rows2.push {w w' : World} {base : Nat} {v v' : Value} {gs : List Nat} {L : List (List UInt8)} {g : Nat} {b : List UInt8} (h : Rows2 w base v gs L) (hn : OwnB w base (sl g b.length) b) (hg : ∀ x ∈ gs, x < g)
    (ho : Own w' base 102 v' (List.zipWith (fun g (b : List UInt8) => sl g b.length) gs L ++ [sl g b.length])) (hs : Step w v w' v') : Rows2 w' base v' (gs ++ [g]) (L ++ [b]) := by
  refine ⟨by simp [h.len], ?_, fun i h1 h2 => ?_, ?_⟩
  · rw [List.zipWith_append h.len]; exact ho
  · by_cases hi : i < L.length
    · have hi' : i < gs.length := by rw [h.len]; exact hi
      rw [List.getElem_append_left hi, List.getElem_append_left hi']
      exact Own.kept (h.each i hi hi') hs.1 (apart (by decide) (h.each i hi hi') h.row)
    · have e1 : i = L.length := by simp at h1; omega
      have e2 : i = gs.length := by rw [h.len]; exact e1
      rw [List.getElem_append_right (by omega), List.getElem_append_right (by omega)]
      simp only [e1, Nat.sub_self, h.len, List.getElem_cons_zero]
      exact Own.kept hn hs.1 (apart (by decide) hn h.row)
  · rw [List.nodup_append]
    exact ⟨h.nodup, by simp, fun a ha b hb => by simp at hb; subst hb; have := hg a ha; omega⟩
theorem Rows2.lt {w : World} {base : Nat} {v : Value} {gs : List Nat} {L : List (List UInt8)} (h : Rows2 w base v gs L) : ∀ x ∈ gs, x < w.heap.size := by
  intro x hx
  obtain ⟨i, hi, rfl⟩ := List.getElem_of_mem hx
  exact ((h.each i (by rw [← h.len]; exact hi) hi).lt _ rfl).2

end Go.Proofs.Ytaonchdpnllhpaa
