/- What wire's sums come to: sumOf is CRC-32 by a table of sixteen numbers, lowestFirst turns the four bytes of a sum round. What wire's frames come to: Sum, Frame, firstFrame and Frames of any bytes. Layer 11: the tree in memory: its box, its list of nodes; side, count. -/
import Derived.Test.YtcjakgogdbfagaaAN
import Derived.Test.YtcjakgogdbfagaaQC
import Derived.Deep.RegionLaw
import Derived.BigQuiet
import Derived.Shelf.Abstract
import Derived.Outline
import Derived.Deep.LoopGhost
namespace Go.Proofs.Ytcjakgogdbfagaa
open Go.RowKit

/-- The table, as the program lays it. -/
def tabL : List Nat := [0, 498536548, 997073096, 651767980, 1994146192, 1802195444, 1303535960, 1342533948, 3988292384, 4027552580, 3604390888, 3412177804, 2607071920, 2262029012, 2685067896, 3183342108]
def tab (j : Nat) : Nat := tabL.getD j 0
/-- One round of four bits. -/
def crcHalf (c : Nat) : Nat := c / 16 ^^^ tab (c % 16)
def crcByte (c : Nat) (x : UInt8) : Nat := crcHalf (crcHalf (c ^^^ x.toNat))
def crcFold (c : Nat) (bs : List UInt8) : Nat := bs.foldl crcByte c
def crcParts (c : Nat) (bss : List (List UInt8)) : Nat := bss.foldl crcFold c

theorem tab_lt (j : Nat) : tab j < 4294967296 := by
  unfold tab
  by_cases h : j < 16
  · have : ∀ k : Fin 16, tabL.getD k.val 0 < 4294967296 := by decide
    exact this ⟨j, h⟩
  · rw [List.getD_eq_getElem?_getD, List.getElem?_eq_none (by simp [tabL]; omega)]; decide
theorem crcHalf_lt (c : Nat) (h : c < 4294967296) : crcHalf c < 4294967296 :=
  Nat.xor_lt_two_pow (n := 32) (by omega) (tab_lt _)
theorem xor_byte_lt (c : Nat) (x : UInt8) (h : c < 4294967296) : c ^^^ x.toNat < 4294967296 :=
  Nat.xor_lt_two_pow (n := 32) h (by have := x.toNat_lt; omega)
theorem crcByte_lt (c : Nat) (x : UInt8) (h : c < 4294967296) : crcByte c x < 4294967296 :=
  crcHalf_lt _ (crcHalf_lt _ (xor_byte_lt c x h))
theorem crcFold_lt (c : Nat) (bs : List UInt8) (h : c < 4294967296) : crcFold c bs < 4294967296 := by
  unfold crcFold
  induction bs generalizing c with
  | nil => exact h
  | cons x r ih => exact ih _ (crcByte_lt c x h)
theorem crcParts_lt (c : Nat) (bss : List (List UInt8)) (h : c < 4294967296) : crcParts c bss < 4294967296 := by
  unfold crcParts
  induction bss generalizing c with
  | nil => exact h
  | cons x r ih => exact ih _ (crcFold_lt c x h)
theorem crcFold_snoc (c : Nat) (bs : List UInt8) (k : Nat) (h : k < bs.length) : crcFold c (bs.take (k + 1)) = crcByte (crcFold c (bs.take k)) bs[k] := by
  rw [List.take_succ_eq_append_getElem h]
  simp only [crcFold, List.foldl_append, List.foldl_cons, List.foldl_nil]
theorem crcParts_snoc (c : Nat) (bss : List (List UInt8)) (k : Nat) (h : k < bss.length) : crcParts c (bss.take (k + 1)) = crcFold (crcParts c (bss.take k)) bss[k] := by
  rw [List.take_succ_eq_append_getElem h]
  simp only [crcParts, List.foldl_append, List.foldl_cons, List.foldl_nil]
theorem half_bits (c : Nat) (h : c < 4294967296) : ∃ i t : Nat, bits .and .u32 (c : Int) 15 = (i : Int) ∧ i < 16 ∧ tab i = t ∧ bits .xor .u32 ((c : Int) / 16) (t : Int) = ((crcHalf c : Nat) : Int) := by
  refine ⟨c % 16, tab (c % 16), ?_, by omega, rfl, ?_⟩
  · have := u32_and_nat c 15 h (by decide)
    rw [show ((15 : Nat) : Int) = 15 from rfl] at this
    rw [this, show (15 : Nat) = 2 ^ 4 - 1 from rfl, Nat.and_two_pow_sub_one_eq_mod]
  · have := u32_xor_nat (c / 16) (tab (c % 16)) (by omega) (tab_lt _)
    rw [show ((c / 16 : Nat) : Int) = (c : Int) / 16 by omega] at this
    exact this
theorem byte_bits (c : Nat) (x : UInt8) (h : c < 4294967296) : bits .xor .u32 (c : Int) ((x.toNat : Int) % 4294967296) = ((c ^^^ x.toNat : Nat) : Int) := by
  have hx := x.toNat_lt
  rw [show ((x.toNat : Int) % 4294967296) = (x.toNat : Int) by omega]
  exact u32_xor_nat c x.toNat h (by omega)

theorem not_bits (c : Nat) (h : c < 4294967296) : bits .xor .u32 IntKind.u32.max (c : Int) = ((4294967295 - c : Nat) : Int) := by
  have e : IntKind.u32.max = ((4294967295 : Nat) : Int) := rfl
  rw [e, u32_xor_nat 4294967295 c (by decide) h]
  have k : (BitVec.allOnes 32 ^^^ BitVec.ofNat 32 c).toNat = (~~~ BitVec.ofNat 32 c).toNat := by rw [BitVec.allOnes_xor]
  rw [BitVec.toNat_xor, BitVec.toNat_not, BitVec.toNat_allOnes, BitVec.toNat_ofNat, Nat.mod_eq_of_lt (by omega : c < 2 ^ 32)] at k
  have k' : 4294967295 ^^^ c = 4294967295 - c := k
  rw [k']

theorem or_split (k a b : Nat) : a ||| b = (a / 2 ^ k ||| b / 2 ^ k) * 2 ^ k + (a % 2 ^ k ||| b % 2 ^ k) := by
  rw [← Nat.or_div_two_pow, ← Nat.or_mod_two_pow, Nat.mul_comm]
  exact (Nat.div_add_mod _ _).symm
theorem and_split (k a b : Nat) : a &&& b = (a / 2 ^ k &&& b / 2 ^ k) * 2 ^ k + (a % 2 ^ k &&& b % 2 ^ k) := by
  rw [← Nat.and_div_two_pow, ← Nat.and_mod_two_pow, Nat.mul_comm]
  exact (Nat.div_add_mod _ _).symm
theorem mask_255 (n : Nat) : n &&& 255 = n % 256 := by
  have := @Nat.and_two_pow_sub_one_eq_mod n 8
  simpa using this
theorem mask_ff00ff (n : Nat) : n &&& 16711935 = n / 65536 % 256 * 65536 + n % 256 := by
  rw [and_split 16]
  have e1 : 16711935 / 2 ^ 16 = 255 := by decide
  have e2 : 16711935 % 2 ^ 16 = 255 := by decide
  rw [e1, e2, mask_255, mask_255]
  omega
theorem or_bytes (l h : Nat) (hl : l < 256) : l ||| h * 256 = h * 256 + l := nat_join8' (h * 256) l (by omega) hl
theorem or_words (H M : Nat) (hH : H < 65536) (hM : M % 65536 = 0) : H ||| M = M + H := nat_join16' M H hM hH
theorem rev_parts (a b c d : Nat) (ha : a < 256) (hb : b < 256) (hd : d < 256) :
    (d * 65536 + b) ||| (c * 16777216 + a * 256) = (c * 256 + d) * 65536 + (a * 256 + b) := by
  rw [or_split 16, show (2 : Nat) ^ 16 = 65536 from rfl]
  have e1 : (d * 65536 + b) / 65536 = d := by omega
  have k : c * 16777216 + a * 256 = 65536 * (c * 256) + a * 256 := by omega
  have ka : a * 256 < 65536 := by omega
  have e2 : (c * 16777216 + a * 256) / 65536 = c * 256 := by rw [k, Nat.mul_add_div (by decide), Nat.div_eq_of_lt ka, Nat.add_zero]
  have e3 : (d * 65536 + b) % 65536 = b := by omega
  have e4 : (c * 16777216 + a * 256) % 65536 = a * 256 := by rw [k, Nat.mul_add_mod, Nat.mod_eq_of_lt ka]
  rw [e1, e2, e3, e4, or_bytes d c hd, or_bytes b a hb]
/-- Four bytes, turned round. -/
def rev4 (x : Nat) : Nat := x % 256 * 16777216 + x / 256 % 256 * 65536 + x / 65536 % 256 * 256 + x / 16777216
theorem rev_bits (x : Nat) (h : x < 4294967296) :
    bits BinOp.or IntKind.u32
                        (bits BinOp.or IntKind.u32 (bits BinOp.and IntKind.u32 ((x : Int) / 256) 16711935)
                            (bits BinOp.and IntKind.u32 (x : Int) 16711935 * 256 % 4294967296) /
                          65536)
                        (bits BinOp.or IntKind.u32 (bits BinOp.and IntKind.u32 ((x : Int) / 256) 16711935)
                              (bits BinOp.and IntKind.u32 (x : Int) 16711935 * 256 % 4294967296) *
                            65536 %
                          4294967296) = ((rev4 x : Nat) : Int) := by
  have m : ((16711935 : Nat) : Int) = 16711935 := rfl
  have a1 := u32_and_nat (x / 256) 16711935 (by omega) (by decide)
  rw [m, show ((x / 256 : Nat) : Int) = (x : Int) / 256 by omega, mask_ff00ff] at a1
  have a2 := u32_and_nat x 16711935 h (by decide)
  rw [m, mask_ff00ff] at a2
  rw [a1, a2]
  obtain ⟨a, ha⟩ : ∃ a, a = x % 256 := ⟨_, rfl⟩
  obtain ⟨b, hb⟩ : ∃ b, b = x / 256 % 256 := ⟨_, rfl⟩
  obtain ⟨c, hc⟩ : ∃ c, c = x / 65536 % 256 := ⟨_, rfl⟩
  obtain ⟨d, hd⟩ : ∃ d, d = x / 16777216 := ⟨_, rfl⟩
  have hd' : x / 256 / 65536 % 256 = d := by omega
  have hr : rev4 x = a * 16777216 + b * 65536 + c * 256 + d := by unfold rev4; omega
  rw [hr, ← ha, ← hb, ← hc, hd']
  have ba : a < 256 := by omega
  have bb : b < 256 := by omega
  have bc : c < 256 := by omega
  have bd : d < 256 := by omega
  clear ha hb hc hd hd' a1 a2 hr h
  have e1 : (((c * 65536 + a : Nat) : Int) * 256 % 4294967296) = ((c * 16777216 + a * 256 : Nat) : Int) := by omega
  rw [e1, u32_or_nat _ _ (by omega) (by omega), rev_parts a b c d ba bb bd]
  have e2 : ((((c * 256 + d) * 65536 + (a * 256 + b) : Nat) : Int) / 65536) = ((c * 256 + d : Nat) : Int) := by omega
  have n3 : ((c * 256 + d) * 65536 + (a * 256 + b)) * 65536 % 4294967296 = a * 16777216 + b * 65536 := by
    have k : ((c * 256 + d) * 65536 + (a * 256 + b)) * 65536 = 4294967296 * (c * 256 + d) + (a * 16777216 + b * 65536) := by omega
    rw [k, Nat.mul_add_mod, Nat.mod_eq_of_lt (by omega)]
  have e3 : ((((c * 256 + d) * 65536 + (a * 256 + b) : Nat) : Int) * 65536 % 4294967296) = ((a * 16777216 + b * 65536 : Nat) : Int) := by
    rw [← n3, Int.natCast_emod, Int.natCast_mul]; rfl
  have h1 : a * 16777216 = 65536 * (a * 256) := by omega
  have h2 : (a * 16777216 + b * 65536) % 65536 = 0 := by rw [h1, Nat.mul_add_mod, Nat.mul_mod_left]
  rw [e2, e3, u32_or_nat _ _ (by omega) (by omega), or_words (c * 256 + d) (a * 16777216 + b * 65536) (by omega) h2, ← Nat.add_assoc]

theorem rev4_lt (x : Nat) (h : x < 4294967296) : rev4 x < 4294967296 := by unfold rev4; omega

end Go.Proofs.Ytcjakgogdbfagaa
namespace Go.Proofs.Ytcjakgogdbfagaa
open Go.RowKit

theorem Bs.keep {w w' : World} {ao : Option Addr} {bs : List UInt8} (h : Bs w ao bs) (hk : ∀ a v, w.cell? a = some v → w'.cell? a = some v) : Bs w' ao bs := by
  rcases h with h | ⟨b, off, h, hc⟩
  · exact .inl h
  · exact .inr ⟨b, off, h, fun j hj => hk _ _ (hc j hj)⟩
theorem below_keep {w w' : World} (hb : Below w.heap.size w w') : ∀ a v, w.cell? a = some v → w'.cell? a = some v := fun a v h => by
  rw [hb.cell (p := a) (World.block_lt_of_cell? _ _ h)]; exact h
theorem alloc_keep (w : World) (o : Obj) : ∀ a v, w.cell? a = some v → (w.alloc o).cell? a = some v :=
  below_keep ((Below.refl _ w).alloc (Nat.le_refl _) o)

/-- The sum of bytes. -/
def crc (bs : List UInt8) : Nat := 4294967295 - crcFold 4294967295 bs
theorem crc_lt (bs : List UInt8) : crc bs < 4294967296 := by unfold crc; omega
theorem crcParts_one (bs : List UInt8) : 4294967295 - crcParts 4294967295 [bs] = crc bs := rfl
theorem crcParts_two (a b : List UInt8) : 4294967295 - crcParts 4294967295 [a, b] = crc (a ++ b) := by
  simp only [crcParts, crc, crcFold, List.foldl_cons, List.foldl_nil, List.foldl_append]
/-- A frame's bytes. -/
def frameOf (bs : List UInt8) : List UInt8 := be bs.length 4 ++ be (rev4 (crc (be bs.length 4 ++ bs))) 4 ++ bs

theorem new_cell (w : World) (cs : Array Value) (t : TypeId) (k : Nat) (v : Value) (h : cs[k]? = some v) : (w.alloc (.cells cs t)).cell? ⟨w.heap.size, k, none⟩ = some v := by
  rw [cell_of_row _ _ k cs t (0, 0) (heap_alloc_new w _)]
  exact h
end Go.Proofs.Ytcjakgogdbfagaa
namespace Go.Proofs.Ytcjakgogdbfagaa
open Go.RowKit
theorem hidb {p : Prop} (h : p) : Hid p := h
abbrev sv (b : Bt) : Value := .string ⟨b.toArray⟩
/-- A node's cells. -/
def Nd.c (x : Nd) : Nat → Value
  | 0 => sv x.k
  | 1 => sv x.v
  | 2 => .int .i64 x.l
  | 3 => .int .i64 x.r
  | _ => .int .i64 x.h
/-- Block g has room for so many nodes; the first n are those that f tells. -/
def NB (w : World) (g n cap : Nat) (f : Nat → Nd) : Prop := ∃ cur : Array Value, w.heap[g]? = some (.cells cur 96 (0, 0)) ∧ cur.size = cap * 5 ∧ n ≤ cap ∧ ∀ p < n, ∀ k < 5, cur[p * 5 + k]? = some ((f p).c k)
/-- The tree's box at tb, its nodes at g. -/
structure TS (tb g n cap root : Nat) (f : Nat → Nd) (w : World) : Prop where
  box : w.heap[tb]? = some (.cells #[.slice (some ⟨g, 0, none⟩) n cap, .int .i64 root] 90 (0, 0))
  nb : NB w g n cap f
  ne : tb ≠ g
  cm : cap ≤ maxLen
  lt : n ≤ 4398046511104
theorem heap_ltb {w : World} {k : Nat} {o : Obj} (h : w.heap[k]? = some o) : k < w.heap.size := (Array.getElem?_eq_some_iff.1 h).1
section
variable {tb g n cap root : Nat} {f : Nat → Nd} {w : World}
theorem TS.c0 (h : TS tb g n cap root f w) : w.cell? ⟨tb, 0, none⟩ = some (.slice (some ⟨g, 0, none⟩) n cap) := Lib.cell_of_heap h.box 0
theorem TS.c1 (h : TS tb g n cap root f w) : w.cell? ⟨tb, 1, none⟩ = some (.int .i64 root) := Lib.cell_of_heap h.box 1
theorem TS.k (h : TS tb g n cap root f w) {p : Nat} (hp : p < n) : w.cell? ⟨g, p * 5, none⟩ = some (sv (f p).k) := by
  obtain ⟨cur, h1, _, _, h2⟩ := h.nb; rw [Lib.cell_of_heap h1]; exact h2 p hp 0 (by omega)
theorem TS.v (h : TS tb g n cap root f w) {p : Nat} (hp : p < n) : w.cell? ⟨g, p * 5 + 1, none⟩ = some (sv (f p).v) := by
  obtain ⟨cur, h1, _, _, h2⟩ := h.nb; rw [Lib.cell_of_heap h1]; exact h2 p hp 1 (by omega)
theorem TS.l (h : TS tb g n cap root f w) {p : Nat} (hp : p < n) : w.cell? ⟨g, p * 5 + 2, none⟩ = some (.int .i64 (f p).l) := by
  obtain ⟨cur, h1, _, _, h2⟩ := h.nb; rw [Lib.cell_of_heap h1]; exact h2 p hp 2 (by omega)
theorem TS.r (h : TS tb g n cap root f w) {p : Nat} (hp : p < n) : w.cell? ⟨g, p * 5 + 3, none⟩ = some (.int .i64 (f p).r) := by
  obtain ⟨cur, h1, _, _, h2⟩ := h.nb; rw [Lib.cell_of_heap h1]; exact h2 p hp 3 (by omega)
theorem TS.h (h : TS tb g n cap root f w) {p : Nat} (hp : p < n) : w.cell? ⟨g, p * 5 + 4, none⟩ = some (.int .i64 (f p).h) := by
  obtain ⟨cur, h1, _, _, h2⟩ := h.nb; rw [Lib.cell_of_heap h1]; exact h2 p hp 4 (by omega)
theorem TS.fr (h : TS tb g n cap root f w) (j : Nat) : w.frozen? ⟨g, j, none⟩ = false := by obtain ⟨cur, h1, _⟩ := h.nb; exact Lib.frozen_of_heap h1 j
theorem TS.frb (h : TS tb g n cap root f w) (j : Nat) : w.frozen? ⟨tb, j, none⟩ = false := Lib.frozen_of_heap h.box j
theorem TS.ltb (h : TS tb g n cap root f w) : tb < w.heap.size := heap_ltb h.box
theorem TS.ltg (h : TS tb g n cap root f w) : g < w.heap.size := by obtain ⟨cur, h1, _⟩ := h.nb; exact heap_ltb h1
theorem TS.keep {w' : World} (h : TS tb g n cap root f w) (e1 : w'.heap[tb]? = w.heap[tb]?) (e2 : w'.heap[g]? = w.heap[g]?) : TS tb g n cap root f w' := by
  obtain ⟨h1, ⟨cur, h2, h3⟩, h4, h5, h6⟩ := h
  exact ⟨e1.trans h1, ⟨cur, e2.trans h2, h3⟩, h4, h5, h6⟩
theorem TS.drewN (h : TS tb g n cap root f w) (k : Nat) : TS tb g n cap root f (w.drewN k) := h.keep rfl rfl
theorem TS.congr {f' : Nat → Nd} (h : TS tb g n cap root f w) (e : ∀ p < n, f' p = f p) : TS tb g n cap root f' w := by
  obtain ⟨h1, ⟨cur, h2, h3, h3b, h3c⟩, h4, h5, h6⟩ := h
  exact ⟨h1, ⟨cur, h2, h3, h3b, fun p hp k hk => by rw [e p hp]; exact h3c p hp k hk⟩, h4, h5, h6⟩
end
/-- On which side a key stands. -/
def sideN (a b : Bt) : Nat := if Op.bytesLess a b = true then 0 else 1
theorem sideN_lt {a b : Bt} (h : klt a b) : sideN a b = 0 := if_pos h
theorem sideN_ge {a b : Bt} (h : ¬ klt a b) : sideN a b = 1 := if_neg h
theorem side_any (tb g n cap root : Nat) (f : Nat → Nd) (w : World) (at_ : Nat) (key : Bt) (h : TS tb g n cap root f w) (ha : at_ < n) :
    Calls Try.prog 70 #[.pointer (some ⟨tb, 0, none⟩), .int .i64 at_, sv key] w fun e w' => e = .returned (.int .i64 (sideN key (f at_).k)) ∧ w' = w := by
  have c0 := h.c0
  have ck := h.k ha
  have hl := h.lt
  clear h
  unfold sideN
  generalize (f at_).k = kk at *
  cases hb : Op.bytesLess key kk <;>
  · go_enter Try.func70, Try.ntmps70
    go_wp2_with fail
    go_ret
    exact ⟨rfl, rfl⟩
theorem count_any (tb g n cap root : Nat) (f : Nat → Nd) (w : World) (h : TS tb g n cap root f w) (hn : 0 < n) :
    Calls Try.prog 34 #[.pointer (some ⟨tb, 0, none⟩)] w fun e w' => e = .returned (.int .i64 ((n - 1 : Nat) : Int)) ∧ w' = w := by
  have c0 := h.c0
  have hl := h.lt
  clear h
  obtain ⟨k, rfl⟩ : ∃ k, n = k + 1 := ⟨n - 1, by omega⟩
  go_enter Try.func34, Try.ntmps34
  go_wp2_with fail
  go_ret
  refine ⟨?_, rfl⟩
  rw [Nat.add_sub_cancel]; rfl
theorem Tr.top_lt {T : Tr} {n : Nat} (hn : 0 < n) (hm : ∀ p ∈ T.pl, p < n) : T.top < n := by
  cases T with
  | e => exact hn
  | n l p r => exact hm p (by simp [Tr.pl])
/-- A search goes on in this tree. -/
def Srch (tb g n cap root : Nat) (f : Nat → Nd) (w : World) (F : Tr → Nat) (R : Nat) (k at_ : Nat) (wr : World) : Prop := ∃ S : Tr, Lk f S ∧ (∀ p ∈ S.pl, p < n) ∧ F S = R ∧ S.pl.length = k ∧ S.top = at_ ∧ TS tb g n cap root f wr ∧ ∃ m, wr = w.drewN m
set_option maxRecDepth 100000 in
set_option maxHeartbeats 1000000 in
theorem find_any (tb g n cap root : Nat) (f : Nat → Nd) (T : Tr) (w : World) (key : Bt) (h : TS tb g n cap root f w) (hT : Lk f T) (hr : root = T.top) (hm : ∀ p ∈ T.pl, p < n) :
    Calls Try.prog 54 #[.pointer (some ⟨tb, 0, none⟩), sv key] w fun e w' => e = .returned (.int .i64 (T.find f key : Nat)) ∧ ∃ m, w' = w.drewN m := by
  have c1 := h.c1
  have hl := h.lt
  obtain ⟨R, hR⟩ : ∃ R, R = T.find f key := ⟨_, rfl⟩
  rw [← hR]
  have H0 : Hid (Srch tb g n cap root f w (fun S => S.find f key) R T.pl.length root w) := hidb ⟨T, hT, hm, hR.symm, rfl, hr.symm, h, 0, rfl⟩
  clear h hT hm hR hr
  go_enter Try.func54, Try.ntmps54
  go_wp2_with fail
  go_loopg [5] T.pl.length (fun k v wr => ∃ at_ : Nat, v = .int .i64 at_ ∧ Hid (Srch tb g n cap root f w (fun S => S.find f key) R k at_ wr))
  case atStart => exact ⟨root, rfl, H0⟩
  case round =>
    obtain ⟨at_, rfl, HS⟩ := hrel
    obtain ⟨S, k1, k2, k3, k4, k5, k6, m, k7⟩ := HS.out
    have c0 := k6.c0
    clear HS H0 c1
    cases S with
    | e =>
      have e0 : at_ = 0 := k5.symm
      subst e0
      have e1 : R = 0 := k3.symm
      subst e1
      have HE := hidb k7
      clear k1 k2 k3 k4 k5 k6 k7
      go_wp2_with fail
      go_ret
      exact ⟨rfl, m, HE.out⟩
    | n l p r =>
      have e0 : at_ = p := k5.symm
      subst e0
      have hp := k2 at_ (by simp [Tr.pl])
      have hp0 : at_ ≠ 0 := k1.2.2.2.2.1
      have ck := k6.k hp
      have cl := k6.l hp
      have cr := k6.r hp
      have hz : ((at_ : Int) == 0) = false := by simpa using hp0
      simp only [Tr.find] at k3
      by_cases e : (f at_).k = key
      · rw [if_pos e] at k3
        subst k3
        have HE := hidb k7
        clear k1 k2 k4 k5 k6 k7
        generalize (f at_).k = kk at *
        go_wp2_with fail
        go_ret
        exact ⟨rfl, m, HE.out⟩
      · rw [if_neg e] at k3
        have HC := hidb fun M => side_any tb g n cap root f (wr.drewN M) at_ key (k6.drewN M) hp
        have hne : ((f at_).k == key) = false := by simpa using e
        by_cases c : klt key (f at_).k
        · rw [if_pos c] at k3
          rw [sideN_lt c] at HC
          have HN : Hid (∀ M, Srch tb g n cap root f w (fun S => S.find f key) R l.pl.length (f at_).l (wr.drewN M)) := hidb fun M => ⟨l, k1.1, fun p hp => k2 p (by simp [Tr.pl, hp]), k3, rfl, k1.2.2.1.symm, k6.drewN M, m + M, by rw [k7, World.drewN_drewN]⟩
          have HL : Hid (l.pl.length < gk) := hidb (by rw [← k4]; simp [Tr.pl])
          clear k1 k2 k4 k5 k6 k7 k3 c e
          generalize (f at_).l = kl at *
          generalize (f at_).k = kk at *
          go_wp2_with fail
          go_quiet ((go_at_call 70; exact Calls.quiet_of_same (HC.out _)))
          go_wp2_with fail
          go_roundg l.pl.length
          case measure => exact HL.out
          case rel => exact ⟨kl, rfl, HN.out _⟩
        · rw [if_neg c] at k3
          rw [sideN_ge c] at HC
          have HN : Hid (∀ M, Srch tb g n cap root f w (fun S => S.find f key) R r.pl.length (f at_).r (wr.drewN M)) := hidb fun M => ⟨r, k1.2.1, fun p hp => k2 p (by simp [Tr.pl, hp]), k3, rfl, k1.2.2.2.1.symm, k6.drewN M, m + M, by rw [k7, World.drewN_drewN]⟩
          have HL : Hid (r.pl.length < gk) := hidb (by rw [← k4]; simp [Tr.pl]; omega)
          clear k1 k2 k4 k5 k6 k7 k3 c e
          generalize (f at_).r = kl at *
          generalize (f at_).k = kk at *
          go_wp2_with fail
          go_quiet ((go_at_call 70; exact Calls.quiet_of_same (HC.out _)))
          go_wp2_with fail
          go_roundg r.pl.length
          case measure => exact HL.out
          case rel => exact ⟨kl, rfl, HN.out _⟩
end Go.Proofs.Ytcjakgogdbfagaa
