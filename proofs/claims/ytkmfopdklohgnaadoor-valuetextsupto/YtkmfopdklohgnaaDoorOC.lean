/- What op's reckonings of numbers come to. -/
import Derived.Test.YtkmfopdklohgnaaDoorChecked
import Derived.WalkKit
import Derived.WalkSpells
import Derived.WalkLawsBesides
import Derived.BigQuiet
import Derived.Deep.QuietTactic
import Derived.Deep.RegionWith
import Derived.Laws.BitsLemmas
import Derived.Handy
namespace Go.Proofs.YtkmfopdklohgnaaDoor
open Go.RowKit

theorem and63 (n : Int) : bits .and .i64 n 63 = n % 64 := by
  have h63 : (BitVec.ofInt 64 63).toNat = 2 ^ 6 - 1 := by decide
  have key : (BitVec.ofInt 64 n &&& BitVec.ofInt 64 63).toNat = (n % ((2 ^ 64 : Nat) : Int)).toNat % 2 ^ 6 := by
    rw [BitVec.toNat_and, BitVec.toNat_ofInt, h63, Nat.and_two_pow_sub_one_eq_mod]
  show IntKind.i64.wrap ((BitVec.ofInt 64 n &&& BitVec.ofInt 64 63).toNat : Nat) = n % 64
  rw [key, IntKind.wrap_i64]
  omega
/-- What calculate answers. -/
def calcV (n a b : Int) : Int :=
  if n = 11 then wrap64 (a + b) else if n = 12 then wrap64 (a + wrap64 (-b)) else if n = 13 then wrap64 (a * b) else if n = 14 then wrap64 (a.tdiv b) else if n = 15 then a.tmod b else
  if n = 17 then bits .and .i64 a b else if n = 18 then bits .or .i64 a b else if n = 19 then bits .xor .i64 a b else if n = 21 then wrap64 (a * 2 ^ (b % 64).toNat) else a / 2 ^ (b % 64).toNat
def CalcOp (n b : Int) : Prop := n = 11 ∨ n = 12 ∨ n = 13 ∨ (n = 14 ∧ b ≠ 0) ∨ (n = 15 ∧ b ≠ 0) ∨ n = 17 ∨ n = 18 ∨ n = 19 ∨ n = 21 ∨ n = 22
/-- What holds answers. -/
def holdsV (n c : Int) : Bool := if n = 23 ∨ n = 36 then c == 0 else if n = 25 ∨ n = 37 then decide (c < 0) else if n = 24 then c != 0 else if n = 26 then decide (c ≤ 0) else if n = 27 then decide (0 < c) else decide (0 ≤ c)
def HoldOp (n : Int) : Prop := n = 23 ∨ n = 24 ∨ n = 25 ∨ n = 26 ∨ n = 27 ∨ n = 28 ∨ n = 36 ∨ n = 37
theorem hidC {p : Prop} (h : p) : Hid p := h
/-- A number's eight bytes, the highest first. -/
def packV (n : Int) : List UInt8 := [n / 72057594037927936 % 256, n / 281474976710656 % 256, n / 1099511627776 % 256, n / 4294967296 % 256, n / 16777216 % 256, n / 65536 % 256, n / 256 % 256, n % 256].map fun x => UInt8.ofNat x.toNat
theorem nums_bytes (l : List Int) : strOfNums l = ⟨(l.map fun x => UInt8.ofNat x.toNat).toArray⟩ := by
  unfold strOfNums
  congr 2
theorem conv8 (w : World) (x0 x1 x2 x3 x4 x5 x6 x7 : Int) (t : TypeId) :
    (convert 59 9 (.slice (some ⟨w.heap.size, 0, none⟩) 8 8)).run Tryd.prog (w.alloc (.cells #[.int .u8 x0, .int .u8 x1, .int .u8 x2, .int .u8 x3, .int .u8 x4, .int .u8 x5, .int .u8 x6, .int .u8 x7] t)) = .ok (.string (strOfNums [x0, x1, x2, x3, x4, x5, x6, x7])) (w.alloc (.cells #[.int .u8 x0, .int .u8 x1, .int .u8 x2, .int .u8 x3, .int .u8 x4, .int .u8 x5, .int .u8 x6, .int .u8 x7] t)) := by
  have h := heap_alloc_new w (.cells #[.int .u8 x0, .int .u8 x1, .int .u8 x2, .int .u8 x3, .int .u8 x4, .int .u8 x5, .int .u8 x6, .int .u8 x7] t)
  rw [run_convert_bytes_arg _ 59 5 Tryd.underlying59 Tryd.underlying5 w.heap.size 0 8 8 [x0, x1, x2, x3, x4, x5, x6, x7] rfl (fun i hi => ?_) 9 Tryd.underlying9]
  rw [cell_of_row _ _ (0 + i) _ _ (0, 0) h]
  have : i = 0 ∨ i = 1 ∨ i = 2 ∨ i = 3 ∨ i = 4 ∨ i = 5 ∨ i = 6 ∨ i = 7 := by omega
  rcases this with rfl | rfl | rfl | rfl | rfl | rfl | rfl | rfl <;> rfl
theorem byte64 (x : UInt8) : wrap64 (x.toNat : Int) = (x.toNat : Int) := by
  have := x.toNat_lt
  unfold wrap64
  omega
/-- What unpack answers. -/
def unpackV (s : List UInt8) : Int := s.foldl (fun n x => bits .or .i64 (wrap64 (n * 256)) (x.toNat : Int)) 0
theorem unpack_snoc (s : List UInt8) (k : Nat) (h : k < s.length) : unpackV (s.take (k + 1)) = bits .or .i64 (wrap64 (unpackV (s.take k) * 256)) (s[k].toNat : Int) := by
  rw [List.take_succ_eq_append_getElem h]
  simp only [unpackV, List.foldl_append, List.foldl_cons, List.foldl_nil]
end Go.Proofs.YtkmfopdklohgnaaDoor
