/- The document's Name, Takes. What op's reckonings of numbers come to. value.Fits, Compare; op's fault, number, text, truth, answer. -/
import Derived.Test.YtbjipcpoiiegkaaGreatDoorCR
import Derived.Test.YtbjipcpoiiegkaaGreatDoorOT
import Derived.Deep.RegionWith
import Derived.Test.YtbjipcpoiiegkaaGreatDoorChecked
import Derived.WalkKit
import Derived.WalkSpells
import Derived.WalkLawsBesides
import Derived.BigQuiet
import Derived.Deep.QuietTactic
import Derived.Laws.BitsLemmas
import Derived.Handy
import Derived.Test.YtbjipcpoiiegkaaGreatDoorVA
namespace Go.Proofs.YtbjipcpoiiegkaaGreatDoor
open Go.RowKit
theorem cell_name4 (w : World) (k : Nat) (hk : k < 54) : (w.alloc (.cells #[.string ⟨#[]⟩, .string ⟨#[105, 110, 116]⟩, .string ⟨#[99, 111, 110, 115, 116]⟩, .string ⟨#[116, 114, 117, 101]⟩, .string ⟨#[102, 97, 108, 115, 101]⟩, .string ⟨#[100, 114, 111, 112]⟩, .string ⟨#[100, 117, 112]⟩, .string ⟨#[115, 119, 97, 112]⟩, .string ⟨#[111, 118, 101, 114]⟩, .string ⟨#[103, 101, 116]⟩, .string ⟨#[115, 101, 116]⟩, .string ⟨#[97, 100, 100]⟩, .string ⟨#[115, 117, 98]⟩, .string ⟨#[109, 117, 108]⟩, .string ⟨#[100, 105, 118]⟩, .string ⟨#[114, 101, 109]⟩, .string ⟨#[110, 101, 103]⟩, .string ⟨#[97, 110, 100]⟩, .string ⟨#[111, 114]⟩, .string ⟨#[120, 111, 114]⟩, .string ⟨#[105, 110, 118]⟩, .string ⟨#[115, 104, 108]⟩, .string ⟨#[115, 104, 114]⟩, .string ⟨#[101, 113]⟩, .string ⟨#[110, 101]⟩, .string ⟨#[108, 116]⟩, .string ⟨#[108, 101]⟩, .string ⟨#[103, 116]⟩, .string ⟨#[103, 101]⟩, .string ⟨#[98, 111, 116, 104]⟩, .string ⟨#[101, 105, 116, 104, 101, 114]⟩, .string ⟨#[110, 111, 116]⟩, .string ⟨#[108, 101, 110]⟩, .string ⟨#[106, 111, 105, 110]⟩, .string ⟨#[99, 117, 116]⟩, .string ⟨#[97, 116]⟩, .string ⟨#[115, 97, 109, 101]⟩, .string ⟨#[108, 101, 115, 115]⟩, .string ⟨#[112, 97, 99, 107]⟩, .string ⟨#[117, 110, 112, 97, 99, 107]⟩, .string ⟨#[111, 110, 101]⟩, .string ⟨#[108, 111, 97, 100]⟩, .string ⟨#[104, 97, 115]⟩, .string ⟨#[115, 97, 118, 101]⟩, .string ⟨#[119, 105, 112, 101]⟩, .string ⟨#[110, 101, 120, 116]⟩, .string ⟨#[101, 109, 105, 116]⟩, .string ⟨#[97, 98, 111, 114, 116]⟩, .string ⟨#[105, 102]⟩, .string ⟨#[101, 108, 115, 101]⟩, .string ⟨#[101, 110, 100]⟩, .string ⟨#[108, 111, 111, 112]⟩, .string ⟨#[108, 101, 97, 118, 101]⟩, .string ⟨#[99, 97, 108, 108]⟩] 9)).cell? ⟨w.heap.size, k, none⟩ = some (.string ⟨(nameTab.getD k []).toArray⟩) := by
  rw [cell_of_row _ _ k _ _ (0, 0) (heap_alloc_new w _)]
  have e : (#[.string ⟨#[]⟩, .string ⟨#[105, 110, 116]⟩, .string ⟨#[99, 111, 110, 115, 116]⟩, .string ⟨#[116, 114, 117, 101]⟩, .string ⟨#[102, 97, 108, 115, 101]⟩, .string ⟨#[100, 114, 111, 112]⟩, .string ⟨#[100, 117, 112]⟩, .string ⟨#[115, 119, 97, 112]⟩, .string ⟨#[111, 118, 101, 114]⟩, .string ⟨#[103, 101, 116]⟩, .string ⟨#[115, 101, 116]⟩, .string ⟨#[97, 100, 100]⟩, .string ⟨#[115, 117, 98]⟩, .string ⟨#[109, 117, 108]⟩, .string ⟨#[100, 105, 118]⟩, .string ⟨#[114, 101, 109]⟩, .string ⟨#[110, 101, 103]⟩, .string ⟨#[97, 110, 100]⟩, .string ⟨#[111, 114]⟩, .string ⟨#[120, 111, 114]⟩, .string ⟨#[105, 110, 118]⟩, .string ⟨#[115, 104, 108]⟩, .string ⟨#[115, 104, 114]⟩, .string ⟨#[101, 113]⟩, .string ⟨#[110, 101]⟩, .string ⟨#[108, 116]⟩, .string ⟨#[108, 101]⟩, .string ⟨#[103, 116]⟩, .string ⟨#[103, 101]⟩, .string ⟨#[98, 111, 116, 104]⟩, .string ⟨#[101, 105, 116, 104, 101, 114]⟩, .string ⟨#[110, 111, 116]⟩, .string ⟨#[108, 101, 110]⟩, .string ⟨#[106, 111, 105, 110]⟩, .string ⟨#[99, 117, 116]⟩, .string ⟨#[97, 116]⟩, .string ⟨#[115, 97, 109, 101]⟩, .string ⟨#[108, 101, 115, 115]⟩, .string ⟨#[112, 97, 99, 107]⟩, .string ⟨#[117, 110, 112, 97, 99, 107]⟩, .string ⟨#[111, 110, 101]⟩, .string ⟨#[108, 111, 97, 100]⟩, .string ⟨#[104, 97, 115]⟩, .string ⟨#[115, 97, 118, 101]⟩, .string ⟨#[119, 105, 112, 101]⟩, .string ⟨#[110, 101, 120, 116]⟩, .string ⟨#[101, 109, 105, 116]⟩, .string ⟨#[97, 98, 111, 114, 116]⟩, .string ⟨#[105, 102]⟩, .string ⟨#[101, 108, 115, 101]⟩, .string ⟨#[101, 110, 100]⟩, .string ⟨#[108, 111, 111, 112]⟩, .string ⟨#[108, 101, 97, 118, 101]⟩, .string ⟨#[99, 97, 108, 108]⟩] : Array Value) = (nameTab.map fun x => .string ⟨x.toArray⟩).toArray := rfl
  rw [e]
  have hl : k < nameTab.length := hk
  simp [List.getD, hl]
set_option maxHeartbeats 1000000 in
theorem rname4 (n : Int) (w : World) : Calls Tryz.prog 35 #[.int .i64 n] w fun e w' => e = .returned (.string ⟨(nameT n).toArray⟩) ∧ Below w.heap.size w w' := by
  by_cases h1 : n < 1
  · rw [show nameT n = [] from rowOf_none _ _ n (.inl h1)]
    go_enter Tryz.func35, Tryz.ntmps35
    go_wp2
    go_ret
    exact ⟨rfl, (Below.refl _ w).alloc (Nat.le_refl _) _⟩
  by_cases h2 : 53 < n
  · rw [show nameT n = [] from rowOf_none _ _ n (.inr h2)]
    go_enter Tryz.func35, Tryz.ntmps35
    go_wp2
    go_ret
    exact ⟨rfl, (Below.refl _ w).alloc (Nat.le_refl _) _⟩
  obtain ⟨k, rfl⟩ : ∃ k : Nat, n = k := ⟨n.toNat, by omega⟩
  have hk : k < 54 := by omega
  have hc := cell_name4 w k hk
  rw [show nameT k = nameTab.getD k [] from by unfold nameT rowOf; rw [if_pos (by omega)]; simp]
  generalize nameTab.getD k [] = r at *
  go_enter Tryz.func35, Tryz.ntmps35
  go_wp2
  go_ret
  exact ⟨rfl, (Below.refl _ w).alloc (Nat.le_refl _) _⟩
set_option maxHeartbeats 1000000 in
theorem rtakes_of4 (n t : Int) (r : List UInt8) (w : World) (hN : Calls Tryz.prog 35 #[.int .i64 n] w fun e w' => e = .returned (.string ⟨r.toArray⟩) ∧ Below w.heap.size w w') (hr : (r = [105, 110, 116] ∧ t = 1) ∨ (r = [99, 111, 110, 115, 116] ∧ t = 2) ∨ (r = [103, 101, 116] ∧ t = 3) ∨ (r = [115, 101, 116] ∧ t = 3) ∨ (r = [108, 111, 111, 112] ∧ t = 4) ∨ (r = [99, 97, 108, 108] ∧ t = 5) ∨ (t = 0 ∧ r ≠ [105, 110, 116] ∧ r ≠ [99, 111, 110, 115, 116] ∧ r ≠ [103, 101, 116] ∧ r ≠ [115, 101, 116] ∧ r ≠ [108, 111, 111, 112] ∧ r ≠ [99, 97, 108, 108])) : Calls Tryz.prog 36 #[.int .i64 n] w fun e w' => e = .returned (.int .i64 t) ∧ Below w.heap.size w w' := by
  rcases hr with ⟨rfl, rfl⟩ | ⟨rfl, rfl⟩ | ⟨rfl, rfl⟩ | ⟨rfl, rfl⟩ | ⟨rfl, rfl⟩ | ⟨rfl, rfl⟩ | ⟨rfl, h1, h2, h3, h4, h5, h6⟩
  iterate 6
    · as_aux_lemma =>
      go_enter Tryz.func36, Tryz.ntmps36
      go_wp2_with (go_at_call 35; refine hN.mono ?_; rintro e w2 ⟨rfl, hb2⟩)
      go_ret
      exact ⟨rfl, hb2⟩
  · rw [← beq_eq_false_iff_ne] at h1 h2 h3 h4 h5 h6
    go_enter Tryz.func36, Tryz.ntmps36
    go_wp2_with (go_at_call 35; refine hN.mono ?_; rintro e w2 ⟨rfl, hb2⟩)
    go_ret
    exact ⟨rfl, hb2⟩
theorem rtakes4 (n : Int) (w : World) : Calls Tryz.prog 36 #[.int .i64 n] w fun e w' => e = .returned (.int .i64 (takesT n)) ∧ Below w.heap.size w w' := by
  refine rtakes_of4 n _ _ w (rname4 n w) ?_
  by_cases h : n < 1 ∨ 53 < n
  · rw [show takesT n = 0 from rowOf_none _ _ n h, show nameT n = [] from rowOf_none _ _ n h]
    simp
  · obtain ⟨k, rfl⟩ : ∃ k : Nat, n = k := ⟨n.toNat, by omega⟩
    have hk : k < 54 := by omega
    have ht : takesT k = takesTab.getD k 0 := by unfold takesT rowOf; rw [if_pos (by omega)]; simp
    have hm : nameT k = nameTab.getD k [] := by unfold nameT rowOf; rw [if_pos (by omega)]; simp
    rw [ht, hm]
    have H : ∀ k : Fin 54, k.1 = 0 ∨ ((nameTab.getD k.1 [] = [105, 110, 116] ∧ takesTab.getD k.1 0 = 1) ∨ (nameTab.getD k.1 [] = [99, 111, 110, 115, 116] ∧ takesTab.getD k.1 0 = 2) ∨ (nameTab.getD k.1 [] = [103, 101, 116] ∧ takesTab.getD k.1 0 = 3) ∨ (nameTab.getD k.1 [] = [115, 101, 116] ∧ takesTab.getD k.1 0 = 3) ∨ (nameTab.getD k.1 [] = [108, 111, 111, 112] ∧ takesTab.getD k.1 0 = 4) ∨ (nameTab.getD k.1 [] = [99, 97, 108, 108] ∧ takesTab.getD k.1 0 = 5) ∨ (takesTab.getD k.1 0 = 0 ∧ nameTab.getD k.1 [] ≠ [105, 110, 116] ∧ nameTab.getD k.1 [] ≠ [99, 111, 110, 115, 116] ∧ nameTab.getD k.1 [] ≠ [103, 101, 116] ∧ nameTab.getD k.1 [] ≠ [115, 101, 116] ∧ nameTab.getD k.1 [] ≠ [108, 111, 111, 112] ∧ nameTab.getD k.1 [] ≠ [99, 97, 108, 108])) := by decide +kernel
    rcases H ⟨k, hk⟩ with h0 | h0
    · simp only at h0; omega
    · exact h0
theorem takes_same (n : Int) : takesT n = takesN n := by
  unfold takesT rowOf
  by_cases h : 1 ≤ n ∧ n ≤ 53
  · rw [if_pos h]
    have H : ∀ k : Fin 54, takesTab.getD k.1 0 = takesN (k.1 : Int) := by decide +kernel
    have := H ⟨n.toNat, by omega⟩
    simp only at this
    rw [this, show ((n.toNat : Nat) : Int) = n by omega]
  · rw [if_neg h]
    unfold takesN
    rw [if_neg (by omega), if_neg (by omega), if_neg (by omega), if_neg (by omega), if_neg (by omega), if_neg (by omega)]
end Go.Proofs.YtbjipcpoiiegkaaGreatDoor
namespace Go.Proofs.YtbjipcpoiiegkaaGreatDoor
open Go.RowKit

theorem and63 (n : Int) : bits .and .i64 n 63 = n % 64 := by
  have h63 : (BitVec.ofInt 64 63).toNat = 2 ^ 6 - 1 := by decide
  have key : (BitVec.ofInt 64 n &&& BitVec.ofInt 64 63).toNat = (n % ((2 ^ 64 : Nat) : Int)).toNat % 2 ^ 6 := by
    rw [BitVec.toNat_and, BitVec.toNat_ofInt, h63, Nat.and_two_pow_sub_one_eq_mod]
  show IntKind.i64.wrap ((BitVec.ofInt 64 n &&& BitVec.ofInt 64 63).toNat : Nat) = n % 64
  rw [key, IntKind.wrap_i64]
  omega
/-- What calculate answers. -/
def calcV (n a b : Int) : Int :=
  if n = 11 then wrap64 (a + b) else if n = 12 then wrap64 (a + wrap64 (-b)) else if n = 13 then wrap64 (a * b) else if n = 14 then wrap64 (a.tdiv b) else if n = 15 then a.tmod b else
  if n = 17 then bits .and .i64 a b else if n = 18 then bits .or .i64 a b else if n = 19 then bits .xor .i64 a b else if n = 21 then wrap64 (a * 2 ^ (b % 64).toNat) else a / 2 ^ (b % 64).toNat
def CalcOp (n b : Int) : Prop := n = 11 ∨ n = 12 ∨ n = 13 ∨ (n = 14 ∧ b ≠ 0) ∨ (n = 15 ∧ b ≠ 0) ∨ n = 17 ∨ n = 18 ∨ n = 19 ∨ n = 21 ∨ n = 22
/-- What holds answers. -/
def holdsV (n c : Int) : Bool := if n = 23 ∨ n = 36 then c == 0 else if n = 25 ∨ n = 37 then decide (c < 0) else if n = 24 then c != 0 else if n = 26 then decide (c ≤ 0) else if n = 27 then decide (0 < c) else decide (0 ≤ c)
def HoldOp (n : Int) : Prop := n = 23 ∨ n = 24 ∨ n = 25 ∨ n = 26 ∨ n = 27 ∨ n = 28 ∨ n = 36 ∨ n = 37
theorem hidC {p : Prop} (h : p) : Hid p := h
/-- A number's eight bytes, the highest first. -/
def packV (n : Int) : List UInt8 := [n / 72057594037927936 % 256, n / 281474976710656 % 256, n / 1099511627776 % 256, n / 4294967296 % 256, n / 16777216 % 256, n / 65536 % 256, n / 256 % 256, n % 256].map fun x => UInt8.ofNat x.toNat
theorem nums_bytes (l : List Int) : strOfNums l = ⟨(l.map fun x => UInt8.ofNat x.toNat).toArray⟩ := by
  unfold strOfNums
  congr 2
theorem conv8 (w : World) (x0 x1 x2 x3 x4 x5 x6 x7 : Int) (t : TypeId) :
    (convert 73 9 (.slice (some ⟨w.heap.size, 0, none⟩) 8 8)).run Tryz.prog (w.alloc (.cells #[.int .u8 x0, .int .u8 x1, .int .u8 x2, .int .u8 x3, .int .u8 x4, .int .u8 x5, .int .u8 x6, .int .u8 x7] t)) = .ok (.string (strOfNums [x0, x1, x2, x3, x4, x5, x6, x7])) (w.alloc (.cells #[.int .u8 x0, .int .u8 x1, .int .u8 x2, .int .u8 x3, .int .u8 x4, .int .u8 x5, .int .u8 x6, .int .u8 x7] t)) := by
  have h := heap_alloc_new w (.cells #[.int .u8 x0, .int .u8 x1, .int .u8 x2, .int .u8 x3, .int .u8 x4, .int .u8 x5, .int .u8 x6, .int .u8 x7] t)
  rw [run_convert_bytes_arg _ 73 5 Tryz.underlying73 Tryz.underlying5 w.heap.size 0 8 8 [x0, x1, x2, x3, x4, x5, x6, x7] rfl (fun i hi => ?_) 9 Tryz.underlying9]
  rw [cell_of_row _ _ (0 + i) _ _ (0, 0) h]
  have : i = 0 ∨ i = 1 ∨ i = 2 ∨ i = 3 ∨ i = 4 ∨ i = 5 ∨ i = 6 ∨ i = 7 := by omega
  rcases this with rfl | rfl | rfl | rfl | rfl | rfl | rfl | rfl <;> rfl
theorem byte64 (x : UInt8) : wrap64 (x.toNat : Int) = (x.toNat : Int) := by
  have := x.toNat_lt
  unfold wrap64
  omega
/-- What unpack answers. -/
def unpackV (s : List UInt8) : Int := s.foldl (fun n x => bits .or .i64 (wrap64 (n * 256)) (x.toNat : Int)) 0
theorem unpack_snoc (s : List UInt8) (k : Nat) (h : k < s.length) : unpackV (s.take (k + 1)) = bits .or .i64 (wrap64 (unpackV (s.take k) * 256)) (s[k].toNat : Int) := by
  rw [List.take_succ_eq_append_getElem h]
  simp only [unpackV, List.foldl_append, List.foldl_cons, List.foldl_nil]
end Go.Proofs.YtbjipcpoiiegkaaGreatDoor
namespace Go.Proofs.YtbjipcpoiiegkaaGreatDoor
open Go.RowKit
attribute [local go_sem high] eq_val eq_val0

def fitsB (L : List Val) (ts : List Int) : Bool := decide (L.map Val.t = ts) && L.all Val.right
def IntsAt (w : World) (a : Option Addr) (ts : List Int) : Prop := ts = [] ∨ ∃ b off, a = some ⟨b, off, none⟩ ∧ ∀ j (h : j < ts.length), w.cell? ⟨b, off + j, none⟩ = some (.int .i64 ts[j])
theorem IntsAt.keep {w w' : World} {a : Option Addr} {L : List Int} (h : IntsAt w a L) (hb : Below w.heap.size w w') : IntsAt w' a L := by
  rcases h with h | ⟨b, off, e, hc⟩
  · exact .inl h
  · exact .inr ⟨b, off, e, fun j hj => cell_below (hc j hj) hb⟩
theorem below_draws {B : Nat} {a w : World} (h : Below B a w) (m : Nat) : Below B a (w.drewN m) := ⟨h.os, h.tape, h.output, h.size, h.block⟩
theorem map_t_ne {L : List Val} {ts : List Int} {k : Nat} (h1 : k < L.length) (h2 : k < ts.length) (h : L[k].t ≠ ts[k]) : L.map Val.t ≠ ts := by
  intro e
  subst e
  simp at h
set_option maxHeartbeats 1000000 in
theorem fits_any (a : Option Addr) (n c : Nat) (L : List Val) (hn : L.length = n) (b : Option Addr) (m d : Nat) (ts : List Int) (hm : ts.length = m) (w : World) (hV : Vs w a L) (hT : IntsAt w b ts) (hF : Fair L) (hl : n ≤ 140737488351232) :
    Calls Tryz.prog 54 #[.slice a n c, .slice b m d] w fun e w' => e = .returned (.bool (fitsB L ts)) ∧ Below w.heap.size w w' := by
  by_cases hnm : n = m
  · subst hnm
    go_enter Tryz.func54, Tryz.ntmps54
    go_wp2
    go_loopw [14] (fun i wr => ∃ k : Nat, k ≤ n ∧ i = .int .i64 k ∧ (∀ j (h : j < L.length) (h' : j < ts.length), j < k → L[j].t = ts[j]) ∧ Below w.heap.size w wr) (fun i _ => n - (intOf i).toNat)
    case atStart => exact ⟨0, Nat.zero_le _, rfl, by omega, Below.refl _ _⟩
    case round =>
      obtain ⟨k, hk, rfl, hr, hb⟩ := hrel
      by_cases hlt : k < n
      · rcases hV.keep hb with h0 | ⟨b0, off, hao, hc⟩
        · subst h0; simp at hn; omega
        rcases hT.keep hb with h0 | ⟨b1, off1, hao1, hc1⟩
        · subst h0; simp at hm; omega
        subst hao
        subst hao1
        obtain ⟨c0, c1, c2⟩ := hc k (by omega)
        have d0 := hc1 k (by omega)
        have HF : Hid (L[k].t ≠ ts[k] → fitsB L ts = false) := hidV fun h => by
          unfold fitsB
          rw [decide_eq_false (map_t_ne (by omega) (by omega) h), Bool.false_and]
        have HT : Hid (L[k].t = ts[k] → ∀ j (h : j < L.length) (h' : j < ts.length), j < k + 1 → L[j].t = ts[j]) := hidV fun h j hj hj' hjk => by
          rcases Nat.lt_or_ge j k with h1 | h1
          · exact hr j hj hj' h1
          · obtain rfl : j = k := by omega
            exact h
        generalize L[k] = x at c0 c1 c2 HF HT
        generalize ts[k] = y at d0 HF HT
        obtain ⟨xt, xn, xb⟩ := x
        simp only at c0 c1 c2 HF HT
        have hz := hb.size
        have d1 : (wr.alloc (.cells #[.int .i64 xt, .int .i64 xn, .string ⟨xb.toArray⟩] 54)).cell? ⟨b1, off1 + k, none⟩ = some (.int .i64 y) := keep_alloc _ _ _ _ d0
        clear hc hV hF hc1 hT hr d0
        by_cases hxy : xt = y
        · subst hxy
          go_wp2
          go_quiet (fail)
          go_wp2
          refine ⟨⟨k + 1, by omega, by go_num, HT.out trivial, below_draws (hb.alloc hb.size _) _⟩, by simp [intOf]; omega⟩
        · have hne : (xt != y) = true := by simp [hxy]
          go_wp2
          go_quiet (fail)
          go_wp2
          go_ret
          exact ⟨by rw [HF.out hxy]; rfl, below_draws (hb.alloc hb.size _) _⟩
      · have hE : L.map Val.t = ts := by
          apply List.ext_getElem (by simp; omega)
          intro j h1 h2
          simp only [List.length_map] at h1
          rw [List.getElem_map]
          exact hr j h1 h2 (by omega)
        have hA := allRight_any a n c L hn wr (hV.keep hb) hF hl
        have hE2 : Hid (fitsB L ts = L.all Val.right) := hidV (by unfold fitsB; rw [decide_eq_true hE, Bool.true_and])
        clear hE
        go_wp2_with (go_at_call 60; refine hA.mono ?_; rintro e w2 ⟨rfl, hb2⟩)
        go_ret
        exact ⟨by rw [hE2.out]; rfl, hb.trans (hb2.mono hb.size)⟩
  · have hE : fitsB L ts = false := by
      unfold fitsB
      rw [decide_eq_false (fun e => hnm (by rw [← hn, ← hm, ← e]; simp)), Bool.false_and]
    rw [hE]
    have hne : ((n : Int) != (m : Int)) = true := by simp; omega
    go_enter Tryz.func54, Tryz.ntmps54
    go_wp2
    go_ret
    exact ⟨rfl, Below.refl _ _⟩
def lessV (x y : Val) : Bool := if x.t = y.t then (if x.n = y.n then Op.bytesLess x.b y.b else decide (x.n < y.n)) else decide (x.t < y.t)
def cmpV (x y : Val) : Int := if x = y then 0 else if lessV x y then -1 else 1
end Go.Proofs.YtbjipcpoiiegkaaGreatDoor
