/- The document's Right, All, Fits; layer 2's helper 'Same'. The document's Digits. The document's Line. value.Print. Slices of values in new blocks. -/
import Derived.Test.YtbjipcpoiiegkaaGreatDoorCR
import Derived.Test.YtbjipcpoiiegkaaGreatDoorWF
import Derived.Lib.ItoaNum
import Derived.Test.YtbjipcpoiiegkaaGreatDoorVA
import Derived.OwnWalk
namespace Go.Proofs.YtbjipcpoiiegkaaGreatDoor
open Go.RowKit
attribute [local go_sem high] eq_val eq_val0
end Go.Proofs.YtbjipcpoiiegkaaGreatDoor
namespace Go.Proofs.YtbjipcpoiiegkaaGreatDoor
open Go.RowKit
/-- One byte in a new block, as text. -/
theorem str_one (w : World) (x : Int) (c : UInt8) (h : x = (c.toNat : Int)) : (convert 73 9 (.slice (some ⟨w.heap.size, 0, none⟩) 1 1)).run Tryz.prog (w.alloc (.cells #[.int .u8 x] 5)) = .ok (.string ⟨#[c]⟩) (w.alloc (.cells #[.int .u8 x] 5)) := by
  subst h
  refine run_str (bs := [c]) (.inr ⟨w.heap.size, 0, rfl, fun j hj => ?_⟩) 1
  obtain rfl : j = 0 := by simp at hj; omega
  rw [Lib.cell_of_heap (heap_alloc_new w _)]
  rfl
theorem digits_step (k : Nat) (h : 9 < k) : Lib.decDigits k = Lib.decDigits (k / 10) ++ [UInt8.ofNat (48 + k % 10)] := by
  rw [Lib.decDigits, dif_neg (by omega)]
theorem digits_last (k : Nat) (h : ¬ 9 < k) : Lib.decDigits k = [UInt8.ofNat (48 + k)] := by
  rw [Lib.decDigits, dif_pos (by omega)]
theorem digits_len : ∀ (k u : Nat), 1 ≤ k → u < 10 ^ k → (Lib.decDigits u).length ≤ k
  | k, u, h1, h => by
    rw [Lib.decDigits]
    split
    · simpa using h1
    · rename_i h2
      cases k with
      | zero => omega
      | succ k =>
        have : 1 ≤ k := by
          rcases k with _ | k
          · simp at h; omega
          · omega
        have := digits_len k (u / 10) this (by rw [Nat.pow_succ] at h; omega)
        simp only [List.length_append, List.length_singleton]
        omega
theorem ba_cons (c : UInt8) (t : List UInt8) : (⟨#[c]⟩ : ByteArray) ++ (⟨t.toArray⟩ : ByteArray) = ⟨(c :: t).toArray⟩ := by
  apply ByteArray.ext
  simp
set_option maxRecDepth 100000 in
set_option maxHeartbeats 1000000 in
theorem rdigits_any (n : Int) (h0 : -9223372036854775808 ≤ n) (h1 : n ≤ 9223372036854775807) (w : World) : Calls Tryz.prog 37 #[.int .i64 n] w fun e w' => e = .returned (.string ⟨(Lib.itoa n).toArray⟩) ∧ Below w.heap.size w w' := by
  obtain ⟨u, hu⟩ : ∃ u, u = n.natAbs := ⟨_, rfl⟩
  have hstart : n < 0 → IntKind.u64.wrap (-IntKind.u64.wrap n) = u := fun h => by rw [IntKind.wrap_u64, IntKind.wrap_u64]; omega
  have hstart' : ¬ n < 0 → IntKind.u64.wrap n = u := fun h => by rw [IntKind.wrap_u64]; omega
  have hI : Hid (Lib.itoa n = if n < 0 then 45 :: Lib.decDigits u else Lib.decDigits u) := hidV (by
    unfold Lib.itoa
    split
    · rw [hu]
    · rw [hu, show n.natAbs = n.toNat by omega])
  have hu64 : u < 18446744073709551616 := by omega
  have hul : (Lib.decDigits u).length ≤ 20 := digits_len 20 u (by decide) (by omega)
  by_cases hneg : n < 0
  · have hs := hstart hneg
    clear hstart hstart'
    go_enter Tryz.func37, Tryz.ntmps37
    go_wp2
    go_loopw [3, 4] (fun x s wr => ∃ (k : Nat) (t : List UInt8), k ≤ u ∧ x = .int .u64 k ∧ s = .string ⟨t.toArray⟩ ∧ Hid (Lib.decDigits k ++ t = Lib.decDigits u) ∧ Below w.heap.size w wr) (fun u _ _ => (intOf u).toNat)
    case atStart => exact ⟨u, [], Nat.le_refl _, by first | rw [hs] | rw [hu], rfl, hidV (by simp), Below.refl _ _⟩
    case round =>
      obtain ⟨k, t, hk, rfl, rfl, ht, hb⟩ := hrel
      have htl : t.length ≤ 20 := by
        have := congrArg List.length ht.out
        rw [List.length_append] at this
        omega
      by_cases h9 : 9 < k
      · have hc := str_one wr (48 + (k : Int) % 10) (UInt8.ofNat (48 + k % 10)) (by rw [UInt8.toNat_ofNat']; omega)
        have hT : Hid (Lib.decDigits (k / 10) ++ UInt8.ofNat (48 + k % 10) :: t = Lib.decDigits u) := hidV (by rw [← ht.out, digits_step k h9]; simp)
        generalize UInt8.ofNat (48 + k % 10) = cc at *
        go_wp2
        rw [ba_cons]
        exact ⟨⟨k / 10, cc :: t, by omega, by simp, rfl, hT, hb.alloc hb.size _⟩, by simp [intOf]; omega⟩
      · have hc := str_one wr (48 + (k : Int)) (UInt8.ofNat (48 + k)) (by rw [UInt8.toNat_ofNat']; omega)
        have hT : Hid (UInt8.ofNat (48 + k) :: t = Lib.decDigits u) := hidV (by rw [← ht.out, digits_last k h9]; simp)
        generalize UInt8.ofNat (48 + k) = cc at *
        go_wp2
        go_ret
        refine ⟨?_, hb.alloc hb.size _⟩
        rw [ba_cons, ba_cons, hT.out, hI.out, if_pos hneg]
        rfl
  · have hs := hstart' hneg
    clear hstart hstart'
    go_enter Tryz.func37, Tryz.ntmps37
    go_wp2
    go_loopw [3, 4] (fun x s wr => ∃ (k : Nat) (t : List UInt8), k ≤ u ∧ x = .int .u64 k ∧ s = .string ⟨t.toArray⟩ ∧ Hid (Lib.decDigits k ++ t = Lib.decDigits u) ∧ Below w.heap.size w wr) (fun u _ _ => (intOf u).toNat)
    case atStart => exact ⟨u, [], Nat.le_refl _, by first | rw [hs] | rw [hu], rfl, hidV (by simp), Below.refl _ _⟩
    case round =>
      obtain ⟨k, t, hk, rfl, rfl, ht, hb⟩ := hrel
      have htl : t.length ≤ 20 := by
        have := congrArg List.length ht.out
        rw [List.length_append] at this
        omega
      by_cases h9 : 9 < k
      · have hc := str_one wr (48 + (k : Int) % 10) (UInt8.ofNat (48 + k % 10)) (by rw [UInt8.toNat_ofNat']; omega)
        have hT : Hid (Lib.decDigits (k / 10) ++ UInt8.ofNat (48 + k % 10) :: t = Lib.decDigits u) := hidV (by rw [← ht.out, digits_step k h9]; simp)
        generalize UInt8.ofNat (48 + k % 10) = cc at *
        go_wp2
        rw [ba_cons]
        exact ⟨⟨k / 10, cc :: t, by omega, by simp, rfl, hT, hb.alloc hb.size _⟩, by simp [intOf]; omega⟩
      · have hc := str_one wr (48 + (k : Int)) (UInt8.ofNat (48 + k)) (by rw [UInt8.toNat_ofNat']; omega)
        have hT : Hid (UInt8.ofNat (48 + k) :: t = Lib.decDigits u) := hidV (by rw [← ht.out, digits_last k h9]; simp)
        generalize UInt8.ofNat (48 + k) = cc at *
        go_wp2
        go_ret
        refine ⟨?_, hb.alloc hb.size _⟩
        rw [ba_cons, hT.out, hI.out, if_neg (by omega)]
        rfl
theorem digit_at2 (i : Nat) (h : i < 16) : (⟨#[48, 49, 50, 51, 52, 53, 54, 55, 56, 57, 97, 98, 99, 100, 101, 102]⟩ : ByteArray)[i]'h = [(48 : UInt8), 49, 50, 51, 52, 53, 54, 55, 56, 57, 97, 98, 99, 100, 101, 102].getD i 0 := by
  have : ∀ j : Fin 16, (⟨#[48, 49, 50, 51, 52, 53, 54, 55, 56, 57, 97, 98, 99, 100, 101, 102]⟩ : ByteArray)[j.1]'j.2 = [(48 : UInt8), 49, 50, 51, 52, 53, 54, 55, 56, 57, 97, 98, 99, 100, 101, 102].getD j.1 0 := by decide
  exact this ⟨i, h⟩
end Go.Proofs.YtbjipcpoiiegkaaGreatDoor
namespace Go.Proofs.YtbjipcpoiiegkaaGreatDoor
open Go.RowKit
/-- An instruction's line; none, if there is no such operation, or it takes no number and has one. -/
def lineS (x : Int × Int) : List UInt8 := if nameT x.1 = [] then [] else if takesT x.1 ≠ 0 then nameT x.1 ++ 32 :: Lib.itoa x.2 else if x.2 ≠ 0 then [] else nameT x.1
theorem ba_three' (a b : List UInt8) : (⟨a.toArray⟩ : ByteArray) ++ ⟨#[32]⟩ ++ ⟨b.toArray⟩ = ⟨(a ++ 32 :: b).toArray⟩ := by
  apply ByteArray.ext
  simp
theorem names_len : ∀ k : Fin 54, (nameTab.getD k.1 []).length ≤ 20 := by decide +kernel
theorem nameT_len (n : Int) : (nameT n).length ≤ 20 := by
  unfold nameT rowOf
  split
  · have := names_len ⟨n.toNat, by omega⟩
    exact this
  · simp
theorem itoa_le (n : Int) (h0 : -9223372036854775808 ≤ n) (h1 : n ≤ 9223372036854775807) : (Lib.itoa n).length ≤ 21 := by
  unfold Lib.itoa
  split
  · have := digits_len 20 n.natAbs (by decide) (by omega)
    simp only [List.length_cons]
    omega
  · have := digits_len 20 n.toNat (by decide) (by omega)
    omega
theorem lineS_len (x : Int × Int) (h0 : -9223372036854775808 ≤ x.2) (h1 : x.2 ≤ 9223372036854775807) : (lineS x).length ≤ 42 := by
  have a := nameT_len x.1
  have b := itoa_le x.2 h0 h1
  unfold lineS
  split
  · simp
  split
  · simp only [List.length_append, List.length_cons]; omega
  split
  · simp
  · omega
set_option maxRecDepth 100000 in
set_option maxHeartbeats 1000000 in
theorem rline_any (o a : Int) (h0 : -9223372036854775808 ≤ a) (h1 : a ≤ 9223372036854775807) (w : World) : Calls Tryz.prog 11 #[.agg #[.int .i64 o, .int .i64 a]] w fun e w' => e = .returned (.string ⟨(lineS (o, a)).toArray⟩) ∧ Below w.heap.size w w' := by
  obtain ⟨W2, hW2⟩ : ∃ W2, W2 = w.alloc (.cells #[.int .i64 o, .int .i64 a] 23) := ⟨_, rfl⟩
  have hb2 : Below w.heap.size w W2 := by rw [hW2]; exact (Below.refl _ w).alloc (Nat.le_refl _) _
  have bA : W2.heap[w.heap.size]? = some (.cells #[.int .i64 o, .int .i64 a] 23 (0, 0)) := by rw [hW2]; exact heap_alloc_new w _
  have box : ∀ W, Below W2.heap.size W2 W → W.cell? ⟨w.heap.size, 0, none⟩ = some (.int .i64 o) ∧ W.cell? ⟨w.heap.size, 1, none⟩ = some (.int .i64 a) := fun W hW => by
    obtain ⟨q0, q1, _, _⟩ := cells2 ((hW.block _ (lt_of_block bA)).trans bA)
    exact ⟨q0, q1⟩
  have lift : ∀ W, Below W2.heap.size W2 W → Below w.heap.size w W := fun W h => hb2.trans (h.mono hb2.size)
  have hN := rname4 o W2
  have hT := rtakes4 o
  have hD := rdigits_any a h0 h1
  have hlen := nameT_len o
  have hlen2 := itoa_le a h0 h1
  have HL : Hid (lineS (o, a) = if nameT o = [] then [] else if takesT o ≠ 0 then nameT o ++ 32 :: Lib.itoa a else if a ≠ 0 then [] else nameT o) := hid rfl
  generalize Lib.itoa a = ds at hD HL hlen2
  by_cases hn : nameT o = []
  · rw [hn] at hN
    have H1 := hid (HL.out.trans (if_pos hn))
    go_enter Tryz.func11, Tryz.ntmps11
    go_wp2_with fail
    rw [← hW2]
    clear hW2
    refine hN.mono ?_
    rintro e w3 ⟨rfl, hb3⟩
    go_wp2_with fail
    go_ret
    exact ⟨by rw [H1.out]; rfl, lift _ hb3⟩
  have q : (nameT o == []) = false := by simp [hn]
  have H1 := hid (HL.out.trans (if_neg hn))
  clear HL
  generalize nameT o = nm at hN H1 q hlen
  by_cases ht : takesT o = 0
  · rw [ht] at hT
    have H2 := hid (H1.out.trans (if_neg (by simp [ht])))
    clear H1
    by_cases ha : a = 0
    · subst ha
      have H3 := hid (H2.out.trans (if_neg (by simp)))
      go_enter Tryz.func11, Tryz.ntmps11
      go_wp2_with fail
      rw [← hW2]
      clear hW2
      refine hN.mono ?_
      rintro e w3 ⟨rfl, hb3⟩
      obtain ⟨p0, p1⟩ := box w3 hb3
      go_wp2_with (go_at_call 36; refine (hT _).mono ?_; rintro e w4 ⟨rfl, hb4'⟩; have hb4 := hb3.trans (hb4'.mono hb3.size); obtain ⟨q0, q1⟩ := box w4 hb4)
      go_ret
      exact ⟨by rw [H3.out]; rfl, lift _ hb4⟩
    · have q2 : (a != 0) = true := by simp [ha]
      have H3 := hid (H2.out.trans (if_pos ha))
      go_enter Tryz.func11, Tryz.ntmps11
      go_wp2_with fail
      rw [← hW2]
      clear hW2
      refine hN.mono ?_
      rintro e w3 ⟨rfl, hb3⟩
      obtain ⟨p0, p1⟩ := box w3 hb3
      go_wp2_with (go_at_call 36; refine (hT _).mono ?_; rintro e w4 ⟨rfl, hb4'⟩; have hb4 := hb3.trans (hb4'.mono hb3.size); obtain ⟨q0, q1⟩ := box w4 hb4)
      go_ret
      exact ⟨by rw [H3.out]; rfl, lift _ hb4⟩
  · have q2 : (takesT o != 0) = true := by simp [ht]
    have H2 := hid (H1.out.trans (if_pos ht))
    clear H1
    generalize takesT o = tk at hT q2
    go_enter Tryz.func11, Tryz.ntmps11
    go_wp2_with fail
    rw [← hW2]
    clear hW2
    refine hN.mono ?_
    rintro e w3 ⟨rfl, hb3⟩
    obtain ⟨p0, p1⟩ := box w3 hb3
    go_wp2_with (first | (go_at_call 36; refine (hT _).mono ?_; rintro e w4 ⟨rfl, hb4'⟩; have hb4 := hb3.trans (hb4'.mono hb3.size); obtain ⟨q0, q1⟩ := box w4 hb4) | (go_at_call 37; refine (hD _).mono ?_; rintro e w5 ⟨rfl, hb5'⟩; have hb5 := hb4.trans (hb5'.mono hb4.size)))
    go_ret
    refine ⟨?_, lift _ hb5⟩
    rw [H2.out, ba_three']
    rfl
end Go.Proofs.YtbjipcpoiiegkaaGreatDoor
namespace Go.Proofs.YtbjipcpoiiegkaaGreatDoor
open Go.RowKit Go.Shelf
attribute [local go_sem high] eq_val eq_val0
/-- Values that may be printed: their numbers are ints and their bytes are few. -/
def Good (L : List Val) : Prop := ∀ x ∈ L, x.b.length ≤ 1048576 ∧ -9223372036854775808 ≤ x.n ∧ x.n ≤ 9223372036854775807
theorem Good.fair {L : List Val} (h : Good L) : Fair L := fun x hx => Nat.le_trans (h x hx).1 (by omega)
def printList (L : List Val) : List UInt8 := Lib.join (L.map wordOf) [32]
def printOf (L : List Val) : List UInt8 := if L.all Val.right then printList L else []

set_option maxRecDepth 100000 in
set_option maxHeartbeats 1000000 in
theorem print_any (a : Option Addr) (n c : Nat) (L : List Val) (hn : L.length = n) (w : World) (ht : Pow w) (hV : Vs w a L) (hG : Good L) (hl : n ≤ 4398046511104) (hPL : (printList L).length ≤ 140737488355328) : Calls Tryz.prog 33 #[.slice a n c] w fun e w' => e = .returned (.string ⟨(printOf L).toArray⟩) ∧ Below w.heap.size w w' := by
  have hA := allRight_any a n c L hn w hV hG.fair (by omega)
  unfold printOf
  cases hR : L.all Val.right with
  | false =>
    rw [hR] at hA
    go_enter Tryz.func33, Tryz.ntmps33
    go_wp2_with (go_at_call 60; refine hA.mono ?_; rintro e w' ⟨rfl, hb⟩)
    go_ret
    exact ⟨rfl, hb⟩
  | true =>
    rw [hR] at hA
    go_enter Tryz.func33, Tryz.ntmps33
    obtain ⟨i0, hi, hz0, hz1, hz2⟩ := info_parts (show (Tryz.prog.info? 9).map (fun i => (i.zero, i.size, i.bytes)) = some (some (.string ⟨#[]⟩), 1, 16) by kernel_rfl)
    go_wp2_with (first | (go_at_call 60; refine hA.mono ?_; rintro e w1 ⟨rfl, hb1⟩) | (at_make; refine wpList_make_full _ rfl _ _ 37 rfl w1.heap.size 9 i0 (.string ⟨#[]⟩) 1 Tryz.underlying37 hi hz0 hz1 _ _ _ _ n rfl rfl rfl rfl ?b1 ?b2 ?b3 ?_))
    case b1 => rw [hz2]; omega
    case b2 => unfold maxLen; omega
    case b3 => exact Nat.le_refl _
    intro w2 ho1 hg1
    obtain ⟨cur0, hcur0, hh0⟩ : ∃ cur : List Value, cur.length = n ∧ w2.heap[w1.heap.size]? = some (.cells cur.toArray 9 (0, 0)) := by
      rcases ho1.2 with ⟨h, _⟩ | ⟨g, cap', cur, h, _, hg, _, _, hsz, _⟩
      · cases h
      · cases h
        exact ⟨cur.toList, by simpa using hsz, by simpa using hg⟩
    have hb2 : Below w.heap.size w w2 := hb1.trans (((Below.refl _ w1).grown hg1 (Nat.le_refl _) (fun k h => by cases h)).mono hb1.size)
    have hrw : w.heap.size ≤ w1.heap.size := hb1.size
    generalize w1.heap.size = r at *
    clear ho1 hg1 hA hi hz0 hz1 hz2
    go_wp2
    go_loopw [14] (fun i wr => ∃ (k : Nat) (cur : List Value), k ≤ n ∧ i = .int .i64 k ∧ cur.length = n ∧ wr.heap[r]? = some (.cells cur.toArray 9 (0, 0)) ∧ (∀ j (h : j < L.length), j < k → cur[j]? = some (.string ⟨(wordOf L[j]).toArray⟩)) ∧ Below w.heap.size w wr) (fun i _ => n - (intOf i).toNat)
    case atStart => exact ⟨0, cur0, Nat.zero_le _, rfl, hcur0, hh0, by omega, hb2⟩
    case round =>
      obtain ⟨k, cur, hk, rfl, hcl, hh, hd, hb⟩ := hrel
      have hrl := (Array.getElem?_eq_some_iff.1 hh).1
      by_cases hlt : k < n
      · rcases hV.keep hb with h0 | ⟨b, off, hao, hc⟩
        · subst h0; simp at hn; omega
        · subst hao
          obtain ⟨c0, c1, c2⟩ := hc k (by omega)
          obtain ⟨hx1, hx2, hx3⟩ := hG L[k] (by simp)
          have HT : Hid (∀ (cur' : List Value), cur' = cur.set k (.string ⟨(wordOf L[k]).toArray⟩) → ∀ j (h : j < L.length), j < k + 1 → cur'[j]? = some (.string ⟨(wordOf L[j]).toArray⟩)) := hid fun cur' e j hj hjk => by
            subst e
            rcases Nat.lt_or_ge j k with h1 | h1
            · rw [List.getElem?_set_ne (by omega)]
              exact hd j hj h1
            · obtain rfl : j = k := by omega
              rw [List.getElem?_set_self (by omega)]
          generalize L[k] = x at c0 c1 c2 hx1 hx2 hx3 HT
          have hx' := word_any x hx2 hx3 hx1
          obtain ⟨xt, xn, xb⟩ := x
          simp only [Val.v] at hx'
          clear hc hV hG hd
          generalize wordOf ⟨xt, xn, xb⟩ = W at hx' HT
          go_wp2_with (go_at_call 61; refine (hx' _ ((ht.keep hb).keep ((Below.refl _ wr).alloc (Nat.le_refl _) _))).mono ?_; rintro e w4 ⟨rfl, hb4⟩; have hh4 := (hb4.block r (by simp; omega)).trans ((Below.heap_alloc _ _ r hrl).trans hh); have hc4 : w4.cell? ⟨r, k, none⟩ = some (cur[k]'(by omega)) := (Lib.cell_of_heap hh4 k).trans (by simp [show k < cur.length from (by omega)]); have hf4 := Lib.frozen_of_heap hh4 k)
          refine ⟨⟨k + 1, cur.set k (.string ⟨W.toArray⟩), by omega, by go_num, by simp [hcl], ?_, HT.out _ rfl, ?_⟩, by simp [intOf]; omega⟩
          · simp [World.setCell, Array.getElem?_modify, hh4]
          · exact ((hb.alloc hb.size _).trans (hb4.mono (by have := hb.size; simp; omega))).setCell (p := ⟨r, k, none⟩) hrw _
      · have hE : Hid (printList L = Lib.join ((L.map fun x => (⟨(wordOf x).toArray⟩ : ByteArray)).map (·.data.toList)) (⟨#[32]⟩ : ByteArray).data.toList) := hid (by simp [printList, Function.comp_def])
        have hJ := Tryz.strings_Join r 0 n (L.map fun x => (⟨(wordOf x).toArray⟩ : ByteArray)) ⟨#[32]⟩ wr (by
          intro j x hj
          obtain ⟨hj', rfl⟩ := List.getElem?_eq_some_iff.1 hj
          simp only [List.length_map] at hj'
          rw [Nat.zero_add, Lib.cell_of_heap hh j]
          simpa using hd j hj' (by omega)) hrl (by simp; omega) (by simp; omega) (by rw [← hE.out]; exact hPL)
        rw [List.length_map, hn, ← hE.out] at hJ
        go_wp2_with (go_at_call 59; refine hJ.mono ?_; rintro e w5 ⟨rfl, hb5⟩)
        go_ret
        exact ⟨rfl, hb.trans (hb5.mono hb.size)⟩
end Go.Proofs.YtbjipcpoiiegkaaGreatDoor
namespace Go.Proofs.YtbjipcpoiiegkaaGreatDoor
open Go.RowKit
theorem vsC {w : World} {b : Nat} {cs : Array Value} {t : TypeId} (h : w.heap[b]? = some (.cells cs t (0, 0))) (L : List Val) (hc : ∀ j (hj : j < L.length), cs[j * 3]? = some (.int .i64 L[j].t) ∧ cs[j * 3 + 1]? = some (.int .i64 L[j].n) ∧ cs[j * 3 + 2]? = some (.string ⟨L[j].b.toArray⟩)) : Vs w (some ⟨b, 0, none⟩) L := by
  refine .inr ⟨b, 0, rfl, fun j hj => ?_⟩
  obtain ⟨h0, h1, h2⟩ := hc j hj
  rw [cell_of_row _ _ (0 + j * 3) _ _ (0, 0) h, cell_of_row _ _ (0 + j * 3 + 1) _ _ (0, 0) h, cell_of_row _ _ (0 + j * 3 + 2) _ _ (0, 0) h]
  rw [Nat.zero_add]
  exact ⟨h0, h1, h2⟩
theorem vsOne (w : World) (x : Val) (B : Nat) (hB : w.heap.size = B) : Vs (w.alloc (.cells #[.int .i64 x.t, .int .i64 x.n, .string ⟨x.b.toArray⟩] 54)) (some ⟨B, 0, none⟩) [x] := by
  subst hB
  refine vsC (heap_alloc_new w _) _ fun j hj => ?_
  obtain rfl : j = 0 := by simp at hj; omega
  exact ⟨rfl, rfl, rfl⟩
theorem vsThree (w : World) (x y z : Val) (B : Nat) (hB : w.heap.size = B) : Vs (w.alloc (.cells #[.int .i64 x.t, .int .i64 x.n, .string ⟨x.b.toArray⟩, .int .i64 y.t, .int .i64 y.n, .string ⟨y.b.toArray⟩, .int .i64 z.t, .int .i64 z.n, .string ⟨z.b.toArray⟩] 54)) (some ⟨B, 0, none⟩) [x, y, z] := by
  subst hB
  refine vsC (heap_alloc_new w _) _ fun j hj => ?_
  have : j = 0 ∨ j = 1 ∨ j = 2 := by simp at hj; omega
  rcases this with rfl | rfl | rfl <;> exact ⟨rfl, rfl, rfl⟩
theorem vsFour (w : World) (x y z u : Val) (B : Nat) (hB : w.heap.size = B) : Vs (w.alloc (.cells #[.int .i64 x.t, .int .i64 x.n, .string ⟨x.b.toArray⟩, .int .i64 y.t, .int .i64 y.n, .string ⟨y.b.toArray⟩, .int .i64 z.t, .int .i64 z.n, .string ⟨z.b.toArray⟩, .int .i64 u.t, .int .i64 u.n, .string ⟨u.b.toArray⟩] 54)) (some ⟨B, 0, none⟩) [x, y, z, u] := by
  subst hB
  refine vsC (heap_alloc_new w _) _ fun j hj => ?_
  have : j = 0 ∨ j = 1 ∨ j = 2 ∨ j = 3 := by simp at hj; omega
  rcases this with rfl | rfl | rfl | rfl <;> exact ⟨rfl, rfl, rfl⟩
end Go.Proofs.YtbjipcpoiiegkaaGreatDoor
