/- value.Print. -/
import Derived.Test.YtkmfopdklohgnaaDoorVP
import Derived.OwnWalk
namespace Go.Proofs.YtkmfopdklohgnaaDoor
open Go.RowKit Go.Shelf
attribute [local go_sem high] eq_val eq_val0
/-- Values that may be printed: their numbers are ints and their bytes are few. -/
def Good (L : List Val) : Prop := ∀ x ∈ L, x.b.length ≤ 1048576 ∧ -9223372036854775808 ≤ x.n ∧ x.n ≤ 9223372036854775807
theorem Good.fair {L : List Val} (h : Good L) : Fair L := fun x hx => Nat.le_trans (h x hx).1 (by omega)
def printList (L : List Val) : List UInt8 := Lib.join (L.map wordOf) [32]
def printOf (L : List Val) : List UInt8 := if L.all Val.right then printList L else []

set_option maxRecDepth 100000 in
set_option maxHeartbeats 1000000 in
theorem print_any (a : Option Addr) (n c : Nat) (L : List Val) (hn : L.length = n) (w : World) (ht : Pow w) (hV : Vs w a L) (hG : Good L) (hl : n ≤ 4398046511104) (hPL : (printList L).length ≤ 140737488355328) : Calls Tryd.prog 7 #[.slice a n c] w fun e w' => e = .returned (.string ⟨(printOf L).toArray⟩) ∧ Below w.heap.size w w' := by
  have hA := allRight_any a n c L hn w hV hG.fair (by omega)
  unfold printOf
  cases hR : L.all Val.right with
  | false =>
    rw [hR] at hA
    go_enter Tryd.func7, Tryd.ntmps7
    go_wp2_with (go_at_call 15; refine hA.mono ?_; rintro e w' ⟨rfl, hb⟩)
    go_ret
    exact ⟨rfl, hb⟩
  | true =>
    rw [hR] at hA
    go_enter Tryd.func7, Tryd.ntmps7
    obtain ⟨i0, hi, hz0, hz1, hz2⟩ := info_parts (show (Tryd.prog.info? 9).map (fun i => (i.zero, i.size, i.bytes)) = some (some (.string ⟨#[]⟩), 1, 16) by kernel_rfl)
    go_wp2_with (first | (go_at_call 15; refine hA.mono ?_; rintro e w1 ⟨rfl, hb1⟩) | (at_make; refine wpList_make_full _ rfl _ _ 43 rfl w1.heap.size 9 i0 (.string ⟨#[]⟩) 1 Tryd.underlying43 hi hz0 hz1 _ _ _ _ n rfl rfl rfl rfl ?b1 ?b2 ?b3 ?_))
    case b1 => rw [hz2]; omega
    case b2 => unfold maxLen; omega
    case b3 => exact Nat.le_refl _
    intro w2 ho1 hg1
    obtain ⟨cur0, hcur0, hh0⟩ : ∃ cur : List Value, cur.length = n ∧ w2.heap[w1.heap.size]? = some (.cells cur.toArray 9 (0, 0)) := by
      rcases ho1.2 with ⟨h, _⟩ | ⟨g, cap', cur, h, _, hg, _, _, hsz, _⟩
      · cases h
      · cases h
        exact ⟨cur.toList, by simpa using hsz, by simpa using hg⟩
    have hb2 : Below w.heap.size w w2 := hb1.trans (((Below.refl _ w1).grown hg1 (Nat.le_refl _) (fun k h => by cases h)).mono hb1.size)
    have hrw : w.heap.size ≤ w1.heap.size := hb1.size
    generalize w1.heap.size = r at *
    clear ho1 hg1 hA hi hz0 hz1 hz2
    go_wp2
    go_loopw [14] (fun i wr => ∃ (k : Nat) (cur : List Value), k ≤ n ∧ i = .int .i64 k ∧ cur.length = n ∧ wr.heap[r]? = some (.cells cur.toArray 9 (0, 0)) ∧ (∀ j (h : j < L.length), j < k → cur[j]? = some (.string ⟨(wordOf L[j]).toArray⟩)) ∧ Below w.heap.size w wr) (fun i _ => n - (intOf i).toNat)
    case atStart => exact ⟨0, cur0, Nat.zero_le _, rfl, hcur0, hh0, by omega, hb2⟩
    case round =>
      obtain ⟨k, cur, hk, rfl, hcl, hh, hd, hb⟩ := hrel
      have hrl := (Array.getElem?_eq_some_iff.1 hh).1
      by_cases hlt : k < n
      · rcases hV.keep hb with h0 | ⟨b, off, hao, hc⟩
        · subst h0; simp at hn; omega
        · subst hao
          obtain ⟨c0, c1, c2⟩ := hc k (by omega)
          obtain ⟨hx1, hx2, hx3⟩ := hG L[k] (by simp)
          have HT : Hid (∀ (cur' : List Value), cur' = cur.set k (.string ⟨(wordOf L[k]).toArray⟩) → ∀ j (h : j < L.length), j < k + 1 → cur'[j]? = some (.string ⟨(wordOf L[j]).toArray⟩)) := hid fun cur' e j hj hjk => by
            subst e
            rcases Nat.lt_or_ge j k with h1 | h1
            · rw [List.getElem?_set_ne (by omega)]
              exact hd j hj h1
            · obtain rfl : j = k := by omega
              rw [List.getElem?_set_self (by omega)]
          generalize L[k] = x at c0 c1 c2 hx1 hx2 hx3 HT
          have hx' := word_any x hx2 hx3 hx1
          obtain ⟨xt, xn, xb⟩ := x
          simp only [Val.v] at hx'
          clear hc hV hG hd
          generalize wordOf ⟨xt, xn, xb⟩ = W at hx' HT
          go_wp2_with (go_at_call 16; refine (hx' _ ((ht.keep hb).keep ((Below.refl _ wr).alloc (Nat.le_refl _) _))).mono ?_; rintro e w4 ⟨rfl, hb4⟩; have hh4 := (hb4.block r (by simp; omega)).trans ((Below.heap_alloc _ _ r hrl).trans hh); have hc4 : w4.cell? ⟨r, k, none⟩ = some (cur[k]'(by omega)) := (Lib.cell_of_heap hh4 k).trans (by simp [show k < cur.length from (by omega)]); have hf4 := Lib.frozen_of_heap hh4 k)
          refine ⟨⟨k + 1, cur.set k (.string ⟨W.toArray⟩), by omega, by go_num, by simp [hcl], ?_, HT.out _ rfl, ?_⟩, by simp [intOf]; omega⟩
          · simp [World.setCell, Array.getElem?_modify, hh4]
          · exact ((hb.alloc hb.size _).trans (hb4.mono (by have := hb.size; simp; omega))).setCell (p := ⟨r, k, none⟩) hrw _
      · have hE : Hid (printList L = Lib.join ((L.map fun x => (⟨(wordOf x).toArray⟩ : ByteArray)).map (·.data.toList)) (⟨#[32]⟩ : ByteArray).data.toList) := hid (by simp [printList, Function.comp_def])
        have hJ := Tryd.strings_Join r 0 n (L.map fun x => (⟨(wordOf x).toArray⟩ : ByteArray)) ⟨#[32]⟩ wr (by
          intro j x hj
          obtain ⟨hj', rfl⟩ := List.getElem?_eq_some_iff.1 hj
          simp only [List.length_map] at hj'
          rw [Nat.zero_add, Lib.cell_of_heap hh j]
          simpa using hd j hj' (by omega)) hrl (by simp; omega) (by simp; omega) (by rw [← hE.out]; exact hPL)
        rw [List.length_map, hn, ← hE.out] at hJ
        go_wp2_with (go_at_call 17; refine hJ.mono ?_; rintro e w5 ⟨rfl, hb5⟩)
        go_ret
        exact ⟨rfl, hb.trans (hb5.mono hb.size)⟩
end Go.Proofs.YtkmfopdklohgnaaDoor
