/- What strings.SplitSeq hands on at a blank. -/
import Derived.RangeFuncNested
import Derived.RangeFuncBound
import Derived.RangeFuncCalls
import Derived.RangeFuncLeaves
import Derived.Shelf.Abstract
import Derived.Shelf.RegionOpen
import Derived.WalkKit
import Derived.OwnWalkIn
import Derived.TacticsInMore
import Derived.LoopNIn
import Derived.LoopIn
import Derived.Lib.IndexLaws
import Derived.Test.YtkmfopdklohgnaaDoorChecked
import Derived.Test.YtkmfopdklohgnaaDoorFeeds
import Derived.Test.YtkmfopdklohgnaaDoorShelf
namespace Go.Proofs.YtkmfopdklohgnaaDoor
open Go.RowKit Go.Shelf
attribute [local go_sem] Oper.semAt_some

theorem hid' {p : Prop} (h : p) : Hid p := h
theorem idx_lt {s : List UInt8} {c : UInt8} {o : Nat} (h : Lib.indexByte s c = o) : o < s.length := by
  have := (Lib.indexByte_some h).1
  exact (List.getElem?_eq_some_iff.1 this).1
/-- A text cut at its blanks. -/
def pieces (s : List UInt8) : List (List UInt8) :=
  if h : (Lib.indexByte s 32).toNat < s.length ∧ 0 ≤ Lib.indexByte s 32 then s.take (Lib.indexByte s 32).toNat :: pieces (s.drop ((Lib.indexByte s 32).toNat + 1)) else [s]
termination_by s.length
decreasing_by simp only [List.length_drop]; omega
theorem pieces_none {s : List UInt8} (h : Lib.indexByte s 32 = -1) : pieces s = [s] := by
  rw [pieces, dif_neg (by rw [h]; omega)]
theorem pieces_some {s : List UInt8} {o : Nat} (h : Lib.indexByte s 32 = o) : pieces s = s.take o :: pieces (s.drop (o + 1)) := by
  have := idx_lt h
  rw [pieces, dif_pos (by rw [h]; exact ⟨by simpa using this, by omega⟩), h]
  simp
theorem idx_cases (s : List UInt8) : Lib.indexByte s 32 = -1 ∨ ∃ o : Nat, Lib.indexByte s 32 = o := by
  have := Lib.indexByte_ge s 32
  by_cases h : Lib.indexByte s 32 = -1
  · exact .inl h
  · exact .inr ⟨(Lib.indexByte s 32).toNat, by omega⟩

theorem cut_front (l : List UInt8) (o : Nat) : (⟨l.toArray⟩ : ByteArray).extract 0 o = ⟨(l.take o).toArray⟩ := by
  apply ByteArray.ext
  rw [ByteArray.data_extract]
  simp
theorem cut_back (l : List UInt8) (o : Nat) : (⟨l.toArray⟩ : ByteArray).extract o l.length = ⟨(l.drop o).toArray⟩ := by
  apply ByteArray.ext
  rw [ByteArray.data_extract]
  simp only [List.extract_toArray, List.extract_eq_take_drop]
  rw [List.take_of_length_le (by rw [List.length_drop]; exact Nat.le_refl _)]
theorem set_one {w : World} {b : Nat} {x u : Value} {t : TypeId} (h : w.heap[b]? = some (.cells #[x] t (0, 0))) : (w.setCell ⟨b, 0, none⟩ u).heap[b]? = some (.cells #[u] t (0, 0)) := by
  have hlt : b < w.heap.size := (Array.getElem?_eq_some_iff.1 h).1
  have h' : w.heap[b] = .cells #[x] t (0, 0) := by simpa [Array.getElem?_eq_getElem hlt] using h
  show (w.heap.modify b _)[b]? = _
  rw [Array.getElem?_eq_getElem (by simpa using hlt), Array.getElem_modify_self, h']
  rfl
theorem set_far {w : World} {b c o : Nat} {u : Value} (h : c ≠ b) : (w.setCell ⟨b, 0, none⟩ u).cell? ⟨c, o, none⟩ = w.cell? ⟨c, o, none⟩ := by
  have := Below.heap_setCell w ⟨b, 0, none⟩ u c h
  simp [World.cell?, this]
/-- The three captured blocks lie as they lay. -/
def Kept (b0 b1 b2 : Nat) (W W' : World) : Prop := W'.heap[b0]? = W.heap[b0]? ∧ W'.heap[b1]? = W.heap[b1]? ∧ W'.heap[b2]? = W.heap[b2]?
theorem cell_heap {W W' : World} {b o : Nat} (h : W'.heap[b]? = W.heap[b]?) : W'.cell? ⟨b, o, none⟩ = W.cell? ⟨b, o, none⟩ := by simp [World.cell?, h]
theorem frozen_heap {W W' : World} {b o : Nat} (h : W'.heap[b]? = W.heap[b]?) : W'.frozen? ⟨b, o, none⟩ = W.frozen? ⟨b, o, none⟩ := by simp [World.frozen?, h]
/-- How much is left, read off the world. -/
def leftAt (b : Nat) (W : World) : Nat := match W.cell? ⟨b, 0, none⟩ with
  | some (.string x) => x.size
  | _ => 0

set_option maxRecDepth 100000 in
set_option maxHeartbeats 2000000 in
theorem split_feeds (n : Nat) (hn : 1 ≤ n) (b0 b1 b2 : Nat) (s : List UInt8) (W : World) (h01 : b0 ≠ b1) (h12 : b2 ≠ b1) (c0 : W.cell? ⟨b0, 0, none⟩ = some (.string ⟨#[32]⟩)) (c1 : W.heap[b1]? = some (.cells #[.string ⟨s.toArray⟩] 9 (0, 0)))
    (c2 : W.cell? ⟨b2, 0, none⟩ = some (.int .i64 0)) (hs : s.length ≤ 9223372036854775807) :
    Feeds Fence.wide n Tryd.prog 37 #[.pointer (some ⟨b0, 0, none⟩), .pointer (some ⟨b1, 0, none⟩), .pointer (some ⟨b2, 0, none⟩)] (fun x : List UInt8 => #[.string ⟨x.toArray⟩]) b1 (Kept b0 b1 b2) (pieces s) W := by
  intro l J Jx hJ hJx hY h0
  refine callsIn_of_wp Tryd.func37 rfl trivial ?_ rfl
  simp only [Tryd.ntmps37, List.size_toArray, List.length_cons, List.length_nil, Nat.reduceAdd, Nat.reduceSub, Array.replicate_succ, Array.replicate_zero, List.push_toArray, List.append_toArray, List.nil_append, List.cons_append]
  have k1 : W.cell? ⟨b1, 0, none⟩ = some (.string ⟨s.toArray⟩) := cell_of_one c1
  gi_wp2
  gi_loopw [7, 8] (fun _ _ wr => ∃ (pre : List (List UInt8)) (rest : List UInt8), pieces s = pre ++ pieces rest ∧ rest.length ≤ 9223372036854775807 ∧ wr.heap[b1]? = some (.cells #[.string ⟨rest.toArray⟩] 9 (0, 0)) ∧ wr.cell? ⟨b0, 0, none⟩ = some (.string ⟨#[32]⟩) ∧ wr.cell? ⟨b2, 0, none⟩ = some (.int .i64 0) ∧ J pre wr) (fun _ _ wr => leftAt b1 wr)
  case atStart => exact ⟨[], s, by simp, hs, c1, c0, c2, h0⟩
  case round =>
    clear c0 c1 c2 k1
    obtain ⟨pre, rest, hp, hl, c1, c0, c2, hj⟩ := hrel
    have k1 : wr.cell? ⟨b1, 0, none⟩ = some (.string ⟨rest.toArray⟩) := cell_of_one c1
    have hx := Tryd.strings_Index_one ⟨rest.toArray⟩ 32
    rcases idx_cases rest with hi | ⟨o, hi⟩
    · rw [hi] at hx
      obtain ⟨fn, tmps, assign, body, hy, hR⟩ := hY pre rest wr hj (by rw [hp, pieces_none hi]; exact List.prefix_rfl)
      gi_wp2_with (refine ⟨trivial, ?_⟩; gi_at_call 39; refine (callsIn_wide.2 (hx _)).mono ?_; rintro e w' ⟨rfl, rfl⟩)
      refine hR.mono ?_
      rintro e W3 (⟨rfl, hJ3, _⟩ | ⟨rfl, hx3⟩)
      · have hE : Hid (J (pieces s) W3) := hid' (by rw [hp, pieces_none hi]; exact hJ3)
        gi_wp2
        go_end0
        exact ⟨⟨_, rfl⟩, .inl hE.out⟩
      · gi_wp2
        go_end0
        exact ⟨⟨_, rfl⟩, .inr ⟨_, hx3⟩⟩
    · rw [hi] at hx
      have ho := idx_lt hi
      have hp2 : pieces s = pre ++ [rest.take o] ++ pieces (rest.drop (o + 1)) := by rw [hp, pieces_some hi]; simp
      obtain ⟨fn, tmps, assign, body, hy, hR⟩ := hY pre (rest.take o) wr hj (by rw [hp2]; exact List.prefix_append _ _)
      have HP : Hid (pieces s = pre ++ [rest.take o] ++ pieces (rest.drop (o + 1))) := hid' hp2
      clear hp hp2 hi
      have hx1 : (⟨rest.toArray⟩ : ByteArray).extract 0 o = ⟨(rest.take o).toArray⟩ := cut_front rest o
      have hx2 : (⟨rest.toArray⟩ : ByteArray).extract (o + 1) rest.length = ⟨(rest.drop (o + 1)).toArray⟩ := cut_back rest (o + 1)
      have hm0 : leftAt b1 wr = rest.length := by
        unfold leftAt
        rw [k1]
        simp [ByteArray.size]
      gi_wp2_with (refine ⟨trivial, ?_⟩; gi_at_call 39; refine (callsIn_wide.2 (hx _)).mono ?_; rintro e w' ⟨rfl, rfl⟩)
      refine hR.mono ?_
      rintro e W3 (⟨rfl, hJ3, hk0, hk1, hk2⟩ | ⟨rfl, hx3⟩)
      · have d1 : W3.heap[b1]? = some (.cells #[.string ⟨rest.toArray⟩] 9 (0, 0)) := hk1.trans c1
        have d0 : W3.cell? ⟨b0, 0, none⟩ = some (.string ⟨#[32]⟩) := (cell_heap hk0).trans c0
        have d2 : W3.cell? ⟨b2, 0, none⟩ = some (.int .i64 0) := (cell_heap hk2).trans c2
        have kk : W3.cell? ⟨b1, 0, none⟩ = some (.string ⟨rest.toArray⟩) := cell_of_one d1
        have ff : W3.frozen? ⟨b1, 0, none⟩ = false := by simp [World.frozen?, d1]
        clear c0 c1 c2 k1 hk0 hk1 hk2 hR hy hj
        have e1 := set_one (u := .string ⟨(rest.drop (o + 1)).toArray⟩) d1
        have m1 : leftAt b1 (W3.setCell ⟨b1, 0, none⟩ (.string ⟨(rest.drop (o + 1)).toArray⟩)) = (rest.drop (o + 1)).length := by
          unfold leftAt
          rw [cell_of_one e1]
          simp [ByteArray.size]
        gi_wp2
        refine ⟨⟨_, rest.drop (o + 1), HP.out, by rw [List.length_drop]; omega, e1, (set_far h01).trans d0, (set_far h12).trans d2, hJ _ _ _ hJ3⟩, ?_⟩
        rw [m1, hm0, List.length_drop]
        omega
      · gi_wp2
        refine bodyPost_ret (results_none rfl _ _ _) rfl ?_
        exact ⟨⟨_, rfl⟩, .inr ⟨_, hx3⟩⟩
end Go.Proofs.YtkmfopdklohgnaaDoor
