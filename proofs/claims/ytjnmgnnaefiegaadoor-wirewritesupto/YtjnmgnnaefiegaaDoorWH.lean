/- The check 'knows' that every law of layer 1 ends with answers true. -/
import Derived.Test.YtjnmgnnaefiegaaDoorWE
import Derived.Test.YtjnmgnnaefiegaaDoorWG
namespace Go.Proofs.YtjnmgnnaefiegaaDoor
open Go.RowKit

theorem run_str {w : World} {ao : Option Addr} {bs : List UInt8} (h : Bs w ao bs) (cap : Nat) : (convert 26 9 (.slice ao bs.length cap)).run Tryd.prog w = .ok (.string ⟨bs.toArray⟩) w := by
  have nums : ∀ l : List UInt8, strOfNums (l.map fun b => (b.toNat : Int)) = ⟨l.toArray⟩ := fun l => by
    unfold strOfNums
    rw [List.map_map]
    congr 2
    conv => rhs; rw [← List.map_id l]
    apply List.map_congr_left
    intro b _
    simp
  rcases h with rfl | ⟨b, off, rfl, hc⟩
  · cases ao with
    | none => exact run_convert_bytes_nil w 26 5 Tryd.underlying26 Tryd.underlying5 0 cap 9 Tryd.underlying9
    | some a =>
      rw [run_convert_bytes_string w 26 9 5 _ _ cap Tryd.underlying26 Tryd.underlying5 Tryd.underlying9]
      exact (run_bytesToString w a 0 cap [] (by simp [loadCells, loadCellsFrom])).trans rfl
  · rw [run_convert_bytes_arg w 26 5 Tryd.underlying26 Tryd.underlying5 b off bs.length cap (bs.map fun b => (b.toNat : Int)) (by simp) (fun i hi => by rw [hc i hi]; simp [List.getD, hi]) 9 Tryd.underlying9, nums]

theorem Own.chg {w w' : World} {base : Nat} {e : TypeId} {v : Value} {xs : List Value} {S : Nat → Prop} (h : Own w base e v xs) (k : Chg w w' S) (hv : ∀ g, v.ownBlock = some g → ¬ S g) : Own w' base e v xs := by
  refine ⟨h.1, ?_⟩
  rcases h.2 with h2 | ⟨g, cap, cur, rfl, hg, hh, r⟩
  · exact .inl h2
  · exact .inr ⟨g, cap, cur, rfl, hg, by rw [k.block g (lt_of_block hh) (hv g rfl)]; exact hh, r⟩
theorem WStep.below {h : Nat} {w w' : World} {v v' : Value} (s : WStep h w v w' v') {B : Nat} (hB : B ≤ w.heap.size) (hh : B ≤ h) (hv : ∀ k, v.ownBlock = some k → B ≤ k) : Below B w w' :=
  s.1.below hB (fun i hi => by rcases hi with e | e
                               · omega
                               · exact hv i e)

/-- A call with one int, one text. -/
theorem int_one (p h base B : Nat) (v : Value) (bs : List UInt8) (x : Int) (w : World) (hB : w.heap.size = B) (H : WrE w p h v 0) (hO : OwnB w base v bs) (hbase : base ≤ w.heap.size) (hroom : bs.length + 8 ≤ 1048576) :
    Calls Tryd.prog 14 #[.pointer (some ⟨p, 0, none⟩), .slice (some ⟨B, 0, none⟩) 1 1] (w.alloc (.cells #[.int .i64 x] 3)) fun e w' => ∃ v', e = .returned (.int .i64 0) ∧ WrE w' p h v' 0 ∧ OwnB w' base v' (bs ++ be64 x) ∧ WStep h w v w' v' := by
  subst hB
  have hnew : ¬ WSet h v w.heap.size := fun e => by
    rcases e with e | e
    · have := lt_of_block H.hh; omega
    · have := (hO.lt _ e).2; omega
  refine (int_ok p h base v bs (some ⟨w.heap.size, 0, none⟩) 1 1 [x] _ (H.chg (Chg.alloc w _ (fun _ => False)) id id) (Own.alloc hO _) (by simp; omega) (by omega) rfl (fun w' hc => .inr ⟨w.heap.size, 0, rfl, fun j hj => ?_⟩) (by omega)).mono ?_
  · obtain rfl : j = 0 := by simp at hj; omega
    exact hc.cell (new_cell w _ _ 0 _ rfl) hnew
  · rintro e w' ⟨v', rfl, H', hO', hs⟩
    refine ⟨v', rfl, H', ?_, (WStep.alloc h w v _).trans hs⟩
    have e : ints [x] = be64 x := by simp [ints]
    rw [← e]; exact hO'
theorem text_one (p h base B : Nat) (v : Value) (bs : List UInt8) (x : List UInt8) (w : World) (hB : w.heap.size = B) (H : WrE w p h v 0) (hO : OwnB w base v bs) (hbase : base ≤ w.heap.size) (hx : x.length ≤ 65535) (hroom : bs.length + (2 + x.length) ≤ 1048576) :
    Calls Tryd.prog 16 #[.pointer (some ⟨p, 0, none⟩), .slice (some ⟨B, 0, none⟩) 1 1] (w.alloc (.cells #[.string ⟨x.toArray⟩] 9)) fun e w' => ∃ v', e = .returned (.int .i64 0) ∧ WrE w' p h v' 0 ∧ OwnB w' base v' (bs ++ text x) ∧ WStep h w v w' v' := by
  subst hB
  have hnew : ¬ WSet h v w.heap.size := fun e => by
    rcases e with e | e
    · have := lt_of_block H.hh; omega
    · have := (hO.lt _ e).2; omega
  have e : texts [x] = text x := by simp [texts]
  refine (text_ok p h base v bs (some ⟨w.heap.size, 0, none⟩) 1 1 [x] _ (H.chg (Chg.alloc w _ (fun _ => False)) id id) (Own.alloc hO _) (by simp; omega) (by omega) rfl (by decide) (fun w' hc => .inr ⟨w.heap.size, 0, rfl, fun j hj => ?_⟩) (fun j hj => ?_) (by rw [e, text_length]; omega)).mono ?_
  · obtain rfl : j = 0 := by simp at hj; omega
    exact hc.cell (new_cell w _ _ 0 _ rfl) hnew
  · obtain rfl : j = 0 := by simp at hj; omega
    exact hx
  · rintro e' w' ⟨v', rfl, H', hO', hs⟩
    refine ⟨v', rfl, H', ?_, (WStep.alloc h w v _).trans hs⟩
    rw [← e]; exact hO'

set_option maxHeartbeats 400000 in
theorem num_any (n : Int) (w : World) : Calls Tryd.prog 11 #[.int .i64 n] w fun e w' => e = .returned (.int .i64 n) ∧ w' = w := by
  go_enter Tryd.func11, Tryd.ntmps11
  go_wp2
  go_ret
  exact ⟨rfl, rfl⟩

theorem firstOf_empty : firstOf (frameOf []) = some [] := by decide +kernel
theorem framesOf_empty : framesOf (frameOf []) = ([[]], 8) := by
  rw [framesOf_some firstOf_empty]
  have e : (frameOf []).drop (8 + ([] : List UInt8).length) = [] := List.drop_eq_nil_of_le (by simp [frameOf, be_length])
  rw [e, framesOf_none (by rfl)]
  rfl

set_option maxHeartbeats 1000000 in
theorem knows_any (w : World) (ht : Tab w) :
    Calls Tryd.prog 10 #[] w fun e w' => e = .returned (.bool true) ∧ Below w.heap.size w w' := by
  go_enter Tryd.func10, Tryd.ntmps10
  go_wp2_with fail
  refine (newWriter_any w).mono ?_
  rintro e w1 ⟨rfl, hw1⟩
  have H1 := newWriter_wr w
  rw [← hw1] at H1
  have hz1 : w1.heap.size = w.heap.size + 2 := by rw [hw1]; simp
  have hb1 : Below w.heap.size w w1 := by rw [hw1]; exact ((Below.refl _ _).alloc (Nat.le_refl _) _).alloc (by simp) _
  clear hw1
  go_wp2_with fail
  refine (int_one (w.heap.size + 1) w.heap.size (w.heap.size + 2) _ _ [] 1 w1 hz1 H1 (Own.nil _ _ _) (by omega) (by decide)).mono ?_
  rintro e w2 ⟨v2, rfl, H2, hO2, hs2⟩
  have hb2 : Below w.heap.size w w2 := hb1.trans (hs2.below (by omega) (Nat.le_refl _) (fun k e => by cases e))
  have hz2 : w.heap.size + 2 ≤ w2.heap.size := by have := hs2.1.size; omega
  rw [List.nil_append] at hO2
  clear hs2 H1 hb1 hz1
  go_wp2_with fail
  refine (text_one (w.heap.size + 1) w.heap.size (w.heap.size + 2) _ v2 (be64 1) [97, 98] w2 rfl H2 hO2 hz2 (by decide) (by decide)).mono ?_
  rintro e w3 ⟨v3, rfl, H3, hO3, hs3⟩
  have hb3 : Below w.heap.size w w3 := hb2.trans (hs3.below (by omega) (Nat.le_refl _) (fun k e => by have := (hO2.lt k e).1; omega))
  clear hs3 H2 hb2 hz2 hO2
  go_wp2_with fail
  refine (frame_any none 0 0 [] w3 rfl (by decide) (.inl rfl) (ht.keep (below_keep hb3))).mono ?_
  rintro e w4 ⟨v4, rfl, hO4, hb4⟩
  obtain ⟨ao4, cap4, hv4, hle4, hmx4, hB4, _, _⟩ := Own.bs hO4
  have hl4 : (frameOf []).length = 8 := by simp [frameOf, be_length]
  rw [hl4] at hv4
  subst hv4
  have hb4' : Below w.heap.size w w4 := hb3.trans (hb4.mono hb3.size)
  have H4 : WrE w4 (w.heap.size + 1) w.heap.size v3 0 := H3.chg (Chg.of_below (S := fun _ => False) hb4) id id
  have hO4' : OwnB w4 (w.heap.size + 2) v3 (be64 1 ++ text [97, 98]) := Own.below hO3 hb4
  clear hb4 H3 hO3 hb3 hO4
  go_wp2_with fail
  refine (frames_any ao4 8 cap4 (frameOf []) w4 hl4 (by decide) (by omega) hmx4 hB4 (ht.keep (below_keep hb4'))).mono ?_
  rintro e w5 ⟨v5, gs, rfl, hR5, hb5⟩
  have hb5' : Below w.heap.size w w5 := hb4'.trans (hb5.mono hb4'.size)
  have H5 : WrE w5 (w.heap.size + 1) w.heap.size v3 0 := H4.chg (Chg.of_below (S := fun _ => False) hb5) id id
  have hO5' : OwnB w5 (w.heap.size + 2) v3 (be64 1 ++ text [97, 98]) := Own.below hO4' hb5
  rw [framesOf_empty] at hR5 ⊢
  obtain ⟨ao5, cap5, hv5, _⟩ := Own.form hR5.row
  have hl5 : (List.zipWith (fun g (b : List UInt8) => sl g b.length) gs [[]]).length = 1 := by have := hR5.len; simp at this ⊢; omega
  rw [hl5] at hv5
  subst hv5
  have eb : be64 1 ++ text [97, 98] = [0, 0, 0, 0, 0, 0, 0, 1, 0, 2, 97, 98] := by decide +kernel
  rw [eb] at hO5'
  clear hb5 H4 hO4' hb4' hR5 hB4 eb
  go_wp2_with (go_at_call 11; refine (num_any _ _).mono ?_; rintro e w' ⟨rfl, rfl⟩)
  refine (bytes_any (w.heap.size + 1) w.heap.size (w.heap.size + 2) v3 _ _ H5 hO5' (by decide)).mono ?_
  rintro e w6 ⟨rfl, hO6, hb6⟩
  obtain ⟨ao6, cap6, hv6, _, _, hB6, _, _⟩ := Own.bs hO6
  have hst := run_str hB6 cap6
  rw [← hv6] at hst
  simp only [List.length_cons, List.length_nil, Nat.zero_add, Nat.reduceAdd] at hst
  have hb6' : Below w.heap.size w w6 := hb5'.trans (hb6.mono hb5'.size)
  clear hO6 hb6 hB6 hv6 H5 hO5'
  go_wp2
  go_ret
  exact ⟨rfl, hb6'⟩
end Go.Proofs.YtjnmgnnaefiegaaDoor
