/- Layer 18: matched. -/
import Derived.Test.YtaonchdpnllhpaaV8b
namespace Go.Proofs.Ytaonchdpnllhpaa
open Go.RowKit
theorem row_set18 {W : World} {base n size g cap o : Nat} {e : TypeId} {u : Value} {xs : List Value} (h : W.ownsRow base e size (.slice (some ⟨g, 0, none⟩) n cap) n xs) : (W.setCell ⟨g, o, none⟩ u).ownsRow base e size (.slice (some ⟨g, 0, none⟩) n cap) n (xs.set o u) := by
  refine ⟨by rw [List.length_set]; exact h.1, ?_⟩
  rcases h.2 with ⟨q, _⟩ | ⟨g', cap', cur, q, q1, q2, q3, q4, q5, q6⟩
  · cases q
  · cases q
    refine .inr ⟨g, cap, cur.setIfInBounds o u, rfl, q1, heap_setCell_same _ _ _ _ _ _ q2, q3, q4, by simpa using q5, ?_⟩
    rw [Array.toList_setIfInBounds, List.take_set, q6]
/-- The middle one. -/
def midV (n : Nat) (l : List Int) : Int := (l.mergeSort fun x y => decide (x ≤ y)).getD (n / 2) 0
set_option maxRecDepth 100000 in
set_option maxHeartbeats 2000000 in
theorem matched_any18 {pb : Nat} {x : Pt} {la : Option Addr} {ln lc mb mc : Nat} {sv dv : Value} {mt : List Int} (hn1 : 1 ≤ x.n) (hn : x.n ≤ 7) (hid' : x.id < x.n) (hm : mt.length = x.n) (w : World) (h : PtAt pb x (.slice la ln lc) sv dv (.slice (some ⟨mb, 0, none⟩) x.n mc) w) (hc : ∀ j, j < mt.length → w.cell? ⟨mb, j, none⟩ = some (.int .i64 (mt.getD j 0))) :
    Calls Try.prog 36 #[.pointer (some ⟨pb, 0, none⟩)] w fun e w' => e = .returned (.int .i64 (midV x.n (mt.set x.id (ln : Int)))) ∧ Below w.heap.size w w' := by
  obtain ⟨-, ⟨-, -, -, -, -, c12⟩, hl, -⟩ := h.rd
  have HCl := hid (Try.slices_Clone_int mb 0 x.n mc mt w (by omega) (by omega) (fun j hj => by rw [Nat.zero_add]; exact hc j hj))
  rw [show mt.take x.n = mt from List.take_of_length_le (by omega)] at HCl
  have HP : Hid (∀ W, Below w.heap.size w W → W.cell? ⟨pb, 3, none⟩ = some (.slice la ln lc) ∧ W.cell? ⟨pb, 7, none⟩ = some (.int .i64 x.id) ∧ W.cell? ⟨pb, 8, none⟩ = some (.int .i64 x.n) ∧ pb < W.heap.size) := hid fun W hW => ⟨(h.below hW).rd.1.2.2.2.1, (h.below hW).rd.2.1.1, (h.below hW).rd.2.1.2.1, (h.below hW).rd.2.2.1⟩
  have HM := hid hm
  clear h hc hm
  obtain ⟨r, hr⟩ : ∃ r, r = midV x.n (mt.set x.id (ln : Int)) := ⟨_, rfl⟩
  rw [← hr]
  have HR := hid hr
  clear hr
  generalize x.n = n at *
  generalize x.id = id at *
  go_enter Try.func36, Try.ntmps36
  go_upto_region 2 with (first
    | (go_at_call 48; refine HCl.out.mono ?_; clear HCl; rintro e W1 ⟨v1, rfl, hr1, hne, hb1⟩)
    | fail)
  obtain ⟨g, cap, cur, rfl, hg, hh, q3, q4, q5, q6⟩ : ∃ g cap cur, v1 = .slice (some ⟨g, 0, none⟩) n cap ∧ w.heap.size ≤ g ∧ W1.heap[g]? = some (.cells cur 3 (0, 0)) ∧ n ≤ cap ∧ cap ≤ maxLen ∧ cur.size = cap * 1 ∧ cur.toList.take (n * 1) = mt.map (Value.int .i64) := by
    rcases hr1.2 with ⟨q, _⟩ | ⟨g, cap, cur, q, q1, q2, q3, q4, q5, q6⟩
    · exact absurd q hne
    · exact ⟨g, cap, cur, q, q1, q2, q3, q4, q5, q6⟩
  have hz1 : Below W1.heap.size W1 W1.drew := (Below.refl _ W1).drew
  have hbd : Below w.heap.size w W1.drew := hb1.trans (hz1.mono hb1.size)
  have HS2 : Hid (∀ v, Below w.heap.size w (W1.drew.setCell ⟨g, id, none⟩ v)) := hid fun v => hbd.setCell hg v
  have hcur : cur[id]? = some (.int .i64 (mt.getD id 0)) := by
    have h1 : (cur.toList.take (n * 1))[id]? = (mt.map (Value.int .i64))[id]? := by rw [q6]
    rw [List.getElem?_take_of_lt (by omega)] at h1
    rw [← Array.getElem?_toList, h1, List.getElem?_map, List.getD_eq_getElem?_getD]
    have : id < mt.length := by rw [HM.out]; exact hid'
    rw [List.getElem?_eq_getElem this]
    rfl
  have hhd : W1.drew.heap[g]? = some (.cells cur 3 (0, 0)) := hh
  have hcell : W1.drew.cell? ⟨g, id, none⟩ = some (.int .i64 (mt.getD id 0)) := (Lib.cell_of_heap hhd id).trans hcur
  have hfr : W1.drew.frozen? ⟨g, id, none⟩ = false := Lib.frozen_of_heap hhd id
  have hgl : g < W1.drew.heap.size := (Array.getElem?_eq_some_iff.1 hhd).1
  obtain ⟨s3, s7, s8, sl⟩ := HP.out _ hbd
  have hidn : (id : Int) < (n : Int) := by omega
  have HSt : Hid (∀ v, (W1.drew.setCell ⟨g, id, none⟩ v).cell? ⟨pb, 3, none⟩ = some (.slice la ln lc) ∧ (W1.drew.setCell ⟨g, id, none⟩ v).cell? ⟨pb, 7, none⟩ = some (.int .i64 id) ∧ pb < (W1.drew.setCell ⟨g, id, none⟩ v).heap.size) := hid fun v => ⟨(HP.out _ (HS2.out v)).1, (HP.out _ (HS2.out v)).2.1, (HP.out _ (HS2.out v)).2.2.2⟩
  have HSo : Hid (∀ W2, W2 = W1.drew.setCell ⟨g, id, none⟩ (.int .i64 (ln : Int)) → Calls Try.prog 49 #[.slice (some ⟨g, 0, none⟩) n cap] W2 fun e W3 => e = .returned (.tuple #[]) ∧ Hid (Below w.heap.size w W3 ∧ W3.ownsRow w.heap.size 3 1 (.slice (some ⟨g, 0, none⟩) n cap) n (((mt.set id (ln : Int)).mergeSort fun x y => decide (x ≤ y)).map (Value.int .i64)))) := hid fun W2 hW2 => by
    have hb2 : W2.heap[g]? = some (.cells (cur.setIfInBounds id (.int .i64 (ln : Int))) 3 (0, 0)) := by rw [hW2]; exact heap_setCell_same _ _ _ _ _ _ hhd
    have hlen : (mt.set id (ln : Int)).length = n := by rw [List.length_set]; exact HM.out
    have ht : (cur.setIfInBounds id (.int .i64 (ln : Int))).toList.take (mt.set id (ln : Int)).length = (mt.set id (ln : Int)).map (Value.int .i64) := by
      rw [Array.toList_setIfInBounds, hlen, List.take_set, show n = n * 1 by omega, q6, List.map_set]
    have hS := Try.slices_Sort_int g 0 cap (mt.set id (ln : Int)) W2 (holds_of_blockI hb2 ht) (lt_of_block hb2) (by rw [hlen]; omega)
    rw [hlen] at hS
    refine hS.mono fun e W3 ⟨e1, m, os, e2⟩ => ⟨e1, hid ⟨?_, ?_⟩⟩
    · have hgb := grownBy_sortedI (w := W2) (g := g) (n := m) (os := os) ((mt.set id (ln : Int)).mergeSort fun x y => decide (x ≤ y)).toArray
      rw [← e2] at hgb
      have hw2 : Below w.heap.size w W2 := by rw [hW2]; exact HS2.out _
      exact hw2.trans ⟨hgb.os, hgb.tape, hgb.output, hgb.size, fun k hk => hgb.block k (Nat.lt_of_lt_of_le hk hw2.size) fun e => by injection e with e; omega⟩
    · have := ownsRow_sortedI (w := W2) (base := w.heap.size) (g := g) (cap := cap) (n := m) (e := 3) (os := os) (ss := mt.set id (ln : Int)) (ts := (mt.set id (ln : Int)).mergeSort fun x y => decide (x ≤ y)) (by simp) hg hb2 (by rw [hlen]; exact q3) q4 (by simpa using q5)
      rw [hlen, ← e2] at this
      exact this
  clear hr1 hh hhd hb1 hz1 q6 hcur
  go_region_held (fun W => W.cell? ⟨pb, 3, none⟩ = some (.slice la ln lc) ∧ W.cell? ⟨pb, 7, none⟩ = some (.int .i64 id) ∧ pb < W.heap.size) (first | exact ⟨s3, s7, sl⟩ | exact HSt.out _ | go_keep) (fail)
  obtain ⟨W2, hW2⟩ : ∃ W2, W2 = (W1.setCell ⟨g, id, none⟩ (.int .i64 (ln : Int))).drew := ⟨_, rfl⟩
  have HSo2 := hid (HSo.out W2 (hW2.trans rfl))
  rw [← hW2]
  clear hW2 HSo HSt HS2 hbd hcell hfr hgl s3 s7 s8 sl
  go_upto_region 4 with (first
    | (go_at_call 49; refine HSo2.out.mono ?_; clear HSo2; rintro e W3 ⟨rfl, h3⟩)
    | fail)
  obtain ⟨t3, t7, t8, tl⟩ := HP.out _ h3.out.1
  have hq : (n : Int).tdiv 2 = ((n / 2 : Nat) : Int) := by rw [Int.tdiv_eq_ediv_of_nonneg (by omega)]; omega
  have hqn : ((n / 2 : Nat) : Int) < (n : Int) := by omega
  have hce : W3.cell? ⟨g, n / 2, none⟩ = some (.int .i64 r) := by
    have := h3.out.2.cellAt (n / 2) (by omega)
    rw [this, HR.out]
    have hlm : ((mt.set id (ln : Int)).mergeSort fun x y => decide (x ≤ y)).length = n := by rw [List.length_mergeSort, List.length_set]; exact HM.out
    unfold midV
    rw [List.getElem?_map, List.getD_eq_getElem?_getD, List.getElem?_eq_getElem (by omega)]
    rfl
  have hgl3 : g < W3.heap.size := (h3.out.2.lt g rfl).2
  go_wp2_with fail
  go_ret
  exact ⟨rfl, h3.out.1⟩
end Go.Proofs.Ytaonchdpnllhpaa
