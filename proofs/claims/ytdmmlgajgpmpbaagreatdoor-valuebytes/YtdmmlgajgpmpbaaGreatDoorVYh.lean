/- value.Get of what Put wrote. -/
import Derived.Test.YtdmmlgajgpmpbaaGreatDoorVYg
import Derived.Test.YtdmmlgajgpmpbaaGreatDoorVO
import Derived.OwnWalk
namespace Go.Proofs.YtdmmlgajgpmpbaaGreatDoor
open Go.RowKit
attribute [local go_sem high] eq_val eq_val0
/-- A row of values, its first k those of L. -/
def RowTo (w : World) (b n : Nat) (L : List Val) (k : Nat) : Prop := ∃ cur : List Value, cur.length = n * 3 ∧ w.heap[b]? = some (.cells cur.toArray 48 (0, 0)) ∧ ∀ j (h : j < L.length), j < k → cur[j * 3]? = some (.int .i64 L[j].t) ∧ cur[j * 3 + 1]? = some (.int .i64 L[j].n) ∧ cur[j * 3 + 2]? = some (.string ⟨L[j].b.toArray⟩)
theorem RowTo.facts {w : World} {b n k : Nat} {L : List Val} (h : RowTo w b n L k) (hk : k < n) : ∃ u0 u1 u2, w.cell? ⟨b, k * 3, none⟩ = some u0 ∧ w.cell? ⟨b, k * 3 + 1, none⟩ = some u1 ∧ w.cell? ⟨b, k * 3 + 2, none⟩ = some u2 ∧ ∀ j, w.frozen? ⟨b, j, none⟩ = false := by
  obtain ⟨cur, hl, hh, _⟩ := h
  refine ⟨cur[k * 3]'(by omega), cur[k * 3 + 1]'(by omega), cur[k * 3 + 2]'(by omega), ?_, ?_, ?_, fun j => Lib.frozen_of_heap hh j⟩
  all_goals (rw [Lib.cell_of_heap hh]; simp)
theorem RowTo.set {w : World} {b n k : Nat} {L : List Val} (h : RowTo w b n L k) (hn : L.length = n) (hk : k < n) : RowTo (((w.setCell ⟨b, k * 3, none⟩ (.int .i64 (L[k]'(by omega)).t)).setCell ⟨b, k * 3 + 1, none⟩ (.int .i64 (L[k]'(by omega)).n)).setCell ⟨b, k * 3 + 2, none⟩ (.string ⟨(L[k]'(by omega)).b.toArray⟩)) b n L (k + 1) := by
  obtain ⟨cur, hl, hh, hc⟩ := h
  refine ⟨((cur.set (k * 3) (.int .i64 (L[k]'(by omega)).t)).set (k * 3 + 1) (.int .i64 (L[k]'(by omega)).n)).set (k * 3 + 2) (.string ⟨(L[k]'(by omega)).b.toArray⟩), by simpa using hl, ?_, fun j hj hjk => ?_⟩
  · simp [World.setCell, Array.getElem?_modify, hh]
  · rcases Nat.lt_or_ge j k with h1 | h1
    · obtain ⟨q0, q1, q2⟩ := hc j hj h1
      refine ⟨?_, ?_, ?_⟩
      · rw [List.getElem?_set_ne (by omega), List.getElem?_set_ne (by omega), List.getElem?_set_ne (by omega)]; exact q0
      · rw [List.getElem?_set_ne (by omega), List.getElem?_set_ne (by omega), List.getElem?_set_ne (by omega)]; exact q1
      · rw [List.getElem?_set_ne (by omega), List.getElem?_set_ne (by omega), List.getElem?_set_ne (by omega)]; exact q2
    · obtain rfl : j = k := by omega
      refine ⟨?_, ?_, ?_⟩
      · rw [List.getElem?_set_ne (by omega), List.getElem?_set_ne (by omega), List.getElem?_set_self (by omega)]
      · rw [List.getElem?_set_ne (by omega), List.getElem?_set_self (by simp; omega)]
      · rw [List.getElem?_set_self (by simp; omega)]
theorem RowTo.vs {w : World} {b n : Nat} {L : List Val} (h : RowTo w b n L n) (hn : L.length = n) : Vs w (some ⟨b, 0, none⟩) L := by
  obtain ⟨cur, hl, hh, hc⟩ := h
  refine .inr ⟨b, 0, rfl, fun j hj => ?_⟩
  obtain ⟨q0, q1, q2⟩ := hc j hj (by omega)
  rw [Lib.cell_of_heap hh, Lib.cell_of_heap hh, Lib.cell_of_heap hh, Nat.zero_add]
  exact ⟨by simpa using q0, by simpa using q1, by simpa using q2⟩
theorem RowTo.kept {w w' : World} {b n k : Nat} {L : List Val} (h : RowTo w b n L k) (e : w'.heap[b]? = w.heap[b]?) : RowTo w' b n L k := by
  obtain ⟨cur, hl, hh, hc⟩ := h
  exact ⟨cur, hl, e.trans hh, hc⟩
set_option maxRecDepth 100000 in
set_option maxHeartbeats 1000000 in
theorem get_any (a : Option Addr) (m c : Nat) (L : List Val) (hm : (encL L).length = m) (w : World) (hB : Bs w a (encL L)) (hL : L.length ≤ 255) (hR : L.all Val.right = true) (hI : ∀ x ∈ L, -9223372036854775808 ≤ x.n ∧ x.n ≤ 9223372036854775807) : Calls Tryz.prog 9 #[.slice a m c] w fun e w' => ∃ ad cap, e = .returned (.tuple #[.slice ad L.length cap, .int .i64 0]) ∧ Vs w' ad L ∧ Below w.heap.size w w' := by
  have hm' : m ≤ 140737488355328 := by
    have := flat_len L hR
    simp only [encL, List.length_append, List.length_cons, List.length_nil] at hm
    omega
  have hlen8 : ((UInt8.ofNat L.length).toNat : Nat) = L.length := by rw [UInt8.toNat_ofNat']; omega
  have hNew := rnew_any a m c (encL L) w hm hm' hB
  have hBy : ∀ (W : World) (h : Nat), RdS W (h + 1) h w.heap.size (encL L) 0 → Calls Tryz.prog 25 #[.pointer (some ⟨h + 1, 0, none⟩)] W fun e w' => e = .returned (.int .i64 (L.length : Nat)) ∧ RdS w' (h + 1) h w.heap.size (L.flatMap encV) 0 ∧ Chg W w' (fun k => k = h) := fun W h H => by
    have := rbyte_back (h + 1) h w.heap.size (UInt8.ofNat L.length) (L.flatMap encV) W H
    rw [hlen8] at this
    exact this
  obtain ⟨n, hn⟩ : ∃ n, L.length = n := ⟨_, rfl⟩
  rw [hn] at hBy hL hlen8 ⊢
  obtain ⟨i0, hi, hz0, hz1, hz2⟩ := info_parts val_info
  go_enter Tryz.func9, Tryz.ntmps9
  go_wp2_with (first | (go_at_call 24; refine hNew.mono ?_; rintro e w1 ⟨h, rfl, hh, H1, hb1⟩) | (go_at_call 25; refine (hBy w1 h H1).mono ?_; rintro e w2 ⟨rfl, H2, hc2⟩; clear hBy) | (at_make; refine wpList_make_full _ rfl _ _ 22 rfl w2.heap.size 48 i0 _ 3 Tryz.underlying22 hi hz0 hz1 _ _ _ _ n rfl rfl rfl rfl ?b1 ?b2 ?b3 ?_))
  case b1 => rw [hz2]; omega
  case b2 => unfold maxLen; omega
  case b3 => exact Nat.le_refl _
  intro w3 ho3 hg3
  have hz3 := hg3.size
  have hR3 : RowTo w3 w2.heap.size n L 0 := by
    rcases ho3.2 with ⟨h, _⟩ | ⟨g, cap', cur, hv, _, hgh, _, _, hsz, _⟩
    · cases h
    · cases hv
      exact ⟨cur.toList, by simpa using hsz, by simpa using hgh, fun j _ hj => by omega⟩
  have hl2 := rds_lt H2
  have hw12 : w.heap.size < w1.heap.size := Nat.lt_trans hh (rds_lt H1).2
  have H3 : RdS w3 (h + 1) h w.heap.size (L.flatMap encV) 0 := H2.chg (Chg.of_grown hg3) (fun e => by cases e) (fun e => by cases e) (fun e => by cases e)
  have hb2 : Below w.heap.size w w2 := hb1.trans (hc2.below hb1.size (fun i e => by omega))
  have hb3 : Below w.heap.size w w3 := hb2.grown hg3 hb2.size (fun k h => by cases h)
  have hrb : h + 1 < w2.heap.size := hl2.1
  have hrb' : w.heap.size < w2.heap.size := Nat.lt_of_lt_of_le hw12 hc2.size
  have hrl : w2.heap.size < w3.heap.size := by
    obtain ⟨cur, _, hhx, _⟩ := hR3
    exact (Array.getElem?_eq_some_iff.1 hhx).1
  generalize w2.heap.size = rb at *
  clear ho3 hg3 H2 hc2 hb2 hl2 H1 hNew hB hi hz0 hz1 hz2 hb1
  go_wp2
  go_loopw [14] (fun i wr => ∃ k : Nat, k ≤ n ∧ i = .int .i64 k ∧ RowTo wr rb n L k ∧ RdS wr (h + 1) h w.heap.size ((L.drop k).flatMap encV) 0 ∧ Below w.heap.size w wr ∧ rb < wr.heap.size) (fun i _ => n - (intOf i).toNat)
  case atStart => exact ⟨0, Nat.zero_le _, rfl, hR3, by simpa using H3, hb3, hrl⟩
  case round =>
    obtain ⟨k, hk, rfl, hRow, HR, hb, hrl⟩ := hrel
    by_cases hlt : k < n
    · have hd : (L.drop k).flatMap encV = encV (L[k]'(by omega)) ++ (L.drop (k + 1)).flatMap encV := by rw [List.drop_eq_getElem_cons (by omega), List.flatMap_cons]
      rw [hd] at HR
      have hxm : L[k]'(by omega) ∈ L := List.getElem_mem _
      have hG := getOne_any (h + 1) h w.heap.size (L[k]'(by omega)) _ wr HR (List.all_eq_true.1 hR _ hxm) (hI _ hxm).1 (hI _ hxm).2 (Nat.lt_trans hrb' hrl)
      have HSet : Hid (∀ W, RowTo W rb n L k → RowTo (((W.setCell ⟨rb, k * 3, none⟩ (.int .i64 (L[k]'(by omega)).t)).setCell ⟨rb, k * 3 + 1, none⟩ (.int .i64 (L[k]'(by omega)).n)).setCell ⟨rb, k * 3 + 2, none⟩ (.string ⟨(L[k]'(by omega)).b.toArray⟩)) rb n L (k + 1)) := hidV fun W hW => hW.set hn hlt
      have HRest : Hid (∀ W, RdS W (h + 1) h w.heap.size ((L.drop (k + 1)).flatMap encV) 0 → RdS W (h + 1) h w.heap.size ((L.drop (k + 1)).flatMap encV) 0) := hidV fun _ h => h
      generalize hrest : (L.drop (k + 1)).flatMap encV = rest at hG
      have HX : Hid ((L.drop (k + 1)).flatMap encV = rest) := hidV hrest
      clear hrest HRest
      generalize L[k]'(by omega) = x at hG HSet
      obtain ⟨xt, xn, xb⟩ := x
      replace hG : Calls Tryz.prog 26 #[.pointer (some ⟨h + 1, 0, none⟩)] wr fun e w' => e = .returned (.agg #[.int .i64 xt, .int .i64 xn, .string ⟨xb.toArray⟩]) ∧ RdS w' (h + 1) h w.heap.size rest 0 ∧ Chg wr w' (fun k => k = h) := hG
      simp only at HSet
      clear hd HR hxm
      go_wp2_with (go_at_call 26; refine hG.mono ?_; rintro e w4 ⟨rfl, H4, hc4⟩; have hR4 := hRow.kept (hc4.block rb hrl (by omega)); obtain ⟨u0, u1, u2, c0, c1, c2, hf⟩ := hR4.facts hlt; have f0 := hf (k * 3); have f1 := hf (k * 3 + 1); have f2 := hf (k * 3 + 2))
      have s1 := Chg.setCell w4 ⟨rb, k * 3, none⟩ (.int .i64 xt)
      have s2 := s1.trans (Chg.setCell _ ⟨rb, k * 3 + 1, none⟩ (.int .i64 xn)) (fun _ _ e => e)
      have s3 := s2.trans (Chg.setCell _ ⟨rb, k * 3 + 2, none⟩ (.string ⟨xb.toArray⟩)) (fun _ _ e => e)
      have hb4 : Below w.heap.size w w4 := hb.trans (hc4.below hb.size (fun i e => by omega))
      refine ⟨⟨k + 1, by omega, by go_num, HSet.out _ hR4, ?_, ?_, ?_⟩, by simp [intOf]; omega⟩
      · rw [HX.out]
        exact H4.chg s3 (by show ¬ h + 1 = rb; omega) (by show ¬ h = rb; omega) (by show ¬ w.heap.size = rb; omega)
      · exact hb4.trans (s3.below hb4.size (fun i (e : i = rb) => by omega))
      · exact Nat.lt_of_lt_of_le (Nat.lt_of_lt_of_le hrl hc4.size) s3.size
    · obtain rfl : k = n := by omega
      have hVs := hRow.vs hn
      rw [List.drop_of_length_le (by omega)] at HR
      have hD : ∀ W, RdS W (h + 1) h w.heap.size [] 0 → Calls Tryz.prog 27 #[.pointer (some ⟨h + 1, 0, none⟩)] W fun e w' => e = .returned (.int .i64 0) ∧ w' = W := fun W H => rdone_any _ _ _ _ _ W H
      have hA := allRight_any (some ⟨rb, 0, none⟩) k k L hn wr hVs (fun x hx => by
        have h1 := right_cases (List.all_eq_true.1 hR x hx)
        rcases h1 with ⟨_, e⟩ | ⟨_, _, e⟩ | ⟨_, _, e⟩ <;> simp [e] <;> omega) (by omega)
      rw [hR] at hA
      go_wp2_with (first | (go_at_call 27; refine (hD _ HR).mono ?_; rintro e w' ⟨rfl, rfl⟩; clear hD) | (go_at_call 17; refine hA.mono ?_; rintro e w5 ⟨rfl, hb5⟩))
      go_ret2
      exact ⟨_, _, rfl, hVs.keep hb5, hb.trans (hb5.mono hb.size)⟩
end Go.Proofs.YtdmmlgajgpmpbaaGreatDoor
