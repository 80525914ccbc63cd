/- value.Get of any bytes. -/
import Derived.Test.YtdmmlgajgpmpbaaGreatDoorVYi
import Derived.Test.YtdmmlgajgpmpbaaGreatDoorVYh
namespace Go.Proofs.YtdmmlgajgpmpbaaGreatDoor
open Go.RowKit
attribute [local go_sem high] eq_val eq_val0
/-- What a reader has when it has read k values, and the value that comes then. -/
def stN (s : RSt) : Nat → RSt
  | 0 => s
  | k + 1 => (readV (stN s k)).2
def valN (s : RSt) (k : Nat) : Val := (readV (stN s k)).1
def valsN (s : RSt) (n : Nat) : List Val := (List.range n).map (valN s)
theorem ansText_len (bs : List UInt8) (err : Int) : (ansText bs err).length ≤ 65535 := by
  unfold ansText
  split
  · simp
  split
  · simp
  · have := tl_le bs
    simp only [List.length_take]
    omega
theorem readV_len (s : RSt) : (readV s).1.b.length ≤ 65535 := by
  unfold readV
  simp only
  split
  · simp
  split
  · exact ansText_len _ _
  split <;> simp
/-- How Get ends: with what was read, or with none. -/
def GetEnd (s : RSt) (n : Nat) (w : World) (e : Ending) (w' : World) : Prop := Below w.heap.size w w' ∧
  (((doneOf (stN s n).1 (stN s n).2 ≠ 0 ∨ (valsN s n).all Val.right = false) ∧ e = .returned (.tuple #[.slice none 0 0, .int .i64 21])) ∨
   (doneOf (stN s n).1 (stN s n).2 = 0 ∧ (valsN s n).all Val.right = true ∧ ∃ ad cap, e = .returned (.tuple #[.slice ad n cap, .int .i64 0]) ∧ Vs w' ad (valsN s n)))
theorem ansByte_nat (bs : List UInt8) (err : Int) : ∃ n : Nat, n ≤ 255 ∧ ansByte bs err = n := by
  unfold ansByte
  split
  · exact ⟨0, by omega, rfl⟩
  split
  · exact ⟨0, by omega, rfl⟩
  · exact ⟨_, by have := (bs.getD 0 0).toNat_lt; omega, rfl⟩
set_option maxRecDepth 100000 in
set_option maxHeartbeats 1000000 in
theorem get_all (a : Option Addr) (m c : Nat) (bs : List UInt8) (hm : bs.length = m) (w : World) (hB : Bs w a bs) (hm' : m ≤ 140737488355328) (n : Nat) (hL : n ≤ 255) (hnb : ansByte bs 0 = n) : Calls Tryz.prog 9 #[.slice a m c] w (GetEnd (rB (bs, 0) 1) n w) := by
  have hNew := rnew_any a m c bs w hm hm' hB
  obtain ⟨s0, hs0⟩ : ∃ s0, s0 = rB (bs, 0) 1 := ⟨_, rfl⟩
  have hBy : ∀ (W : World) (h : Nat), RdS W (h + 1) h w.heap.size bs 0 → Calls Tryz.prog 25 #[.pointer (some ⟨h + 1, 0, none⟩)] W fun e w' => e = .returned (.int .i64 (n : Nat)) ∧ RdS w' (h + 1) h w.heap.size s0.1 s0.2 ∧ Chg W w' (fun k => k = h) := fun W h H => by
    have := rbyte_all (h + 1) h w.heap.size bs 0 W H
    rw [hnb] at this
    rw [hs0]
    exact this
  rw [← hs0]
  obtain ⟨L, hLd⟩ : ∃ L, L = valsN s0 n := ⟨_, rfl⟩
  have hn : L.length = n := by rw [hLd]; simp [valsN]
  have hFair : Fair L := fun x hx => by
    rw [hLd] at hx
    obtain ⟨j, _, rfl⟩ := List.mem_map.1 hx
    exact Nat.le_trans (readV_len _) (by decide)
  have hGE : GetEnd s0 n w = fun e w' => Below w.heap.size w w' ∧ (((doneOf (stN s0 n).1 (stN s0 n).2 ≠ 0 ∨ L.all Val.right = false) ∧ e = .returned (.tuple #[.slice none 0 0, .int .i64 21])) ∨ (doneOf (stN s0 n).1 (stN s0 n).2 = 0 ∧ L.all Val.right = true ∧ ∃ ad cap, e = .returned (.tuple #[.slice ad n cap, .int .i64 0]) ∧ Vs w' ad L)) := by rw [hLd]; rfl
  rw [hGE]
  have hLd : L = (List.range n).map (valN s0) := hLd
  clear hGE hs0 hnb
  obtain ⟨i0, hi, hz0, hz1, hz2⟩ := info_parts val_info
  go_enter Tryz.func9, Tryz.ntmps9
  go_wp2_with (first | (go_at_call 24; refine hNew.mono ?_; rintro e w1 ⟨h, rfl, hh, H1, hb1⟩) | (go_at_call 25; refine (hBy w1 h H1).mono ?_; rintro e w2 ⟨rfl, H2, hc2⟩; clear hBy) | (at_make; refine wpList_make_full _ rfl _ _ 22 rfl w2.heap.size 48 i0 _ 3 Tryz.underlying22 hi hz0 hz1 _ _ _ _ n rfl rfl rfl rfl ?b1 ?b2 ?b3 ?_))
  case b1 => rw [hz2]; omega
  case b2 => unfold maxLen; omega
  case b3 => exact Nat.le_refl _
  intro w3 ho3 hg3
  have hz3 := hg3.size
  have hR3 : RowTo w3 w2.heap.size n L 0 := by
    rcases ho3.2 with ⟨h, _⟩ | ⟨g, cap', cur, hv, _, hgh, _, _, hsz, _⟩
    · cases h
    · cases hv
      exact ⟨cur.toList, by simpa using hsz, by simpa using hgh, fun j _ hj => by omega⟩
  have hl2 := rds_lt H2
  have hw12 : w.heap.size < w1.heap.size := Nat.lt_trans hh (rds_lt H1).2
  have H3 : RdS w3 (h + 1) h w.heap.size s0.1 s0.2 := H2.chg (Chg.of_grown hg3) (fun e => by cases e) (fun e => by cases e) (fun e => by cases e)
  have hb2 : Below w.heap.size w w2 := hb1.trans (hc2.below hb1.size (fun i e => by omega))
  have hb3 : Below w.heap.size w w3 := hb2.grown hg3 hb2.size (fun k h => by cases h)
  have hrb : h + 1 < w2.heap.size := hl2.1
  have hrb' : w.heap.size < w2.heap.size := Nat.lt_of_lt_of_le hw12 hc2.size
  have hrl : w2.heap.size < w3.heap.size := by
    obtain ⟨cur, _, hhx, _⟩ := hR3
    exact (Array.getElem?_eq_some_iff.1 hhx).1
  generalize w2.heap.size = rb at *
  clear ho3 hg3 H2 hc2 hb2 hl2 H1 hNew hB hi hz0 hz1 hz2 hb1
  go_wp2
  go_loopw [14] (fun i wr => ∃ k : Nat, k ≤ n ∧ i = .int .i64 k ∧ RowTo wr rb n L k ∧ RdS wr (h + 1) h w.heap.size (stN s0 k).1 (stN s0 k).2 ∧ Below w.heap.size w wr ∧ rb < wr.heap.size) (fun i _ => n - (intOf i).toNat)
  case atStart => exact ⟨0, Nat.zero_le _, rfl, hR3, H3, hb3, hrl⟩
  case round =>
    obtain ⟨k, hk, rfl, hRow, HR, hb, hrl⟩ := hrel
    by_cases hlt : k < n
    · have hk' : k < L.length := by omega
      have hLk : L[k]'hk' = (readV (stN s0 k)).1 := by simp [hLd, valN]
      have hG := getOne_all (h + 1) h w.heap.size (stN s0 k) wr HR (Nat.lt_trans hrb' hrl)
      have HX : Hid (stN s0 (k + 1) = (readV (stN s0 k)).2) := hidV rfl
      have HSet : Hid (∀ W, RowTo W rb n L k → RowTo (((W.setCell ⟨rb, k * 3, none⟩ (.int .i64 (L[k]'(by omega)).t)).setCell ⟨rb, k * 3 + 1, none⟩ (.int .i64 (L[k]'(by omega)).n)).setCell ⟨rb, k * 3 + 2, none⟩ (.string ⟨(L[k]'(by omega)).b.toArray⟩)) rb n L (k + 1)) := hidV fun W hW => hW.set hn hlt
      rw [hLk] at HSet
      generalize readV (stN s0 k) = q at hG HSet HX
      obtain ⟨x, st⟩ := q
      clear hLk
      obtain ⟨xt, xn, xb⟩ := x
      replace hG : Calls Tryz.prog 26 #[.pointer (some ⟨h + 1, 0, none⟩)] wr fun e w' => e = .returned (.agg #[.int .i64 xt, .int .i64 xn, .string ⟨xb.toArray⟩]) ∧ RdS w' (h + 1) h w.heap.size st.1 st.2 ∧ Chg wr w' (fun k => k = h) := hG
      simp only at HSet
      clear HR
      go_wp2_with (go_at_call 26; refine hG.mono ?_; rintro e w4 ⟨rfl, H4, hc4⟩; have hR4 := hRow.kept (hc4.block rb hrl (by omega)); obtain ⟨u0, u1, u2, c0, c1, c2, hf⟩ := hR4.facts hlt; have f0 := hf (k * 3); have f1 := hf (k * 3 + 1); have f2 := hf (k * 3 + 2))
      have s1 := Chg.setCell w4 ⟨rb, k * 3, none⟩ (.int .i64 xt)
      have s2 := s1.trans (Chg.setCell _ ⟨rb, k * 3 + 1, none⟩ (.int .i64 xn)) (fun _ _ e => e)
      have s3 := s2.trans (Chg.setCell _ ⟨rb, k * 3 + 2, none⟩ (.string ⟨xb.toArray⟩)) (fun _ _ e => e)
      have hb4 : Below w.heap.size w w4 := hb.trans (hc4.below hb.size (fun i e => by omega))
      refine ⟨⟨k + 1, by omega, by go_num, HSet.out _ hR4, ?_, ?_, ?_⟩, by simp [intOf]; omega⟩
      · rw [HX.out]
        exact H4.chg s3 (by show ¬ h + 1 = rb; omega) (by show ¬ h = rb; omega) (by show ¬ w.heap.size = rb; omega)
      · exact hb4.trans (s3.below hb4.size (fun i (e : i = rb) => by omega))
      · exact Nat.lt_of_lt_of_le (Nat.lt_of_lt_of_le hrl hc4.size) s3.size
    · obtain rfl : k = n := by omega
      have hVs := hRow.vs hn
      have hD := rdone_any (h + 1) h w.heap.size _ _ wr HR
      have hA := allRight_any (some ⟨rb, 0, none⟩) k k L hn wr hVs hFair (by omega)
      by_cases hdn : doneOf (stN s0 k).1 (stN s0 k).2 = 0
      · rw [hdn] at hD
        cases hR : L.all Val.right with
        | true =>
          rw [hR] at hA
          go_wp2_with (first | (go_at_call 27; refine hD.mono ?_; rintro e w' ⟨rfl, rfl⟩; clear hD) | (go_at_call 17; refine hA.mono ?_; rintro e w5 ⟨rfl, hb5⟩))
          go_ret2
          exact ⟨hb.trans (hb5.mono hb.size), .inr ⟨hdn, hR, _, _, rfl, hVs.keep hb5⟩⟩
        | false =>
          rw [hR] at hA
          go_wp2_with (first | (go_at_call 27; refine hD.mono ?_; rintro e w' ⟨rfl, rfl⟩; clear hD) | (go_at_call 17; refine hA.mono ?_; rintro e w5 ⟨rfl, hb5⟩))
          go_ret2
          exact ⟨hb.trans (hb5.mono hb.size), .inl ⟨.inr hR, rfl⟩⟩
      · have hne : (doneOf (stN s0 k).1 (stN s0 k).2 != 0) = true := by simp [hdn]
        generalize hdd : doneOf (stN s0 k).1 (stN s0 k).2 = dd at *
        go_wp2_with (first | (go_at_call 27; refine hD.mono ?_; rintro e w' ⟨rfl, rfl⟩; clear hD))
        go_ret2
        exact ⟨hb, .inl ⟨.inl (by rw [hdd]; exact hdn), rfl⟩⟩
end Go.Proofs.YtdmmlgajgpmpbaaGreatDoor
