/- The document's Get. -/
import Derived.Test.YtdmmlgajgpmpbaaGreatDoorVF
namespace Go.Proofs.YtdmmlgajgpmpbaaGreatDoor
open Go.RowKit
attribute [local go_sem high] eq_val eq_val0
theorem err_rB (s : RSt) (nd : Nat) (h : s.2 ≠ 0) : (rB s nd).2 ≠ 0 := by
  unfold rB
  simp only
  rw [(of_bad nd h).1]
  exact h
theorem err_readV (s : RSt) (h : s.2 ≠ 0) : (readV s).2.2 ≠ 0 := by
  unfold readV
  simp only
  have h1 := err_rB s 1 h
  split
  · exact err_rB _ _ h1
  split
  · exact err_rB _ _ h1
  split
  · exact err_rB _ _ h1
  · exact h1
/-- An error stays. -/
theorem err_stays (s : RSt) (k : Nat) (h : (stN s k).2 ≠ 0) : ∀ n, k ≤ n → (stN s n).2 ≠ 0 := by
  intro n hn
  induction n with
  | zero => obtain rfl : k = 0 := by omega
            exact h
  | succ n ih =>
    rcases Nat.lt_or_ge n k with h1 | h1
    · obtain rfl : k = n + 1 := by omega
      exact h
    · exact err_readV _ (ih h1)
theorem done_err {bs : List UInt8} {err : Int} (h : err ≠ 0) : doneOf bs err ≠ 0 := by
  unfold doneOf
  rw [if_pos h]
  exact h
theorem fdone_s (q g : Nat) (bs : List UInt8) (s : RSt) (w : World) (H : FS w q g bs s) : Calls Tryz.prog 30 #[.pointer (some ⟨q, 0, none⟩)] w fun e w' => e = .returned (.int .i64 (doneOf s.1 s.2)) ∧ Below w.heap.size w w' := by
  obtain ⟨k, h, e⟩ := H
  rw [e]
  refine (fdone_q q g bs k s.2 w h).mono ?_
  rintro _ w' ⟨rfl, m, rfl⟩
  exact ⟨rfl, below_draws (Below.refl _ _) _⟩
theorem rfs_low {w : World} {q g : Nat} {bs : List UInt8} {k : Nat} {err : Int} (H : RfS w q g bs k err) (hq : 0 < q) : ∃ g', g' < w.heap.size ∧ RfS w q g' bs k err := by
  have hql := World.block_lt_of_cell? _ _ H.at1.1
  simp only at hql
  obtain ⟨⟨ao, cap, hE, hB, h1, h2⟩, hgq, hle, hmx⟩ := H
  rcases hB with h | ⟨off, e, hc⟩
  · exact ⟨0, by omega, ⟨⟨ao, cap, hE, .inl h, h1, h2⟩, by omega, hle, hmx⟩⟩
  · by_cases h0 : 0 < bs.length
    · exact ⟨g, World.block_lt_of_cell? _ _ (hc 0 h0), ⟨⟨ao, cap, hE, .inr ⟨off, e, hc⟩, h1, h2⟩, hgq, hle, hmx⟩⟩
    · exact ⟨0, by omega, ⟨⟨ao, cap, hE, .inl (List.eq_nil_of_length_eq_zero (by omega)), h1, h2⟩, by omega, hle, hmx⟩⟩
set_option maxRecDepth 100000 in
set_option maxHeartbeats 1000000 in
theorem rget_all (a : Option Addr) (m c : Nat) (bs : List UInt8) (hm : bs.length = m) (w : World) (hB : Bs w a bs) (hm' : m ≤ 140737488351232) (n : Nat) (hL : n ≤ 255) (hnb : ansByte bs 0 = n) (hw : 0 < w.heap.size) : Calls Tryz.prog 10 #[.slice a m c] w (GetEnd (rB (bs, 0) 1) n w) := by
  have hNew : Calls Tryz.prog 28 #[.slice a m c] w fun e w' => ∃ q g, e = .returned (.pointer (some ⟨q, 0, none⟩)) ∧ w.heap.size ≤ q ∧ g < w'.heap.size ∧ FS w' q g bs (bs, 0) ∧ Below w.heap.size w w' := (fnew_any a m c bs w hm hm' hB).mono fun e w' ⟨q, g, he, h1, h2, h3, h4⟩ => by
    obtain ⟨g', hg', h5⟩ := rfs_low h3 (by omega)
    exact ⟨q, g', he, h1, hg', ⟨0, h5, by simp⟩, h4⟩
  have hFrom : ∀ q g W, FS W q g bs (bs, 0) → g < W.heap.size → Calls Tryz.prog 29 #[.pointer (some ⟨q, 0, none⟩)] W (FromEnd q g bs (rB (bs, 0) 1) n W) := fun q g W H hg => from_any q g bs (bs, 0) W H n hnb hL hg
  generalize rB (bs, 0) 1 = s0 at hFrom ⊢
  clear hnb hB
  have hAll : ∀ W ad k cap L, L.length = k → Vs W ad L → Fair L → k ≤ 255 → Calls Tryz.prog 22 #[.slice ad k cap] W fun e w' => e = .returned (.bool (L.all Val.right)) ∧ Below W.heap.size W w' := fun W ad k cap L h1 h2 h3 h4 => rall_any ad k cap L h1 W h2 h3 (by omega)
  have hFairN : ∀ k, Fair (valsN s0 k) := fun k x hx => by
    obtain ⟨j, _, rfl⟩ := List.mem_map.1 hx
    exact Nat.le_trans (readV_len _) (by decide)
  have hlenN : ∀ k, (valsN s0 k).length = k := fun k => by simp [valsN]
  obtain ⟨GE, hGE⟩ : ∃ GE, GE = GetEnd s0 n w := ⟨_, rfl⟩
  rw [← hGE]
  go_enter Tryz.func10, Tryz.ntmps10
  go_wp2_with (first | (go_at_call 28; refine hNew.mono ?_; rintro e w1 ⟨q, g, rfl, hq1, hg1, H1, hb1⟩) | (go_at_call 29; refine (hFrom q g w1 H1 hg1).mono ?_; rintro e w2 ⟨k, v, hk, hkn, rfl, hrow, H2, hc2⟩; obtain ⟨ad, cap, rfl, hV2⟩ := vs_of_row hrow (hlenN k); have hb2 : Below w.heap.size w w2 := hb1.trans (hc2.below hb1.size (fun i e => by omega)); have hD := fdone_s q g bs _ w2 H2; clear hFrom hNew))
  by_cases hdn : doneOf (stN s0 k).1 (stN s0 k).2 = 0
  · have hkn' : k = n := by
      rcases hkn with h | h
      · exact h
      · exact absurd hdn (done_err h)
    rw [hdn] at hD
    subst hkn'
    have hR := fun W (hW : Below w2.heap.size w2 W) => hAll W ad k cap (valsN s0 k) (hlenN k) (hV2.keep hW) (hFairN k) hL
    cases hA : (valsN s0 k).all Val.right with
    | true =>
      rw [hA] at hR
      go_wp2_with (first | (go_at_call 30; refine hD.mono ?_; rintro e w3 ⟨rfl, hb3⟩; clear hD) | (go_at_call 22; refine (hR _ hb3).mono ?_; rintro e w4 ⟨rfl, hb4⟩))
      rw [hGE]
      exact ⟨hb2.trans ((hb3.trans (hb4.mono hb3.size)).mono hb2.size), .inr ⟨hdn, hA, _, _, rfl, (hV2.keep hb3).keep hb4⟩⟩
    | false =>
      rw [hA] at hR
      go_wp2_with (first | (go_at_call 30; refine hD.mono ?_; rintro e w3 ⟨rfl, hb3⟩; clear hD) | (go_at_call 22; refine (hR _ hb3).mono ?_; rintro e w4 ⟨rfl, hb4⟩))
      rw [hGE]
      exact ⟨hb2.trans ((hb3.trans (hb4.mono hb3.size)).mono hb2.size), .inl ⟨.inr hA, rfl⟩⟩
  · have hne : (doneOf (stN s0 k).1 (stN s0 k).2 != 0) = true := by simp [hdn]
    have hdN : doneOf (stN s0 n).1 (stN s0 n).2 ≠ 0 := by
      rcases hkn with rfl | h
      · exact hdn
      · exact done_err (err_stays s0 k h n hk)
    generalize doneOf (stN s0 k).1 (stN s0 k).2 = dd at hD hne
    go_wp2_with (first | (go_at_call 30; refine hD.mono ?_; rintro e w3 ⟨rfl, hb3⟩; clear hD))
    rw [hGE]
    exact ⟨hb2.trans (hb3.mono hb2.size), .inl ⟨.inl hdN, rfl⟩⟩
end Go.Proofs.YtdmmlgajgpmpbaaGreatDoor
