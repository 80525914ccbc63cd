/- The law ValueBytes. -/
import Derived.Test.YtdmmlgajgpmpbaaGreatDoorVFb
import Derived.Test.YtdmmlgajgpmpbaaGreatDoorVFg
import Derived.Test.YtdmmlgajgpmpbaaGreatDoorVK
import Derived.Test.YtdmmlgajgpmpbaaGreatDoorVC
import Derived.Test.YtdmmlgajgpmpbaaGreatDoorVO
import Derived.Test.YtdmmlgajgpmpbaaGreatDoorLSums
namespace Go.Proofs.YtdmmlgajgpmpbaaGreatDoor
open Go.RowKit Go.Shelf
attribute [local go_sem high] eq_val eq_val0
/-- What Put answers of values: the bytes and the error. -/
def putB (L : List Val) : List UInt8 := if 255 < L.length ∨ L.all Val.right = false then [] else encL L
def putE (L : List Val) : Int := if 255 < L.length then 6 else if L.all Val.right = false then 1 else 0
/-- What Get answers of bytes: the values and the error. -/
def getV (s : RSt) (n : Nat) : List Val := if doneOf (stN s n).1 (stN s n).2 ≠ 0 ∨ (valsN s n).all Val.right = false then [] else valsN s n
def getE (s : RSt) (n : Nat) : Int := if doneOf (stN s n).1 (stN s n).2 ≠ 0 ∨ (valsN s n).all Val.right = false then 21 else 0
theorem put_form {L : List Val} {e : Ending} {w' : World}
    (h : (255 < L.length ∧ e = .returned (.tuple #[.slice none 0 0, .int .i64 6])) ∨ (L.length ≤ 255 ∧ L.all Val.right = false ∧ e = .returned (.tuple #[.slice none 0 0, .int .i64 1])) ∨
     (L.length ≤ 255 ∧ L.all Val.right = true ∧ ∃ ao cap, e = .returned (.tuple #[.slice ao (encL L).length cap, .int .i64 0]) ∧ Bs w' ao (encL L))) :
    ∃ ao cap, e = .returned (.tuple #[.slice ao (putB L).length cap, .int .i64 (putE L)]) ∧ Bs w' ao (putB L) := by
  rcases h with ⟨h1, rfl⟩ | ⟨h1, h2, rfl⟩ | ⟨h1, h2, ao, cap, rfl, h3⟩
  · exact ⟨none, 0, by simp [putB, putE, h1], .inl (by simp [putB, h1])⟩
  · exact ⟨none, 0, by simp [putB, putE, h2, Nat.not_lt.2 h1], .inl (by simp [putB, h2])⟩
  · have e1 : putB L = encL L := by simp [putB, h2, Nat.not_lt.2 h1]
    have e2 : putE L = 0 := by simp [putE, h2, Nat.not_lt.2 h1]
    rw [e1, e2]
    exact ⟨ao, cap, rfl, h3⟩
theorem get_form {s : RSt} {n : Nat} {w : World} {e : Ending} {w' : World} (h : GetEnd s n w e w') : (∃ ad cap, e = .returned (.tuple #[.slice ad (getV s n).length cap, .int .i64 (getE s n)]) ∧ Vs w' ad (getV s n)) ∧ Below w.heap.size w w' := by
  obtain ⟨hb, h⟩ := h
  refine ⟨?_, hb⟩
  rcases h with ⟨h1, rfl⟩ | ⟨h1, h2, ad, cap, rfl, h3⟩
  · have e1 : getV s n = [] := by unfold getV; rw [if_pos h1]
    have e2 : getE s n = 21 := by unfold getE; rw [if_pos h1]
    rw [e1, e2]
    exact ⟨none, 0, rfl, .inl rfl⟩
  · have hn : ¬ (doneOf (stN s n).1 (stN s n).2 ≠ 0 ∨ (valsN s n).all Val.right = false) := by
      rw [h1, h2]; simp
    have e1 : getV s n = valsN s n := by unfold getV; rw [if_neg hn]
    have e2 : getE s n = 0 := by unfold getE; rw [if_neg hn]
    rw [e1, e2, show (valsN s n).length = n by simp [valsN]]
    exact ⟨ad, cap, rfl, h3⟩
theorem getV_len (s : RSt) (n : Nat) : (getV s n).length ≤ n := by
  unfold getV
  split
  · simp
  · simp [valsN]
set_option maxRecDepth 100000 in
set_option maxHeartbeats 4000000 in
theorem bytes_walk (a : Option Addr) (n c : Nat) (L : List Val) (hn : L.length = n) (ab : Option Addr) (m cb : Nat) (bs : List UInt8) (hm : bs.length = m) (w : World) (hL : Laid w) (hV : Vs w a L) (hF : Fair L) (hl : n * 32 ≤ 140737488351232) (hB : Bs w ab bs) (hm' : m ≤ 140737488351232) : Calls Tryz.prog 3 #[.slice a n c, .slice ab m cb] w fun e w' => e = .returned (.bool true) ∧ Below w.heap.size w w' := by
  have hK := fun W hW => knows2_any W hW
  have hOw := fun W (hW : Below w.heap.size w W) => own_any a n c L hn W (hV.keep hW) (by omega)
  obtain ⟨k, hk, hnb⟩ := ansByte_nat bs 0
  have hP1 : ∀ W oa oc, Vs W oa L → Calls Tryz.prog 7 #[.slice oa n oc] W fun e w' => (∃ ao cap, e = .returned (.tuple #[.slice ao (putB L).length cap, .int .i64 (putE L)]) ∧ Bs w' ao (putB L)) ∧ Below W.heap.size W w' := fun W oa oc h => (put_any oa n oc L hn W h hF (by omega)).mono fun e w' ⟨hb, he⟩ => ⟨put_form (by
    rcases he with h | h | ⟨h1, h2, a', h3, h4⟩
    · exact .inl h
    · exact .inr (.inl h)
    · exact .inr (.inr ⟨h1, h2, _, _, h3, h4⟩)), hb⟩
  have hP2 : ∀ W, Below w.heap.size w W → Calls Tryz.prog 8 #[.slice a n c] W fun e w' => (∃ ao cap, e = .returned (.tuple #[.slice ao (putB L).length cap, .int .i64 (putE L)]) ∧ Bs w' ao (putB L)) ∧ Below W.heap.size W w' := fun W hW => (rput_any a n c L hn W (hV.keep hW) hF (by omega)).mono fun e w' ⟨hb, he⟩ => ⟨put_form he, hb⟩
  have hG1 : ∀ W ga gc, Bs W ga bs → Calls Tryz.prog 9 #[.slice ga m gc] W fun e w' => (∃ ad cap, e = .returned (.tuple #[.slice ad (getV (rB (bs, 0) 1) k).length cap, .int .i64 (getE (rB (bs, 0) 1) k)]) ∧ Vs w' ad (getV (rB (bs, 0) 1) k)) ∧ Below W.heap.size W w' := fun W ga gc h => (get_all ga m gc bs hm W h (by omega) k hk hnb).mono fun e w' h => get_form h
  have hG2 : ∀ W, Below w.heap.size w W → 0 < W.heap.size → Calls Tryz.prog 10 #[.slice ab m cb] W fun e w' => (∃ ad cap, e = .returned (.tuple #[.slice ad (getV (rB (bs, 0) 1) k).length cap, .int .i64 (getE (rB (bs, 0) 1) k)]) ∧ Vs w' ad (getV (rB (bs, 0) 1) k)) ∧ Below W.heap.size W w' := fun W hW h0 => (rget_all ab m cb bs hm W (hB.keep (below_keep hW)) hm' k hk hnb h0).mono fun e w' h => get_form h
  have hgl := getV_len (rB (bs, 0) 1) k
  generalize putB L = pb at hP1 hP2
  generalize putE L = pe at hP1 hP2
  generalize getE (rB (bs, 0) 1) k = ge at hG1 hG2
  generalize getV (rB (bs, 0) 1) k = gv at hG1 hG2 hgl
  obtain ⟨np, hnp⟩ : ∃ np, pb.length = np := ⟨_, rfl⟩
  obtain ⟨ng, hng⟩ : ∃ ng, gv.length = ng := ⟨_, rfl⟩
  rw [hnp] at hP1 hP2
  rw [hng] at hG1 hG2 hgl
  have hS1 : ∀ W p q cp cq, Vs W p L → Vs W q L → Calls Tryz.prog 12 #[.slice p n cp, .slice q n cq] W fun e w' => e = .returned (.bool true) ∧ Below W.heap.size W w' := fun W p q cp cq h1 h2 => same_any p q n cp cq L hn W h1 h2 (by omega)
  have hS2 : ∀ W p q cp cq, Vs W p gv → Vs W q gv → Calls Tryz.prog 12 #[.slice p ng cp, .slice q ng cq] W fun e w' => e = .returned (.bool true) ∧ Below W.heap.size W w' := fun W p q cp cq h1 h2 => same_any p q ng cp cq gv hng W h1 h2 (by omega)
  have hSt : ∀ W g c1, OwnB W w.heap.size (.slice (some ⟨g, 0, none⟩) (m + 2) c1) (bs ++ [77, 78]) → Below w.heap.size w W → Calls Tryz.prog 13 #[.slice (some ⟨g, 0, none⟩) m c1, .slice ab m cb] W fun e w' => e = .returned (.bool true) ∧ Below W.heap.size W w' := fun W g c1 hO hW => stays_any g m c1 _ bs ab cb W hm hm' hO (hB.keep (below_keep hW))
  have hLe := lent_any ab m cb bs w hm hm' hB
  clear hk hnb hgl
  go_enter Tryz.func3, Tryz.ntmps3
  go_wp2_with (first | (go_at_call 5; refine hLe.mono ?_; rintro e w1 ⟨g, c1, rfl, hO1, hb1⟩; obtain ⟨hL1, _, _⟩ := lent_bs hm hO1) | (go_at_call 6; refine (hOw _ hb1).mono ?_; rintro e w2 ⟨oa, oc, rfl, hV2, hb2⟩; have hbw2 := hb1.trans (hb2.mono hb1.size)) | (go_at_call 7; refine (hP1 _ _ _ hV2).mono ?_; rintro e w3 ⟨⟨pa, pc, rfl, hP3⟩, hb3⟩; have hbw3 := hbw2.trans (hb3.mono hbw2.size); clear hP1) | (go_at_call 8; refine (hP2 _ hbw3).mono ?_; rintro e w4 ⟨⟨qa, qc, rfl, hP4⟩, hb4⟩; have hbw4 := hbw3.trans (hb4.mono hbw3.size); have hL4 := Bs.keep hL1 (below_keep ((hb2.trans (hb3.mono hb2.size)).trans (hb4.mono (Nat.le_trans hb2.size hb3.size)))); clear hP2) | (go_at_call 9; refine (hG1 _ _ _ hL4).mono ?_; rintro e w5 ⟨⟨ya, yc, rfl, hY5⟩, hb5⟩; have hbw5 := hbw4.trans (hb5.mono hbw4.size); clear hG1))
  have h50 : 0 < w5.heap.size := by
    have h1 := (Own.lt hO1 g rfl).2
    have h2 := hb2.size
    have h3 := hb3.size
    have h4 := hb4.size
    have h5 := hb5.size
    omega
  have hb35 : Below w3.heap.size w3 w5 := hb4.trans (hb5.mono hb4.size)
  have hb15 : Below w1.heap.size w1 w5 := (hb2.trans (hb3.mono hb2.size)).trans (hb35.mono (Nat.le_trans hb2.size hb3.size))
  have hb25 : Below w2.heap.size w2 w5 := hb3.trans (hb35.mono hb3.size)
  have hO5 := Own.below hO1 hb15
  have hV5 := hV2.keep hb25
  have hP5 := Bs.keep hP3 (below_keep hb35)
  have hQ5 := Bs.keep hP4 (below_keep hb5)
  clear hb35 hb15 hb25 hO1 hV2 hP3 hP4 hL4 hL1 hb1 hb2 hb3 hb4 hb5 hbw2 hbw3 hbw4 hLe hOw
  refine (hG2 w5 hbw5 h50).mono ?_
  rintro e w6 ⟨⟨za, zc, rfl, hZ6⟩, hb6⟩
  have hbw6 := hbw5.trans (hb6.mono hbw5.size)
  have hO6 := Own.below hO5 hb6
  have hV6 := hV5.keep hb6
  have hY6 := hY5.keep hb6
  have hA6 := hV.keep hbw6
  have s3 := run_str (Bs.keep hP5 (below_keep hb6)) pc
  have s4 := run_str (Bs.keep hQ5 (below_keep hb6)) qc
  rw [hnp] at s3 s4
  clear hG2 hO5 hV5 hY5 hP5 hQ5 hb6 hnp hng
  go_wp2_with (first | (go_at_call 11; refine (num2_any _ _).mono ?_; rintro e w' ⟨rfl, rfl⟩) | (go_at_call 12; first | (refine (hS2 _ _ _ _ _ hY6 hZ6).mono ?_; rintro e w7 ⟨rfl, hb7⟩; have hbw7 := hbw6.trans (hb7.mono hbw6.size); have hV7 := hV6.keep hb7; have hA7 := hA6.keep hb7; clear hS2) | (refine (hS1 _ _ _ _ _ hV7 hA7).mono ?_; rintro e w8 ⟨rfl, hb8⟩; have hbw8 := hbw7.trans (hb8.mono hbw7.size); have hO8 := Own.below hO6 (hb7.trans (hb8.mono hb7.size)); clear hS1)) | (go_at_call 13; refine (hSt _ _ _ hO8 hbw8).mono ?_; rintro e w9 ⟨rfl, hb9⟩; have hbw9 := hbw8.trans (hb9.mono hbw8.size)) | (go_at_call 14; refine (hK _ (hL.keep hbw9)).mono ?_; rintro e w10 ⟨rfl, hb10⟩))
  go_ret
  exact ⟨rfl, hbw9.trans (hb10.mono hbw9.size)⟩
end Go.Proofs.YtdmmlgajgpmpbaaGreatDoor
