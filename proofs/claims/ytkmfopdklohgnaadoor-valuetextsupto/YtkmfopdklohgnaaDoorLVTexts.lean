/- The law ValueTexts. -/
import Derived.Test.YtkmfopdklohgnaaDoorVTq
import Derived.Test.YtkmfopdklohgnaaDoorVXp
import Derived.Test.YtkmfopdklohgnaaDoorVC
namespace Go.Proofs.YtkmfopdklohgnaaDoor
open Go.RowKit Go.Shelf
attribute [local go_sem high] eq_val eq_val0
/-- What Parse answers: the values and the error. -/
def parseV (s : List UInt8) : List Val := if s ≠ [] ∧ (pieces s).all (fun x => (readOf x).isSome) = true then valsOf readOf (pieces s) else []
def parseE (s : List UInt8) : Int := if s ≠ [] ∧ (pieces s).all (fun x => (readOf x).isSome) = false then 21 else 0
theorem parse_form {s : List UInt8} (hs0 : s ≠ []) {w : World} {e : Ending} {w' : World} (h : ParseEnd s readOf w e w') : (∃ ad cap, e = .returned (.tuple #[.slice ad (parseV s).length cap, .int .i64 (parseE s)]) ∧ Vs w' ad (parseV s)) ∧ Below w.heap.size w w' := by
  obtain ⟨hb, h⟩ := h
  refine ⟨?_, hb⟩
  rcases h with ⟨h1, v, rfl, hrow⟩ | ⟨⟨x, hx, hn⟩, rfl⟩
  · have ha : (pieces s).all (fun x => (readOf x).isSome) = true := List.all_eq_true.2 h1
    have e1 : parseV s = valsOf readOf (pieces s) := by unfold parseV; rw [if_pos ⟨hs0, ha⟩]
    have e2 : parseE s = 0 := by unfold parseE; rw [ha]; simp
    rw [cells_same] at hrow
    obtain ⟨ad, cap, rfl, hV⟩ := vs_of_row hrow (by simp [valsOf])
    rw [e1, e2]
    exact ⟨ad, cap, by simp [valsOf], hV⟩
  · have ha : (pieces s).all (fun x => (readOf x).isSome) = false := by
      cases h : (pieces s).all (fun x => (readOf x).isSome) with
      | false => rfl
      | true =>
        have := List.all_eq_true.1 h x hx
        rw [hn] at this
        cases this
    have e1 : parseV s = [] := by unfold parseV; rw [ha]; simp
    have e2 : parseE s = 21 := by unfold parseE; rw [if_pos ⟨hs0, ha⟩]
    rw [e1, e2]
    exact ⟨none, 0, rfl, .inl rfl⟩
theorem parse_nil {w : World} {e : Ending} {w' : World} (h : e = .returned (.tuple #[.slice none 0 0, .int .i64 0]) ∧ Below w.heap.size w w') : (∃ ad cap, e = .returned (.tuple #[.slice ad (parseV []).length cap, .int .i64 (parseE [])]) ∧ Vs w' ad (parseV [])) ∧ Below w.heap.size w w' :=
  ⟨⟨none, 0, by rw [h.1]; simp [parseV, parseE], .inl (by simp [parseV])⟩, h.2⟩
theorem parseV_len (s : List UInt8) : (parseV s).length ≤ s.length + 1 := by
  have := pieces_length _ s (Nat.le_refl _)
  unfold parseV
  split
  · simpa [valsOf] using this
  · simp
set_option maxRecDepth 100000 in
set_option maxHeartbeats 4000000 in
theorem texts_walk (a : Option Addr) (n c : Nat) (L : List Val) (hn : L.length = n) (s : List UInt8) (w : World) (hL : Laid w) (hV : Vs w a L) (hG : Good L) (hl : n ≤ 1048576) (hs : s.length ≤ 1048576) : Calls Tryd.prog 3 #[.slice a n c, .string ⟨s.toArray⟩] w fun e w' => e = .returned (.bool true) ∧ Below w.heap.size w w' := by
  have hK := fun W hW => knows2_any W hW
  have hOw := own_any a n c L hn w hV (by omega)
  have hP1 : ∀ W, Laid W → Calls Tryd.prog 5 #[.string ⟨s.toArray⟩] W fun e w' => (∃ ad cap, e = .returned (.tuple #[.slice ad (parseV s).length cap, .int .i64 (parseE s)]) ∧ Vs w' ad (parseV s)) ∧ Below W.heap.size W w' := fun W hW => by
    by_cases h0 : s = []
    · subst h0; exact (parse_none W).mono fun e w' h => parse_nil h
    · exact (parse_all s W hW h0 hs).mono fun e w' h => parse_form h0 h
  have hP2 : ∀ W, Calls Tryd.prog 6 #[.string ⟨s.toArray⟩] W fun e w' => (∃ ad cap, e = .returned (.tuple #[.slice ad (parseV s).length cap, .int .i64 (parseE s)]) ∧ Vs w' ad (parseV s)) ∧ Below W.heap.size W w' := fun W => by
    by_cases h0 : s = []
    · subst h0; exact (rparse_none W).mono fun e w' h => parse_nil h
    · exact (rparse_any s W h0 hs).mono fun e w' h => parse_form h0 h
  have hpl : (printList L).length ≤ 140737488355328 := by
    have := join_len (L.map wordOf) 2097155 fun y hy => by
      obtain ⟨z, hz, rfl⟩ := List.mem_map.1 hy
      exact word_len z (hG z hz).2.1 (hG z hz).2.2 (hG z hz).1
    simp only [List.length_map] at this
    unfold printList
    have : L.length * 2097156 ≤ 1048576 * 2097156 := Nat.mul_le_mul_right _ (by omega)
    omega
  have hR1 : ∀ W oa oc, Laid W → Vs W oa L → Calls Tryd.prog 7 #[.slice oa n oc] W fun e w' => e = .returned (.string ⟨(printOf L).toArray⟩) ∧ Below W.heap.size W w' := fun W oa oc hW h => print_any oa n oc L hn W hW.pow h hG (by omega) hpl
  have hR2 : ∀ W, Vs W a L → Calls Tryd.prog 8 #[.slice a n c] W fun e w' => e = .returned (.string ⟨(printOf L).toArray⟩) ∧ Below W.heap.size W w' := fun W h => rprint_any a n c L hn W h hG (by omega)
  have hgl := parseV_len s
  generalize parseE s = pe at hP1 hP2
  generalize parseV s = pv at hP1 hP2 hgl
  generalize printOf L = txt at hR1 hR2
  obtain ⟨np, hnp⟩ : ∃ np, pv.length = np := ⟨_, rfl⟩
  rw [hnp] at hP1 hP2 hgl
  have hS1 : ∀ W p q cp cq, Vs W p L → Vs W q L → Calls Tryd.prog 9 #[.slice p n cp, .slice q n cq] W fun e w' => e = .returned (.bool true) ∧ Below W.heap.size W w' := fun W p q cp cq h1 h2 => same_any p q n cp cq L hn W h1 h2 (by omega)
  have hS2 : ∀ W p q cp cq, Vs W p pv → Vs W q pv → Calls Tryd.prog 9 #[.slice p np cp, .slice q np cq] W fun e w' => e = .returned (.bool true) ∧ Below W.heap.size W w' := fun W p q cp cq h1 h2 => same_any p q np cp cq pv hnp W h1 h2 (by omega)
  clear hgl hpl hG hnp
  go_enter Tryd.func3, Tryd.ntmps3
  go_wp2_with (first | (go_at_call 4; refine hOw.mono ?_; rintro e w1 ⟨oa, oc, rfl, hV1, hb1⟩; clear hOw) | (go_at_call 5; refine (hP1 _ (hL.keep hb1)).mono ?_; rintro e w2 ⟨⟨ya, yc, rfl, hY2⟩, hb2⟩; have hbw2 := hb1.trans (hb2.mono hb1.size); clear hP1) | (go_at_call 6; refine (hP2 _).mono ?_; rintro e w3 ⟨⟨za, zc, rfl, hZ3⟩, hb3⟩; have hbw3 := hbw2.trans (hb3.mono hbw2.size); have hY3 := hY2.keep hb3; have hV3 := (hV1.keep hb2).keep hb3; clear hP2 hY2) | (go_at_call 7; refine (hR1 _ _ _ (hL.keep hbw3) hV3).mono ?_; rintro e w4 ⟨rfl, hb4⟩; have hbw4 := hbw3.trans (hb4.mono hbw3.size); clear hR1) | (go_at_call 8; refine (hR2 _ (hV.keep hbw4)).mono ?_; rintro e w5 ⟨rfl, hb5⟩; have hbw5 := hbw4.trans (hb5.mono hbw4.size); have hb35 := hb4.trans (hb5.mono hb4.size); have hY5 := hY3.keep hb35; have hZ5 := hZ3.keep hb35; have hV5 := hV3.keep hb35; clear hR2) | (go_at_call 10; refine (num2_any _ _).mono ?_; rintro e w' ⟨rfl, rfl⟩) | (go_at_call 9; first | (refine (hS2 _ _ _ _ _ hY5 hZ5).mono ?_; rintro e w6 ⟨rfl, hb6⟩; have hbw6 := hbw5.trans (hb6.mono hbw5.size); have hV6 := hV5.keep hb6; have hA6 := hV.keep hbw6; clear hS2) | (refine (hS1 _ _ _ _ _ hV6 hA6).mono ?_; rintro e w7 ⟨rfl, hb7⟩; have hbw7 := hbw6.trans (hb7.mono hbw6.size); clear hS1)) | (go_at_call 11; refine (hK _ (hL.keep hbw7)).mono ?_; rintro e w8 ⟨rfl, hb8⟩))
  go_ret
  exact ⟨rfl, hbw7.trans (hb8.mono hbw7.size)⟩
end Go.Proofs.YtkmfopdklohgnaaDoor
