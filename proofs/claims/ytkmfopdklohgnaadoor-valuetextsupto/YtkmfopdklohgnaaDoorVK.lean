/- Layer 2's check 'knows'. -/
import Derived.Test.YtkmfopdklohgnaaDoorVW
namespace Go.Proofs.YtkmfopdklohgnaaDoor
open Go.RowKit Go.Shelf
attribute [local go_sem high] eq_val eq_val0
theorem num2_any (n : Int) (w : World) : Calls Tryd.prog 10 #[.int .i64 n] w fun e w' => e = .returned (.int .i64 n) ∧ w' = w := by
  go_enter Tryd.func10, Tryd.ntmps10
  go_wp2
  go_ret
  exact ⟨rfl, rfl⟩
theorem piece_length : ∀ (n : Nat) (s : List UInt8), s.length ≤ n → ∀ x ∈ pieces s, x.length ≤ s.length
  | n, s, hn, x, hx => by
    rcases idx_cases s with h | ⟨o, h⟩
    · rw [pieces_none h] at hx
      simp at hx
      subst hx
      exact Nat.le_refl _
    · rw [pieces_some h] at hx
      have hlt := idx_lt h
      rcases List.mem_cons.1 hx with rfl | hx
      · simp only [List.length_take]; omega
      · cases n with
        | zero => omega
        | succ n =>
          have := piece_length n (s.drop (o + 1)) (by simp; omega) x hx
          simp at this
          omega
/-- How Parse ends, of any text but the empty one. -/
theorem parse_all (s : List UInt8) (w : World) (hL : Laid w) (hs0 : s ≠ []) (hs : s.length ≤ 1048576) : Calls Tryd.prog 5 #[.string ⟨s.toArray⟩] w (ParseEnd s readOf w) :=
  parse_any s w hs0 hs readOf fun x hx W hB => readWord_any x (Nat.le_trans (piece_length _ s (Nat.le_refl _) x hx) hs) W (hL.keep hB)
def three : List Val := [⟨1, -5, []⟩, ⟨2, 0, [97]⟩, ⟨3, 1, []⟩]
def threeText : List UInt8 := [45, 53, 32, 120, 39, 54, 49, 39, 32, 116, 114, 117, 101]
theorem three_print : printOf three = threeText := by decide +kernel
theorem three_pieces : pieces threeText = [[45, 53], [120, 39, 54, 49, 39], [116, 114, 117, 101]] := by
  rw [show threeText = [45, 53, 32, 120, 39, 54, 49, 39, 32, 116, 114, 117, 101] from rfl, pieces_some (o := 2) (by decide +kernel)]
  simp only [List.take, List.drop]
  rw [pieces_some (o := 5) (by decide +kernel)]
  simp only [List.take, List.drop]
  rw [pieces_none (by decide +kernel)]
theorem read_1 : readOf [45, 53] = some ⟨1, -5, []⟩ := by decide +kernel
theorem read_2 : readOf [120, 39, 54, 49, 39] = some ⟨2, 0, [97]⟩ := by decide +kernel
theorem read_3 : readOf [116, 114, 117, 101] = some ⟨3, 1, []⟩ := by decide +kernel
theorem three_parse (w : World) (hL : Laid w) : Calls Tryd.prog 5 #[.string ⟨threeText.toArray⟩] w fun e w' => ∃ a c, e = .returned (.tuple #[.slice (some a) 3 c, .int .i64 0]) ∧ Vs w' (some a) three ∧ Below w.heap.size w w' := by
  refine (parse_all threeText w hL (by decide) (by decide)).mono ?_
  rintro e w' ⟨hb, ⟨_, v, rfl, hrow⟩ | ⟨⟨x, hx, hn⟩, _⟩⟩
  · rw [three_pieces] at hrow
    have hc : cellsOf' (valsOf readOf [[45, 53], [120, 39, 54, 49, 39], [116, 114, 117, 101]]) = [.int .i64 1, .int .i64 (-5), .string ⟨#[]⟩, .int .i64 2, .int .i64 0, .string ⟨#[97]⟩, .int .i64 3, .int .i64 1, .string ⟨#[]⟩] := by
      simp [valsOf, cellsOf', Val.cs, read_1, read_2, read_3]
    rw [hc] at hrow
    rcases hrow.2 with ⟨h, h0⟩ | ⟨g, cap, cur, rfl, hr⟩
    · simp at h0
    · refine ⟨⟨g, 0, none⟩, cap, rfl, .inr ⟨g, 0, rfl, fun j hj => ?_⟩, hb⟩
      have hcell := World.ownsRow.cells hrow (g := g) rfl
      simp only [Addr.add_lit] at hcell
      have : j = 0 ∨ j = 1 ∨ j = 2 := by simp [three] at hj; omega
      rcases this with rfl | rfl | rfl
      · exact ⟨hcell 0 _ rfl, hcell 1 _ rfl, hcell 2 _ rfl⟩
      · exact ⟨hcell 3 _ rfl, hcell 4 _ rfl, hcell 5 _ rfl⟩
      · exact ⟨hcell 6 _ rfl, hcell 7 _ rfl, hcell 8 _ rfl⟩
  · rw [three_pieces] at hx
    simp at hx
    rcases hx with rfl | rfl | rfl
    · rw [read_1] at hn; cases hn
    · rw [read_2] at hn; cases hn
    · rw [read_3] at hn; cases hn
set_option maxRecDepth 100000 in
set_option maxHeartbeats 1000000 in
theorem knows2_any (w : World) (hL : Laid w) : Calls Tryd.prog 11 #[] w fun e w' => e = .returned (.bool true) ∧ Below w.heap.size w w' := by
  have hP : ∀ W a, Laid W → Vs W a three → Calls Tryd.prog 7 #[.slice a 3 3] W fun e w' => e = .returned (.string ⟨threeText.toArray⟩) ∧ Below W.heap.size W w' := fun W a hW hV => by
    have := print_any a 3 3 three rfl W hW.pow hV (fun y hy => by simp [three] at hy; rcases hy with rfl | rfl | rfl <;> simp) (by decide) (by decide +kernel)
    rw [three_print] at this
    exact this
  have hQ := fun W hW => three_parse W hW
  have hR : ∀ W, Calls Tryd.prog 23 #[.agg #[.int .i64 1, .int .i64 (-5), .string ⟨#[]⟩]] W fun e w' => e = .returned (.bool true) ∧ Below W.heap.size W w' := fun W => right_any ⟨1, -5, []⟩ (by simp) W
  have hb0 : Below w.heap.size w ((((w.alloc (Val.box ⟨1, -5, []⟩)).alloc (Val.box ⟨2, 0, [97]⟩)).alloc (Val.box ⟨3, 1, []⟩)).alloc (Val.box ⟨3, 1, []⟩)) := (((((Below.refl _ w).alloc (Nat.le_refl _) _).alloc (by simp) _).alloc (by simp; omega) _).alloc (by simp; omega) _)
  go_enter Tryd.func11, Tryd.ntmps11
  go_wp2_with (first | (go_at_call 21; refine (text_any' [97] _).mono ?_; rintro e w' ⟨rfl, rfl⟩; simp only [Val.box, Val.v]) | (go_at_call 20; refine (number_any' _ _).mono ?_; rintro e w' ⟨rfl, rfl⟩; simp only [Val.box, Val.v]) | (go_at_call 22; refine (truth_any' true _).mono ?_; rintro e w' ⟨rfl, rfl⟩; simp only [Val.box, Val.v, Val.truth]) | (go_at_call 7; have hb1 := hb0.alloc hb0.size (.cells #[.int .i64 1, .int .i64 (-5), .string ⟨#[]⟩, .int .i64 2, .int .i64 0, .string ⟨#[97]⟩, .int .i64 3, .int .i64 1, .string ⟨#[]⟩] 39); refine (hP _ _ (hL.keep hb1) (vsThree ((((w.alloc (Val.box ⟨1, -5, []⟩)).alloc (Val.box ⟨2, 0, [97]⟩)).alloc (Val.box ⟨3, 1, []⟩)).alloc (Val.box ⟨3, 1, []⟩)) ⟨1, -5, []⟩ ⟨2, 0, [97]⟩ ⟨3, 1, []⟩ (w.heap.size + 1 + 1 + 1 + 1) (by simp))).mono ?_; rintro e w2 ⟨rfl, hb2⟩; have hb2' := hb1.trans (hb2.mono hb1.size); clear hb1) | (go_at_call 5; refine (hQ _ (hL.keep hb2')).mono ?_; rintro e w3 ⟨a, c, rfl, hV, hb3⟩; rcases hV with h0 | ⟨b, off, hao, hc⟩; (exact absurd h0 (by decide)); obtain ⟨c0, c1, c2⟩ := hc 0 (by decide); cases hao; simp only [Nat.zero_mul, Nat.add_zero, three, List.getElem_cons_zero] at c0 c1 c2) | (go_at_call 23; refine (hR _).mono ?_; rintro e w4 ⟨rfl, hb4⟩) | (go_at_call 10; refine (num2_any _ _).mono ?_; rintro e w' ⟨rfl, rfl⟩))
  go_ret
  exact ⟨rfl, hb2'.trans ((hb3.mono hb2'.size).trans (hb4.mono (Nat.le_trans hb2'.size hb3.size)))⟩
end Go.Proofs.YtkmfopdklohgnaaDoor
