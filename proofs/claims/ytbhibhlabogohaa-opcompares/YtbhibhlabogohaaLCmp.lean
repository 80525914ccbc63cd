/- The walk of OpCompares. -/
import Derived.Test.YtbhibhlabogohaaOKn
import Derived.Test.YtbhibhlabogohaaOM
namespace Go.Proofs.Ytbhibhlabogohaa
open Go.RowKit
attribute [local go_sem high] eq_val eq_val0
def cmpI (a b : Int) : Int := if a = b then 0 else if a < b then -1 else 1
theorem cmp_ints (a b : Int) : cmpV ⟨1, a, []⟩ ⟨1, b, []⟩ = cmpI a b := by
  unfold cmpV cmpI lessV
  by_cases h : a = b <;> by_cases h2 : a < b <;> simp [h, h2]
def ansI (a b : Int) (j : Nat) : Int := if holdsV (23 + j) (cmpI a b) then 1 else 0
theorem apply_cmp (a b : Int) (k : Nat) (hk : k < 6) : applyV (23 + k) [⟨1, a, []⟩, ⟨1, b, []⟩] = ([⟨3, ansI a b k, []⟩], 0) := by
  have e : ∀ n : Int, HoldOp n → plainB n = true → inT n = [1, 1] → outT n = [3] → faultV n [⟨1, a, []⟩, ⟨1, b, []⟩] = 0 → truthV n [⟨1, a, []⟩, ⟨1, b, []⟩] = holdsV n (cmpI a b) → applyV n [⟨1, a, []⟩, ⟨1, b, []⟩] = ([⟨3, if holdsV n (cmpI a b) then 1 else 0, []⟩], 0) := fun n _ hp hi ho hf ht => by
    rw [apply_ok hp (by rw [hi]; simp [fitsB, Val.right]) hf]
    unfold ansV
    rw [ho, ht]
    rfl
  have : k = 0 ∨ k = 1 ∨ k = 2 ∨ k = 3 ∨ k = 4 ∨ k = 5 := by omega
  rcases this with rfl | rfl | rfl | rfl | rfl | rfl
  all_goals exact e _ (by simp [HoldOp]) rfl rfl rfl rfl (by rw [← cmp_ints]; rfl)
theorem three_on {w wr w5 : World} {o : Obj} {x y : Val} {cs : Array Value} (h : wr.heap[w.heap.size]? = some o) (hb : Below (((wr.alloc x.box).alloc y.box).alloc (.cells cs 45)).heap.size (((wr.alloc x.box).alloc y.box).alloc (.cells cs 45)) w5) : w5.heap[w.heap.size]? = some o := by
  have hl := (Array.getElem?_eq_some_iff.1 h).1
  rw [hb.block _ (by simp; omega), Below.heap_alloc _ _ _ (by simp; omega), Below.heap_alloc _ _ _ (by simp; omega), Below.heap_alloc _ _ _ hl]
  exact h
theorem three_below {w wr w5 : World} {x y : Val} {cs : Array Value} (h : Below w.heap.size w wr) (hb : Below (((wr.alloc x.box).alloc y.box).alloc (.cells cs 45)).heap.size (((wr.alloc x.box).alloc y.box).alloc (.cells cs 45)) w5) : Below w.heap.size w w5 := by
  have := h.size
  exact (((h.alloc h.size _).alloc (by simp; omega) _).alloc (by simp; omega) _).trans (hb.mono (by simp; omega))
def arrK (f : Nat → Int) (k : Nat) : List Value := (List.range 6).map fun j => .int .i64 (if j < k then f j else 0)
theorem arr_step (f : Nat → Int) (k : Nat) (hk : k < 6) : arrK f (k + 1) = (arrK f k).set k (.int .i64 (f k)) := by
  have : k = 0 ∨ k = 1 ∨ k = 2 ∨ k = 3 ∨ k = 4 ∨ k = 5 := by omega
  rcases this with rfl | rfl | rfl | rfl | rfl | rfl <;> rfl
set_option maxHeartbeats 4000000 in
set_option maxRecDepth 100000 in
theorem compares_walk (a b : Int) (w : World) : Calls Try.prog 8 #[.int .i64 a, .int .i64 b] w fun e w' => e = .returned (.bool true) ∧ Below w.heap.size w w' := by
  go_enter Try.func8, Try.ntmps8
  go_wp2
  go_loopw [6] (fun i wr => ∃ k : Nat, k ≤ 6 ∧ i = .int .i64 k ∧ wr.heap[w.heap.size]? = some (.cells (arrK (ansI a b) k).toArray 51 (0, 0)) ∧ Below w.heap.size w wr) (fun i _ => 6 - (intOf i).toNat)
  case atStart => exact ⟨0, by omega, rfl, heap_alloc_new w _, (Below.refl _ w).alloc (Nat.le_refl _) _⟩
  case round =>
    obtain ⟨k, hk, rfl, hh, hb⟩ := hrel
    have hrl := (Array.getElem?_eq_some_iff.1 hh).1
    by_cases hlt : k < 6
    · have hA := fun W p hV => apply_any (23 + k) p 2 2 [⟨1, a, []⟩, ⟨1, b, []⟩] rfl W hV (fair_of (by simp)) (by decide)
      rw [apply_cmp a b k hlt] at hA
      have HS : Hid (arrK (ansI a b) (k + 1) = (arrK (ansI a b) k).set k (.int .i64 (ansI a b k))) := hidV (arr_step _ k hlt)
      have hal : (arrK (ansI a b) k).length = 6 := by simp [arrK]
      generalize arrK (ansI a b) k = A at *
      generalize ansI a b k = r at *
      go_wp2_with (first | (go_at_call 32; refine (number_any' _ _).mono ?_; rintro e w' ⟨rfl, rfl⟩; simp only [Val.box, Val.v]) | (go_at_call 26; refine (hA _ _ (vs_two ((wr.alloc (Val.box ⟨1, a, []⟩)).alloc (Val.box ⟨1, b, []⟩)) ⟨1, a, []⟩ ⟨1, b, []⟩ (wr.heap.size + 1 + 1) (by simp))).mono ?_; rintro e w5 ⟨v5, rfl, hs5, hb5⟩; obtain ⟨b5, off5, rfl, q0, q1, q2⟩ := slv_one hs5; simp only at q0 q1 q2; have hh5 := three_on hh hb5; have hbb := three_below hb hb5; have hc5 : w5.cell? ⟨w.heap.size, k, none⟩ = some (A[k]'(by omega)) := (cell_of_row _ _ k _ _ (0, 0) hh5).trans (by simp [show k < A.length from (by omega)]); have hf5 : w5.frozen? ⟨w.heap.size, k, none⟩ = false := (by simp [World.frozen?, hh5])) | (go_at_call 29; refine (num3_any _ _).mono ?_; rintro e w' ⟨rfl, hw'⟩; replace hw' := hw'.symm; subst hw'))
      refine ⟨⟨k + 1, by omega, by go_num, ?_, hbb.setCell (p := ⟨w.heap.size, k, none⟩) (Nat.le_refl _) _⟩, by simp [intOf]; omega⟩
      rw [HS.out]
      simp [World.setCell, Array.getElem?_modify, hh5]
    · obtain rfl : k = 6 := by omega
      have c0 : wr.cell? ⟨w.heap.size, 0, none⟩ = some (.int .i64 (ansI a b 0)) := by rw [cell_of_row _ _ 0 _ _ (0, 0) hh]; rfl
      have c1 : wr.cell? ⟨w.heap.size, 1, none⟩ = some (.int .i64 (ansI a b 1)) := by rw [cell_of_row _ _ 1 _ _ (0, 0) hh]; rfl
      have c2 : wr.cell? ⟨w.heap.size, 2, none⟩ = some (.int .i64 (ansI a b 2)) := by rw [cell_of_row _ _ 2 _ _ (0, 0) hh]; rfl
      have c3 : wr.cell? ⟨w.heap.size, 3, none⟩ = some (.int .i64 (ansI a b 3)) := by rw [cell_of_row _ _ 3 _ _ (0, 0) hh]; rfl
      have c4 : wr.cell? ⟨w.heap.size, 4, none⟩ = some (.int .i64 (ansI a b 4)) := by rw [cell_of_row _ _ 4 _ _ (0, 0) hh]; rfl
      have c5 : wr.cell? ⟨w.heap.size, 5, none⟩ = some (.int .i64 (ansI a b 5)) := by rw [cell_of_row _ _ 5 _ _ (0, 0) hh]; rfl
      clear hh
      have hk3 := knows3_any wr
      obtain ⟨x, hx⟩ : ∃ x, cmpI a b = x := ⟨_, rfl⟩
      unfold ansI at c0 c1 c2 c3 c4 c5
      rw [hx] at c0 c1 c2 c3 c4 c5
      by_cases hab : a = b
      · subst hab
        obtain rfl : x = 0 := by rw [← hx]; simp [cmpI]
        clear hx
        replace c0 : wr.cell? ⟨w.heap.size, 0, none⟩ = some (.int .i64 1) := c0
        replace c1 : wr.cell? ⟨w.heap.size, 1, none⟩ = some (.int .i64 0) := c1
        replace c2 : wr.cell? ⟨w.heap.size, 2, none⟩ = some (.int .i64 0) := c2
        replace c3 : wr.cell? ⟨w.heap.size, 3, none⟩ = some (.int .i64 1) := c3
        replace c4 : wr.cell? ⟨w.heap.size, 4, none⟩ = some (.int .i64 0) := c4
        replace c5 : wr.cell? ⟨w.heap.size, 5, none⟩ = some (.int .i64 1) := c5
        go_wp2_with (go_at_call 24; refine hk3.mono ?_; rintro e w6 ⟨rfl, hb6⟩)
        go_ret
        exact ⟨rfl, hb.trans (hb6.mono hb.size)⟩
      · have hab' : (a == b) = false := by simp [hab]
        by_cases hlt2 : a < b
        · obtain rfl : x = -1 := by rw [← hx]; simp [cmpI, hab, hlt2]
          clear hx
          replace c0 : wr.cell? ⟨w.heap.size, 0, none⟩ = some (.int .i64 0) := c0
          replace c1 : wr.cell? ⟨w.heap.size, 1, none⟩ = some (.int .i64 1) := c1
          replace c2 : wr.cell? ⟨w.heap.size, 2, none⟩ = some (.int .i64 1) := c2
          replace c3 : wr.cell? ⟨w.heap.size, 3, none⟩ = some (.int .i64 1) := c3
          replace c4 : wr.cell? ⟨w.heap.size, 4, none⟩ = some (.int .i64 0) := c4
          replace c5 : wr.cell? ⟨w.heap.size, 5, none⟩ = some (.int .i64 0) := c5
          go_wp2_with (go_at_call 24; refine hk3.mono ?_; rintro e w6 ⟨rfl, hb6⟩)
          go_ret
          exact ⟨rfl, hb.trans (hb6.mono hb.size)⟩
        · obtain rfl : x = 1 := by rw [← hx]; simp [cmpI, hab, hlt2]
          clear hx
          replace c0 : wr.cell? ⟨w.heap.size, 0, none⟩ = some (.int .i64 0) := c0
          replace c1 : wr.cell? ⟨w.heap.size, 1, none⟩ = some (.int .i64 1) := c1
          replace c2 : wr.cell? ⟨w.heap.size, 2, none⟩ = some (.int .i64 0) := c2
          replace c3 : wr.cell? ⟨w.heap.size, 3, none⟩ = some (.int .i64 0) := c3
          replace c4 : wr.cell? ⟨w.heap.size, 4, none⟩ = some (.int .i64 1) := c4
          replace c5 : wr.cell? ⟨w.heap.size, 5, none⟩ = some (.int .i64 1) := c5
          go_wp2_with (go_at_call 24; refine hk3.mono ?_; rintro e w6 ⟨rfl, hb6⟩)
          go_ret
          exact ⟨rfl, hb.trans (hb6.mono hb.size)⟩
end Go.Proofs.Ytbhibhlabogohaa
