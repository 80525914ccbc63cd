/- The document's answer. -/
import Derived.Test.YtkmfopdklohgnaaPC
import Derived.Test.YtkmfopdklohgnaaOR
namespace Go.Proofs.Ytkmfopdklohgnaa
open Go.RowKit
attribute [local go_sem high] eq_val eq_val0
theorem rtruth_any' (c : Bool) (w : World) : Calls Try.prog 31 #[.bool c] w fun e w' => e = .returned (Val.v (Val.truth c)) ∧ w' = w.alloc (Val.box (Val.truth c)) := by
  cases c
  all_goals
    go_enter Try.func31, Try.ntmps31
    go_wp2
    first
      | exact ret_val w (Val.truth false) rfl rfl rfl ⟨rfl, rfl⟩
      | exact ret_val w (Val.truth true) rfl rfl rfl ⟨rfl, rfl⟩
theorem box_after (w : World) {w3 : World} (hb : Below (w.alloc (Val.box ⟨0, 0, []⟩)).heap.size (w.alloc (Val.box ⟨0, 0, []⟩)) w3) : w3.heap[w.heap.size]? = some (.cells #[.int .i64 0, .int .i64 0, .string ⟨#[]⟩] 39 (0, 0)) := by
  rw [hb.block _ (by simp)]
  exact heap_alloc_new w _
/-- The cell of an old block, behind what was laid since. -/
theorem cell_on {w w2 : World} {o : Obj} {a : Addr} {v : Value} (h : w.cell? a = some v) (hb : Below (w.alloc o).heap.size (w.alloc o) w2) : w2.cell? a = some v := cell_below (keep_alloc w o _ _ h) hb
def Answers (v : Val) (er : Int) (w : World) (e : Ending) (w' : World) : Prop := e = .returned (.tuple #[v.v, .int .i64 er]) ∧ Below w.heap.size w w'
set_option maxHeartbeats 1000000 in
set_option maxRecDepth 100000 in
theorem ra_num (n a b res er : Int) (r : List UInt8) (bk off c : Nat) (w : World) (c01 : w.cell? ⟨bk, off + 1, none⟩ = some (.int .i64 a)) (c11 : w.cell? ⟨bk, off + 3 + 1, none⟩ = some (.int .i64 b))
    (hN : ∀ W, Calls Try.prog 30 #[.int .i64 n] W fun e w' => e = .returned (.string ⟨r.toArray⟩) ∧ Below W.heap.size W w')
    (hC : ∀ W, Calls Try.prog 32 #[.string ⟨r.toArray⟩, .int .i64 a, .int .i64 b] W fun e w' => e = .returned (.tuple #[.int .i64 res, .int .i64 er]) ∧ w' = W)
    (h3 : (n == 3) = false) (h4 : (n == 4) = false) (hn : (r == [110, 101, 103]) = false) (hi : (r == [105, 110, 118]) = false) (g1 : 11 ≤ n) (g2 : n ≤ 22) :
    Calls Try.prog 18 #[.int .i64 n, .slice (some ⟨bk, off, none⟩) 2 c] w (Answers ⟨1, res, []⟩ er w) := by
  go_enter Try.func18, Try.ntmps18
  go_wp2_with (go_at_call 30; refine (hN _).mono ?_; rintro e w2 ⟨rfl, hb2⟩; replace c01 := cell_on c01 hb2; replace c11 := cell_on c11 hb2; have hbx := box_after w hb2; obtain ⟨⟨q0, q1, q2⟩, f0, f1, f2⟩ := box_cells hbx)
  go_quiet ((go_at_call 32; exact Calls.quiet_of_same (hC _)))
  go_wp2
  refine ret_mix (x := ⟨1, res, []⟩) rfl rfl rfl rfl (set3 (W := w2.drewN nq) hbx rfl ⟨1, res, []⟩) ⟨rfl, ?_⟩
  exact below3 (below_draws (((Below.refl _ w).alloc (Nat.le_refl _) _).trans (hb2.mono (by simp))) nq)
set_option maxHeartbeats 1000000 in
set_option maxRecDepth 100000 in
theorem ra_cmp (n a b : Int) (q : Bool) (r : List UInt8) (bk off c : Nat) (w : World) (c01 : w.cell? ⟨bk, off + 1, none⟩ = some (.int .i64 a)) (c11 : w.cell? ⟨bk, off + 3 + 1, none⟩ = some (.int .i64 b))
    (hN : ∀ W, Calls Try.prog 30 #[.int .i64 n] W fun e w' => e = .returned (.string ⟨r.toArray⟩) ∧ Below W.heap.size W w')
    (hC : ∀ W, Calls Try.prog 33 #[.string ⟨r.toArray⟩, .int .i64 a, .int .i64 b] W fun e w' => e = .returned (.bool q) ∧ w' = W)
    (h3 : (n == 3) = false) (h4 : (n == 4) = false) (hn : (r == [110, 101, 103]) = false) (hi : (r == [105, 110, 118]) = false) (g1 : 23 ≤ n) (g2 : n ≤ 28) :
    Calls Try.prog 18 #[.int .i64 n, .slice (some ⟨bk, off, none⟩) 2 c] w (Answers (Val.truth q) 0 w) := by
  have g3 : 11 ≤ n := by omega
  have g4 : ¬ n ≤ 22 := by omega
  have hT := rtruth_any' q
  generalize Val.truth q = t at *
  obtain ⟨rt, rn, rb⟩ := t
  go_enter Try.func18, Try.ntmps18
  go_wp2_with (go_at_call 30; refine (hN _).mono ?_; rintro e w2 ⟨rfl, hb2⟩; replace c01 := cell_on c01 hb2; replace c11 := cell_on c11 hb2; have hbx := box_after w hb2; obtain ⟨⟨q0, q1, q2⟩, f0, f1, f2⟩ := box_cells hbx; have hsz : w.heap.size < w2.heap.size := (Array.getElem?_eq_some_iff.1 hbx).1)
  go_region_with (first | (go_at_call 33; refine (hC _).mono ?_; rintro e w3 ⟨rfl, rfl⟩) | (go_at_call 31; refine (hT _).mono ?_; rintro e w4 ⟨rfl, rfl⟩; simp only [Val.box, Val.v]))
  all_goals go_wp2
  all_goals exact ret_mix (x := ⟨rt, rn, rb⟩) rfl rfl rfl rfl ((set3 hbx rfl ⟨rt, rn, rb⟩).keep (keep_alloc _ _)) ⟨rfl, ((below3 (((Below.refl _ w).alloc (Nat.le_refl _) _).trans (hb2.mono (by simp)))).alloc (by simp [World.setCell]; omega) _).drew⟩
set_option maxHeartbeats 1000000 in
set_option maxRecDepth 100000 in
theorem ra_neg (a : Int) (bk off c : Nat) (w : World) (c01 : w.cell? ⟨bk, off + 1, none⟩ = some (.int .i64 a)) (hN : ∀ W, Calls Try.prog 30 #[.int .i64 16] W fun e w' => e = .returned (.string ⟨#[110, 101, 103]⟩) ∧ Below W.heap.size W w') : Calls Try.prog 18 #[.int .i64 16, .slice (some ⟨bk, off, none⟩) 1 c] w (Answers ⟨1, wrap64 (-a), []⟩ 0 w) := by
  go_enter Try.func18, Try.ntmps18
  go_wp2_with (go_at_call 30; refine (hN _).mono ?_; rintro e w2 ⟨rfl, hb2⟩; replace c01 := cell_on c01 hb2; have hbx := box_after w hb2; obtain ⟨⟨q0, q1, q2⟩, f0, f1, f2⟩ := box_cells hbx; have hsz : w.heap.size < w2.heap.size := (Array.getElem?_eq_some_iff.1 hbx).1)
  all_goals first | (exfalso; rename_i h; revert h; decide) | skip
  all_goals exact ret_mix (x := ⟨1, wrap64 (-a), []⟩) rfl rfl rfl rfl (set3 hbx rfl ⟨1, wrap64 (-a), []⟩) ⟨rfl, below3 (((Below.refl _ w).alloc (Nat.le_refl _) _).trans (hb2.mono (by simp)))⟩
set_option maxHeartbeats 1000000 in
set_option maxRecDepth 100000 in
theorem ra_inv (a : Int) (bk off c : Nat) (w : World) (c01 : w.cell? ⟨bk, off + 1, none⟩ = some (.int .i64 a)) (hN : ∀ W, Calls Try.prog 30 #[.int .i64 20] W fun e w' => e = .returned (.string ⟨#[105, 110, 118]⟩) ∧ Below W.heap.size W w') : Calls Try.prog 18 #[.int .i64 20, .slice (some ⟨bk, off, none⟩) 1 c] w (Answers ⟨1, bits .xor .i64 (-1) a, []⟩ 0 w) := by
  go_enter Try.func18, Try.ntmps18
  go_wp2_with (go_at_call 30; refine (hN _).mono ?_; rintro e w2 ⟨rfl, hb2⟩; replace c01 := cell_on c01 hb2; have hbx := box_after w hb2; obtain ⟨⟨q0, q1, q2⟩, f0, f1, f2⟩ := box_cells hbx; have hsz : w.heap.size < w2.heap.size := (Array.getElem?_eq_some_iff.1 hbx).1)
  all_goals first | (exfalso; rename_i h; revert h; decide) | skip
  all_goals exact ret_mix (x := ⟨1, bits .xor .i64 (-1) a, []⟩) rfl rfl rfl rfl (set3 hbx rfl ⟨1, bits .xor .i64 (-1) a, []⟩) ⟨rfl, below3 (((Below.refl _ w).alloc (Nat.le_refl _) _).trans (hb2.mono (by simp)))⟩
set_option maxHeartbeats 1000000 in
set_option maxRecDepth 100000 in
theorem ra_true (x : Option Addr) (c : Nat) (w : World) (hN : ∀ W, Calls Try.prog 30 #[.int .i64 3] W fun e w' => e = .returned (.string ⟨#[116, 114, 117, 101]⟩) ∧ Below W.heap.size W w') : Calls Try.prog 18 #[.int .i64 3, .slice x 0 c] w (Answers (Val.truth true) 0 w) := by
  have hT := rtruth_any' true
  generalize Val.truth true = t at *
  obtain ⟨rt, rn, rb⟩ := t
  go_enter Try.func18, Try.ntmps18
  go_wp2_with (first | (go_at_call 30; refine (hN _).mono ?_; rintro e w2 ⟨rfl, hb2⟩; skip; have hbx := box_after w hb2; obtain ⟨⟨q0, q1, q2⟩, f0, f1, f2⟩ := box_cells hbx; have hsz : w.heap.size < w2.heap.size := (Array.getElem?_eq_some_iff.1 hbx).1) | (go_at_call 31; refine (hT _).mono ?_; rintro e w4 ⟨rfl, rfl⟩; simp only [Val.box, Val.v]))
  all_goals exact ret_mix (x := ⟨rt, rn, rb⟩) rfl rfl rfl rfl ((set3 hbx rfl ⟨rt, rn, rb⟩).keep (keep_alloc _ _)) ⟨rfl, (below3 (((Below.refl _ w).alloc (Nat.le_refl _) _).trans (hb2.mono (by simp)))).alloc (by simp [World.setCell]; omega) _⟩
set_option maxHeartbeats 1000000 in
set_option maxRecDepth 100000 in
theorem ra_false (x : Option Addr) (c : Nat) (w : World) (hN : ∀ W, Calls Try.prog 30 #[.int .i64 4] W fun e w' => e = .returned (.string ⟨#[102, 97, 108, 115, 101]⟩) ∧ Below W.heap.size W w') : Calls Try.prog 18 #[.int .i64 4, .slice x 0 c] w (Answers (Val.truth false) 0 w) := by
  have hT := rtruth_any' false
  generalize Val.truth false = t at *
  obtain ⟨rt, rn, rb⟩ := t
  go_enter Try.func18, Try.ntmps18
  go_wp2_with (first | (go_at_call 30; refine (hN _).mono ?_; rintro e w2 ⟨rfl, hb2⟩; skip; have hbx := box_after w hb2; obtain ⟨⟨q0, q1, q2⟩, f0, f1, f2⟩ := box_cells hbx; have hsz : w.heap.size < w2.heap.size := (Array.getElem?_eq_some_iff.1 hbx).1) | (go_at_call 31; refine (hT _).mono ?_; rintro e w4 ⟨rfl, rfl⟩; simp only [Val.box, Val.v]))
  all_goals exact ret_mix (x := ⟨rt, rn, rb⟩) rfl rfl rfl rfl ((set3 hbx rfl ⟨rt, rn, rb⟩).keep (keep_alloc _ _)) ⟨rfl, (below3 (((Below.refl _ w).alloc (Nat.le_refl _) _).trans (hb2.mono (by simp)))).alloc (by simp [World.setCell]; omega) _⟩
set_option maxHeartbeats 1000000 in
set_option maxRecDepth 100000 in
theorem ra_both (a b : Int) (bk off c : Nat) (w : World) (c01 : w.cell? ⟨bk, off + 1, none⟩ = some (.int .i64 a)) (c11 : w.cell? ⟨bk, off + 3 + 1, none⟩ = some (.int .i64 b)) (hN : ∀ W, Calls Try.prog 30 #[.int .i64 29] W fun e w' => e = .returned (.string ⟨#[98, 111, 116, 104]⟩) ∧ Below W.heap.size W w') : Calls Try.prog 18 #[.int .i64 29, .slice (some ⟨bk, off, none⟩) 2 c] w (Answers (Val.truth (a == 1 && b == 1)) 0 w) := by
  by_cases ha : a = 1
  · subst ha; rw [show ((1 : Int) == 1 && b == 1) = (b == 1) by simp]
    have hT := rtruth_any' (b == 1)
    generalize Val.truth (b == 1) = t at *
    obtain ⟨rt, rn, rb⟩ := t
    go_enter Try.func18, Try.ntmps18
    go_wp2_with (first | (go_at_call 30; refine (hN _).mono ?_; rintro e w2 ⟨rfl, hb2⟩; replace c01 := cell_on c01 hb2; replace c11 := cell_on c11 hb2; have hbx := box_after w hb2; obtain ⟨⟨q0, q1, q2⟩, f0, f1, f2⟩ := box_cells hbx; have hsz : w.heap.size < w2.heap.size := (Array.getElem?_eq_some_iff.1 hbx).1) | (go_at_call 31; refine (hT _).mono ?_; rintro e w4 ⟨rfl, rfl⟩; simp only [Val.box, Val.v]))
    all_goals first
      | exact ret_mix (x := ⟨rt, rn, rb⟩) rfl rfl rfl rfl ((set3 hbx rfl ⟨rt, rn, rb⟩).keep (keep_alloc _ _)) ⟨rfl, (below3 (((Below.refl _ w).alloc (Nat.le_refl _) _).trans (hb2.mono (by simp)))).alloc (by simp [World.setCell]; omega) _⟩
  · have ha' : (a == 1) = false := by simp [ha]
    rw [show (a == 1 && b == 1) = false by simp [ha']]
    have hT := rtruth_any' false
    generalize Val.truth false = t at *
    obtain ⟨rt, rn, rb⟩ := t
    go_enter Try.func18, Try.ntmps18
    go_wp2_with (first | (go_at_call 30; refine (hN _).mono ?_; rintro e w2 ⟨rfl, hb2⟩; replace c01 := cell_on c01 hb2; replace c11 := cell_on c11 hb2; have hbx := box_after w hb2; obtain ⟨⟨q0, q1, q2⟩, f0, f1, f2⟩ := box_cells hbx; have hsz : w.heap.size < w2.heap.size := (Array.getElem?_eq_some_iff.1 hbx).1) | (go_at_call 31; refine (hT _).mono ?_; rintro e w4 ⟨rfl, rfl⟩; simp only [Val.box, Val.v]))
    all_goals first
      | exact ret_mix (x := ⟨rt, rn, rb⟩) rfl rfl rfl rfl ((set3 hbx rfl ⟨rt, rn, rb⟩).keep (keep_alloc _ _)) ⟨rfl, (below3 (((Below.refl _ w).alloc (Nat.le_refl _) _).trans (hb2.mono (by simp)))).alloc (by simp [World.setCell]; omega) _⟩
set_option maxHeartbeats 1000000 in
set_option maxRecDepth 100000 in
theorem ra_either (a b : Int) (bk off c : Nat) (w : World) (c01 : w.cell? ⟨bk, off + 1, none⟩ = some (.int .i64 a)) (c11 : w.cell? ⟨bk, off + 3 + 1, none⟩ = some (.int .i64 b)) (hN : ∀ W, Calls Try.prog 30 #[.int .i64 30] W fun e w' => e = .returned (.string ⟨#[101, 105, 116, 104, 101, 114]⟩) ∧ Below W.heap.size W w') : Calls Try.prog 18 #[.int .i64 30, .slice (some ⟨bk, off, none⟩) 2 c] w (Answers (Val.truth (a == 1 || b == 1)) 0 w) := by
  by_cases ha : a = 1
  · subst ha; rw [show ((1 : Int) == 1 || b == 1) = true by simp]
    have hT := rtruth_any' true
    generalize Val.truth true = t at *
    obtain ⟨rt, rn, rb⟩ := t
    go_enter Try.func18, Try.ntmps18
    go_wp2_with (first | (go_at_call 30; refine (hN _).mono ?_; rintro e w2 ⟨rfl, hb2⟩; replace c01 := cell_on c01 hb2; replace c11 := cell_on c11 hb2; have hbx := box_after w hb2; obtain ⟨⟨q0, q1, q2⟩, f0, f1, f2⟩ := box_cells hbx; have hsz : w.heap.size < w2.heap.size := (Array.getElem?_eq_some_iff.1 hbx).1) | (go_at_call 31; refine (hT _).mono ?_; rintro e w4 ⟨rfl, rfl⟩; simp only [Val.box, Val.v]))
    all_goals first
      | exact ret_mix (x := ⟨rt, rn, rb⟩) rfl rfl rfl rfl ((set3 hbx rfl ⟨rt, rn, rb⟩).keep (keep_alloc _ _)) ⟨rfl, (below3 (((Below.refl _ w).alloc (Nat.le_refl _) _).trans (hb2.mono (by simp)))).alloc (by simp [World.setCell]; omega) _⟩
  · have ha' : (a == 1) = false := by simp [ha]
    rw [show (a == 1 || b == 1) = (b == 1) by simp [ha']]
    have hT := rtruth_any' (b == 1)
    generalize Val.truth (b == 1) = t at *
    obtain ⟨rt, rn, rb⟩ := t
    go_enter Try.func18, Try.ntmps18
    go_wp2_with (first | (go_at_call 30; refine (hN _).mono ?_; rintro e w2 ⟨rfl, hb2⟩; replace c01 := cell_on c01 hb2; replace c11 := cell_on c11 hb2; have hbx := box_after w hb2; obtain ⟨⟨q0, q1, q2⟩, f0, f1, f2⟩ := box_cells hbx; have hsz : w.heap.size < w2.heap.size := (Array.getElem?_eq_some_iff.1 hbx).1) | (go_at_call 31; refine (hT _).mono ?_; rintro e w4 ⟨rfl, rfl⟩; simp only [Val.box, Val.v]))
    all_goals first
      | exact ret_mix (x := ⟨rt, rn, rb⟩) rfl rfl rfl rfl ((set3 hbx rfl ⟨rt, rn, rb⟩).keep (keep_alloc _ _)) ⟨rfl, (below3 (((Below.refl _ w).alloc (Nat.le_refl _) _).trans (hb2.mono (by simp)))).alloc (by simp [World.setCell]; omega) _⟩
set_option maxHeartbeats 1000000 in
set_option maxRecDepth 100000 in
theorem ra_not (a : Int) (bk off c : Nat) (w : World) (c01 : w.cell? ⟨bk, off + 1, none⟩ = some (.int .i64 a)) (hN : ∀ W, Calls Try.prog 30 #[.int .i64 31] W fun e w' => e = .returned (.string ⟨#[110, 111, 116]⟩) ∧ Below W.heap.size W w') : Calls Try.prog 18 #[.int .i64 31, .slice (some ⟨bk, off, none⟩) 1 c] w (Answers (Val.truth (a == 0)) 0 w) := by
  have hT := rtruth_any' (a == 0)
  generalize Val.truth (a == 0) = t at *
  obtain ⟨rt, rn, rb⟩ := t
  go_enter Try.func18, Try.ntmps18
  go_wp2_with (first | (go_at_call 30; refine (hN _).mono ?_; rintro e w2 ⟨rfl, hb2⟩; replace c01 := cell_on c01 hb2; have hbx := box_after w hb2; obtain ⟨⟨q0, q1, q2⟩, f0, f1, f2⟩ := box_cells hbx; have hsz : w.heap.size < w2.heap.size := (Array.getElem?_eq_some_iff.1 hbx).1) | (go_at_call 31; refine (hT _).mono ?_; rintro e w4 ⟨rfl, rfl⟩; simp only [Val.box, Val.v]))
  all_goals exact ret_mix (x := ⟨rt, rn, rb⟩) rfl rfl rfl rfl ((set3 hbx rfl ⟨rt, rn, rb⟩).keep (keep_alloc _ _)) ⟨rfl, (below3 (((Below.refl _ w).alloc (Nat.le_refl _) _).trans (hb2.mono (by simp)))).alloc (by simp [World.setCell]; omega) _⟩
set_option maxHeartbeats 1000000 in
set_option maxRecDepth 100000 in
theorem ra_bytes (n er : Int) (v : Val) (r : List UInt8) (x : Option Addr) (k c : Nat) (w : World)
    (hN : ∀ W, Calls Try.prog 30 #[.int .i64 n] W fun e w' => e = .returned (.string ⟨r.toArray⟩) ∧ Below W.heap.size W w')
    (hC : ∀ W, Below w.heap.size w W → Calls Try.prog 34 #[.string ⟨r.toArray⟩, .slice x k c] W fun e w' => e = .returned (.tuple #[v.v, .int .i64 er]) ∧ Below W.heap.size W w')
    (h3 : (n == 3) = false) (h4 : (n == 4) = false) (hn : (r == [110, 101, 103]) = false) (hi : (r == [105, 110, 118]) = false) (hb0 : (r == [98, 111, 116, 104]) = false) (he : (r == [101, 105, 116, 104, 101, 114]) = false) (ho : (r == [110, 111, 116]) = false) (g : 28 < n) :
    Calls Try.prog 18 #[.int .i64 n, .slice x k c] w (Answers v er w) := by
  have g3 : 11 ≤ n := by omega
  have g4 : ¬ n ≤ 22 := by omega
  have g5 : 23 ≤ n := by omega
  have g6 : ¬ n ≤ 28 := by omega
  obtain ⟨vt, vn, vb⟩ := v
  simp only [Val.v] at hC
  go_enter Try.func18, Try.ntmps18
  go_wp2_with (first | (go_at_call 30; refine (hN _).mono ?_; rintro e w2 ⟨rfl, hb2⟩; have hk2 := ((Below.refl w.heap.size w).alloc (Nat.le_refl _) _).trans (hb2.mono (by simp))) | (go_at_call 34; refine (hC _ hk2).mono ?_; rintro e w3 ⟨rfl, hb3⟩; have hk3 := hb2.trans (hb3.mono hb2.size); have hbx := box_after w hk3; obtain ⟨⟨q0, q1, q2⟩, f0, f1, f2⟩ := box_cells hbx))
  exact ret_mix (x := ⟨vt, vn, vb⟩) rfl rfl rfl rfl (set3 hbx rfl ⟨vt, vn, vb⟩) ⟨rfl, below3 (hk2.trans (hb3.mono hk2.size))⟩
end Go.Proofs.Ytkmfopdklohgnaa
