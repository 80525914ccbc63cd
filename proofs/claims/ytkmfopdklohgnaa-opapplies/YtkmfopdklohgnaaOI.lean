/- op.Apply. -/
import Derived.Test.YtkmfopdklohgnaaOH
import Derived.Test.YtkmfopdklohgnaaOT
namespace Go.Proofs.Ytkmfopdklohgnaa
open Go.RowKit
attribute [local go_sem high] eq_val eq_val0

theorem plain_any (n : Int) (w : World) : Calls Try.prog 10 #[.int .i64 n] w fun e w' => e = .returned (.bool (plainB n)) ∧ w' = w := by
  by_cases h1 : n < 3
  · have : plainB n = false := by simp [plainB]; omega
    rw [this]
    go_enter Try.func10, Try.ntmps10
    go_wp2
    all_goals (go_ret; exact ⟨rfl, rfl⟩)
  by_cases h2 : n ≤ 4
  · have : plainB n = true := by simp [plainB]; omega
    rw [this]
    go_enter Try.func10, Try.ntmps10
    go_wp2
    all_goals (go_ret; exact ⟨rfl, rfl⟩)
  by_cases h3 : n < 11
  · have : plainB n = false := by simp [plainB]; omega
    rw [this]
    go_enter Try.func10, Try.ntmps10
    go_wp2
    all_goals (go_ret; exact ⟨rfl, rfl⟩)
  by_cases h4 : n ≤ 40
  · have : plainB n = true := by simp [plainB]; omega
    rw [this]
    go_enter Try.func10, Try.ntmps10
    go_wp2
    all_goals (go_ret; exact ⟨rfl, rfl⟩)
  · have : plainB n = false := by simp [plainB]; omega
    rw [this]
    go_enter Try.func10, Try.ntmps10
    go_wp2
    all_goals (go_ret; exact ⟨rfl, rfl⟩)
theorem fit1 {x : Val} (h : x.right = true) (ht : x.t = 1) : x = ⟨1, x.n, []⟩ := by
  obtain ⟨t, n, b⟩ := x
  simp only at ht
  subst ht
  simpa [Val.right] using h
theorem fit2 {x : Val} (h : x.right = true) (ht : x.t = 2) : x = ⟨2, 0, x.b⟩ ∧ x.b.length ≤ 256 := by
  obtain ⟨t, n, b⟩ := x
  simp only at ht
  subst ht
  simpa [Val.right] using h
theorem fit3 {x : Val} (h : x.right = true) (ht : x.t = 3) : x = ⟨3, x.n, []⟩ ∧ (x.n = 0 ∨ x.n = 1) := by
  obtain ⟨t, n, b⟩ := x
  simp only at ht
  subst ht
  simp [Val.right] at h
  simp [h]
theorem fitsB_iff {L : List Val} {ts : List Int} : fitsB L ts = true ↔ L.map Val.t = ts ∧ ∀ x ∈ L, x.right = true := by
  simp [fitsB]
theorem fits_short {L : List Val} {ts : List Int} (h : fitsB L ts = true) : L.length = ts.length ∧ ∀ x ∈ L, x.b.length ≤ 256 := by
  obtain ⟨h1, h2⟩ := fitsB_iff.1 h
  refine ⟨by rw [← h1]; simp, fun x hx => ?_⟩
  have := h2 x hx
  obtain ⟨t, n, b⟩ := x
  simp only [Val.right] at this ⊢
  by_cases e1 : t = 1
  · subst e1; simp at this; simp [this]
  by_cases e2 : t = 2
  · subst e2; simp at this; exact this.2
  by_cases e3 : t = 3
  · subst e3; simp at this; simp [this]
  simp [e1, e2, e3] at this

/-- What a plain operation answers of values that fit, without a fault. -/
def ansV (n : Int) (L : List Val) : Val := if outT n = [1] then ⟨1, numV n L, []⟩ else if outT n = [2] then ⟨2, 0, textV n L⟩ else Val.truth (truthV n L)
theorem box_new (w : World) (o : Obj) {w3 : World} (hb : Below ((w.alloc (Val.box ⟨0, 0, []⟩)).alloc o).heap.size ((w.alloc (Val.box ⟨0, 0, []⟩)).alloc o) w3) : w3.heap[w.heap.size]? = some (.cells #[.int .i64 0, .int .i64 0, .string ⟨#[]⟩] 39 (0, 0)) := by
  rw [hb.block _ (by simp; omega), Below.heap_alloc _ _ _ (by simp)]
  exact heap_alloc_new w _
theorem box_cells {W : World} {b : Nat} (h' : W.heap[b]? = some (.cells #[.int .i64 0, .int .i64 0, .string ⟨#[]⟩] 39 (0, 0))) :
    (W.cell? ⟨b, 0, none⟩ = some (.int .i64 0) ∧ W.cell? ⟨b, 1, none⟩ = some (.int .i64 0) ∧ W.cell? ⟨b, 2, none⟩ = some (.string ⟨#[]⟩)) ∧ (W.frozen? ⟨b, 0, none⟩ = false ∧ W.frozen? ⟨b, 1, none⟩ = false ∧ W.frozen? ⟨b, 2, none⟩ = false) :=
  ⟨⟨by rw [cell_of_row _ _ 0 _ _ (0, 0) h']; rfl, by rw [cell_of_row _ _ 1 _ _ (0, 0) h']; rfl, by rw [cell_of_row _ _ 2 _ _ (0, 0) h']; rfl⟩, by simp [World.frozen?, h'], by simp [World.frozen?, h'], by simp [World.frozen?, h']⟩
theorem set3 {W : World} {b : Nat} {cs : Array Value} (h : W.heap[b]? = some (.cells cs 39 (0, 0))) (hc : cs.size = 3) (x : Val) : ValAt (((W.setCell ⟨b, 0, none⟩ (.int .i64 x.t)).setCell ⟨b, 1, none⟩ (.int .i64 x.n)).setCell ⟨b, 2, none⟩ (.string ⟨x.b.toArray⟩)) b x := by
  obtain ⟨l⟩ := cs
  match l, hc with
  | [c0, c1, c2], _ =>
    have hh : (((W.setCell ⟨b, 0, none⟩ (.int .i64 x.t)).setCell ⟨b, 1, none⟩ (.int .i64 x.n)).setCell ⟨b, 2, none⟩ (.string ⟨x.b.toArray⟩)).heap[b]? = some (.cells #[.int .i64 x.t, .int .i64 x.n, .string ⟨x.b.toArray⟩] 39 (0, 0)) := by
      simp [World.setCell, Array.getElem?_modify, h]
    exact ⟨by rw [cell_of_row _ _ 0 _ _ (0, 0) hh]; rfl, by rw [cell_of_row _ _ 1 _ _ (0, 0) hh]; rfl, by rw [cell_of_row _ _ 2 _ _ (0, 0) hh]; rfl⟩
theorem below3 {w W : World} {u v x : Value} (h : Below w.heap.size w W) : Below w.heap.size w (((W.setCell ⟨w.heap.size, 0, none⟩ u).setCell ⟨w.heap.size, 1, none⟩ v).setCell ⟨w.heap.size, 2, none⟩ x) :=
  ((h.setCell (p := ⟨w.heap.size, 0, none⟩) (Nat.le_refl _) _).setCell (p := ⟨w.heap.size, 1, none⟩) (Nat.le_refl _) _).setCell (p := ⟨w.heap.size, 2, none⟩) (Nat.le_refl _) _
theorem alloc_size_lt {W : World} {o : Obj} {b : Nat} {x : Obj} (h : W.heap[b]? = some x) : (W.alloc o).heap[b]? = some x := (Below.heap_alloc _ _ _ (Array.getElem?_eq_some_iff.1 h).1).trans h

theorem out_one (n t : Int) (hp : plainB n = true) (h : outT n = [t]) (w : World) : Calls Try.prog 23 #[.int .i64 n] w fun e w' => e = .returned (.slice (some ⟨w.heap.size, 0, none⟩) 1 1) ∧ w' = w.alloc (.cells #[.int .i64 t] 3) := by
  have := out_pl n (plain_cases n hp) w
  rw [h] at this
  exact this
set_option maxHeartbeats 1000000 in
theorem answer_int (n : Int) (a : Option Addr) (k c : Nat) (L : List Val) (w : World) (hp : plainB n = true) (hO1 : outT n = [1]) (hN : ∀ W, Below w.heap.size w W → Calls Try.prog 24 #[.int .i64 n, .slice a k c] W fun e w' => e = .returned (.int .i64 (numV n L)) ∧ Below W.heap.size W w') :
    Calls Try.prog 14 #[.int .i64 n, .slice a k c] w fun e w' => e = .returned (ansV n L).v ∧ Below w.heap.size w w' := by
  have hO := out_one n 1 hp hO1
  have hE : ansV n L = ⟨1, numV n L, []⟩ := by unfold ansV; rw [if_pos hO1]
  rw [hE]
  clear hE hO1 hp
  generalize numV n L = r at *
  go_enter Try.func14, Try.ntmps14
  go_wp2_with (first | (go_at_call 23; refine (hO _).mono ?_; rintro e w2 ⟨rfl, rfl⟩) | (go_at_call 24; refine (hN _ (((Below.refl _ w).alloc (Nat.le_refl _) _).alloc (by simp) _)).mono ?_; rintro e w3 ⟨rfl, hb3⟩) | (go_at_call 20; refine (number_any' _ _).mono ?_; rintro e w4 ⟨rfl, rfl⟩; have hbx := box_new w _ hb3; obtain ⟨⟨q0, q1, q2⟩, f0, f1, f2⟩ := box_cells hbx; have hsz : w.heap.size < w3.heap.size := (Array.getElem?_eq_some_iff.1 hbx).1; simp only [Val.box, Val.v]))
  refine ret_at _ w.heap.size ⟨1, r, []⟩ rfl rfl rfl ((set3 hbx rfl ⟨1, r, []⟩).keep (keep_alloc _ _)) ⟨rfl, ?_⟩
  exact (below3 ((((Below.refl _ w).alloc (Nat.le_refl _) _).alloc (by simp) _).trans (hb3.mono (by simp; omega)))).alloc (by simp [World.setCell]; omega) _
set_option maxHeartbeats 1000000 in
theorem answer_text (n : Int) (a : Option Addr) (k c : Nat) (L : List Val) (w : World) (hp : plainB n = true) (hO1 : outT n = [2]) (hN : ∀ W, Below w.heap.size w W → Calls Try.prog 25 #[.int .i64 n, .slice a k c] W fun e w' => e = .returned (.string ⟨(textV n L).toArray⟩) ∧ Below W.heap.size W w') :
    Calls Try.prog 14 #[.int .i64 n, .slice a k c] w fun e w' => e = .returned (ansV n L).v ∧ Below w.heap.size w w' := by
  have hO := out_one n 2 hp hO1
  have hE : ansV n L = ⟨2, 0, textV n L⟩ := by unfold ansV; rw [if_neg (by rw [hO1]; decide), if_pos hO1]
  rw [hE]
  clear hE hO1 hp
  generalize textV n L = r at *
  go_enter Try.func14, Try.ntmps14
  go_wp2_with (first | (go_at_call 23; refine (hO _).mono ?_; rintro e w2 ⟨rfl, rfl⟩) | (go_at_call 25; refine (hN _ (((Below.refl _ w).alloc (Nat.le_refl _) _).alloc (by simp) _)).mono ?_; rintro e w3 ⟨rfl, hb3⟩) | (go_at_call 19; refine (text_any' _ _).mono ?_; rintro e w4 ⟨rfl, rfl⟩; have hbx := box_new w _ hb3; obtain ⟨⟨q0, q1, q2⟩, f0, f1, f2⟩ := box_cells hbx; have hsz : w.heap.size < w3.heap.size := (Array.getElem?_eq_some_iff.1 hbx).1; simp only [Val.box, Val.v]))
  refine ret_at _ w.heap.size ⟨2, 0, r⟩ rfl rfl rfl ((set3 hbx rfl ⟨2, 0, r⟩).keep (keep_alloc _ _)) ⟨rfl, ?_⟩
  exact (below3 ((((Below.refl _ w).alloc (Nat.le_refl _) _).alloc (by simp) _).trans (hb3.mono (by simp; omega)))).alloc (by simp [World.setCell]; omega) _
set_option maxHeartbeats 1000000 in
theorem answer_truth (n : Int) (a : Option Addr) (k c : Nat) (L : List Val) (w : World) (hp : plainB n = true) (hO1 : outT n = [3]) (hN : ∀ W, Below w.heap.size w W → Calls Try.prog 27 #[.int .i64 n, .slice a k c] W fun e w' => e = .returned (.bool (truthV n L)) ∧ Below W.heap.size W w') :
    Calls Try.prog 14 #[.int .i64 n, .slice a k c] w fun e w' => e = .returned (ansV n L).v ∧ Below w.heap.size w w' := by
  have hO := out_one n 3 hp hO1
  have hE : ansV n L = Val.truth (truthV n L) := by unfold ansV; rw [if_neg (by rw [hO1]; decide), if_neg (by rw [hO1]; decide)]
  rw [hE]
  clear hE hO1 hp
  generalize truthV n L = q at *
  have hT := truth_any' q
  generalize hr : Val.truth q = r at *
  clear hr
  obtain ⟨rt, rn, rb⟩ := r
  go_enter Try.func14, Try.ntmps14
  go_wp2_with (first | (go_at_call 23; refine (hO _).mono ?_; rintro e w2 ⟨rfl, rfl⟩) | (go_at_call 27; refine (hN _ (((Below.refl _ w).alloc (Nat.le_refl _) _).alloc (by simp) _)).mono ?_; rintro e w3 ⟨rfl, hb3⟩) | (go_at_call 26; refine (hT _).mono ?_; rintro e w4 ⟨rfl, rfl⟩; have hbx := box_new w _ hb3; obtain ⟨⟨q0, q1, q2⟩, f0, f1, f2⟩ := box_cells hbx; have hsz : w.heap.size < w3.heap.size := (Array.getElem?_eq_some_iff.1 hbx).1; simp only [Val.box, Val.v]))
  refine ret_at _ w.heap.size ⟨rt, rn, rb⟩ rfl rfl rfl (((set3 hbx rfl ⟨rt, rn, rb⟩).keep (keep_alloc _ _)).keep (keep_alloc _ _)) ⟨rfl, ?_⟩
  exact ((below3 ((((Below.refl _ w).alloc (Nat.le_refl _) _).alloc (by simp) _).trans (hb3.mono (by simp; omega)))).alloc (by simp [World.setCell]; omega) _).alloc (by simp [World.setCell]; omega) _
end Go.Proofs.Ytkmfopdklohgnaa
