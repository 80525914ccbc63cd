/- op.Apply. -/
import Derived.Test.YtbjipcpoiiegkaaGreatDoorOG
import Derived.Test.YtbjipcpoiiegkaaGreatDoorOT
namespace Go.Proofs.YtbjipcpoiiegkaaGreatDoor
open Go.RowKit
attribute [local go_sem high] eq_val eq_val0

theorem fit1 {x : Val} (h : x.right = true) (ht : x.t = 1) : x = ⟨1, x.n, []⟩ := by
  obtain ⟨t, n, b⟩ := x
  simp only at ht
  subst ht
  simpa [Val.right] using h
theorem fit2 {x : Val} (h : x.right = true) (ht : x.t = 2) : x = ⟨2, 0, x.b⟩ ∧ x.b.length ≤ 256 := by
  obtain ⟨t, n, b⟩ := x
  simp only at ht
  subst ht
  simpa [Val.right] using h
theorem fit3 {x : Val} (h : x.right = true) (ht : x.t = 3) : x = ⟨3, x.n, []⟩ ∧ (x.n = 0 ∨ x.n = 1) := by
  obtain ⟨t, n, b⟩ := x
  simp only at ht
  subst ht
  simp [Val.right] at h
  simp [h]
theorem fitsB_iff {L : List Val} {ts : List Int} : fitsB L ts = true ↔ L.map Val.t = ts ∧ ∀ x ∈ L, x.right = true := by
  simp [fitsB]
theorem fits_short {L : List Val} {ts : List Int} (h : fitsB L ts = true) : L.length = ts.length ∧ ∀ x ∈ L, x.b.length ≤ 256 := by
  obtain ⟨h1, h2⟩ := fitsB_iff.1 h
  refine ⟨by rw [← h1]; simp, fun x hx => ?_⟩
  have := h2 x hx
  obtain ⟨t, n, b⟩ := x
  simp only [Val.right] at this ⊢
  by_cases e1 : t = 1
  · subst e1; simp at this; simp [this]
  by_cases e2 : t = 2
  · subst e2; simp at this; exact this.2
  by_cases e3 : t = 3
  · subst e3; simp at this; simp [this]
  simp [e1, e2, e3] at this

/-- What a plain operation answers of values that fit, without a fault. -/
def ansV (n : Int) (L : List Val) : Val := if outT n = [1] then ⟨1, numV n L, []⟩ else if outT n = [2] then ⟨2, 0, textV n L⟩ else Val.truth (truthV n L)
theorem box_new (w : World) (o : Obj) {w3 : World} (hb : Below ((w.alloc (Val.box ⟨0, 0, []⟩)).alloc o).heap.size ((w.alloc (Val.box ⟨0, 0, []⟩)).alloc o) w3) : w3.heap[w.heap.size]? = some (.cells #[.int .i64 0, .int .i64 0, .string ⟨#[]⟩] 54 (0, 0)) := by
  rw [hb.block _ (by simp; omega), Below.heap_alloc _ _ _ (by simp)]
  exact heap_alloc_new w _
theorem box_cells {W : World} {b : Nat} (h' : W.heap[b]? = some (.cells #[.int .i64 0, .int .i64 0, .string ⟨#[]⟩] 54 (0, 0))) :
    (W.cell? ⟨b, 0, none⟩ = some (.int .i64 0) ∧ W.cell? ⟨b, 1, none⟩ = some (.int .i64 0) ∧ W.cell? ⟨b, 2, none⟩ = some (.string ⟨#[]⟩)) ∧ (W.frozen? ⟨b, 0, none⟩ = false ∧ W.frozen? ⟨b, 1, none⟩ = false ∧ W.frozen? ⟨b, 2, none⟩ = false) :=
  ⟨⟨by rw [cell_of_row _ _ 0 _ _ (0, 0) h']; rfl, by rw [cell_of_row _ _ 1 _ _ (0, 0) h']; rfl, by rw [cell_of_row _ _ 2 _ _ (0, 0) h']; rfl⟩, by simp [World.frozen?, h'], by simp [World.frozen?, h'], by simp [World.frozen?, h']⟩
theorem set3 {W : World} {b : Nat} {cs : Array Value} (h : W.heap[b]? = some (.cells cs 54 (0, 0))) (hc : cs.size = 3) (x : Val) : ValAt (((W.setCell ⟨b, 0, none⟩ (.int .i64 x.t)).setCell ⟨b, 1, none⟩ (.int .i64 x.n)).setCell ⟨b, 2, none⟩ (.string ⟨x.b.toArray⟩)) b x := by
  obtain ⟨l⟩ := cs
  match l, hc with
  | [c0, c1, c2], _ =>
    have hh : (((W.setCell ⟨b, 0, none⟩ (.int .i64 x.t)).setCell ⟨b, 1, none⟩ (.int .i64 x.n)).setCell ⟨b, 2, none⟩ (.string ⟨x.b.toArray⟩)).heap[b]? = some (.cells #[.int .i64 x.t, .int .i64 x.n, .string ⟨x.b.toArray⟩] 54 (0, 0)) := by
      simp [World.setCell, Array.getElem?_modify, h]
    exact ⟨by rw [cell_of_row _ _ 0 _ _ (0, 0) hh]; rfl, by rw [cell_of_row _ _ 1 _ _ (0, 0) hh]; rfl, by rw [cell_of_row _ _ 2 _ _ (0, 0) hh]; rfl⟩
theorem below3 {w W : World} {u v x : Value} (h : Below w.heap.size w W) : Below w.heap.size w (((W.setCell ⟨w.heap.size, 0, none⟩ u).setCell ⟨w.heap.size, 1, none⟩ v).setCell ⟨w.heap.size, 2, none⟩ x) :=
  ((h.setCell (p := ⟨w.heap.size, 0, none⟩) (Nat.le_refl _) _).setCell (p := ⟨w.heap.size, 1, none⟩) (Nat.le_refl _) _).setCell (p := ⟨w.heap.size, 2, none⟩) (Nat.le_refl _) _
theorem alloc_size_lt {W : World} {o : Obj} {b : Nat} {x : Obj} (h : W.heap[b]? = some x) : (W.alloc o).heap[b]? = some x := (Below.heap_alloc _ _ _ (Array.getElem?_eq_some_iff.1 h).1).trans h

end Go.Proofs.YtbjipcpoiiegkaaGreatDoor
