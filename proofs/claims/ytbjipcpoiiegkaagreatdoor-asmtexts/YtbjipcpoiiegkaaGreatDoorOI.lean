/- op.Apply. op.Apply. layer 3's check 'knows', its helpers num, one, two. The document's In, Out, Takes, Find, Plain; layer 3's helper 'Ints'. -/
import Derived.Test.YtbjipcpoiiegkaaGreatDoorOG
import Derived.Test.YtbjipcpoiiegkaaGreatDoorOT
import Derived.Test.YtbjipcpoiiegkaaGreatDoorAK
namespace Go.Proofs.YtbjipcpoiiegkaaGreatDoor
open Go.RowKit
attribute [local go_sem high] eq_val eq_val0

theorem fit1 {x : Val} (h : x.right = true) (ht : x.t = 1) : x = ⟨1, x.n, []⟩ := by
  obtain ⟨t, n, b⟩ := x
  simp only at ht
  subst ht
  simpa [Val.right] using h
theorem fit2 {x : Val} (h : x.right = true) (ht : x.t = 2) : x = ⟨2, 0, x.b⟩ ∧ x.b.length ≤ 256 := by
  obtain ⟨t, n, b⟩ := x
  simp only at ht
  subst ht
  simpa [Val.right] using h
theorem fit3 {x : Val} (h : x.right = true) (ht : x.t = 3) : x = ⟨3, x.n, []⟩ ∧ (x.n = 0 ∨ x.n = 1) := by
  obtain ⟨t, n, b⟩ := x
  simp only at ht
  subst ht
  simp [Val.right] at h
  simp [h]
theorem fitsB_iff {L : List Val} {ts : List Int} : fitsB L ts = true ↔ L.map Val.t = ts ∧ ∀ x ∈ L, x.right = true := by
  simp [fitsB]
theorem fits_short {L : List Val} {ts : List Int} (h : fitsB L ts = true) : L.length = ts.length ∧ ∀ x ∈ L, x.b.length ≤ 256 := by
  obtain ⟨h1, h2⟩ := fitsB_iff.1 h
  refine ⟨by rw [← h1]; simp, fun x hx => ?_⟩
  have := h2 x hx
  obtain ⟨t, n, b⟩ := x
  simp only [Val.right] at this ⊢
  by_cases e1 : t = 1
  · subst e1; simp at this; simp [this]
  by_cases e2 : t = 2
  · subst e2; simp at this; exact this.2
  by_cases e3 : t = 3
  · subst e3; simp at this; simp [this]
  simp [e1, e2, e3] at this

/-- What a plain operation answers of values that fit, without a fault. -/
def ansV (n : Int) (L : List Val) : Val := if outT n = [1] then ⟨1, numV n L, []⟩ else if outT n = [2] then ⟨2, 0, textV n L⟩ else Val.truth (truthV n L)
theorem box_new (w : World) (o : Obj) {w3 : World} (hb : Below ((w.alloc (Val.box ⟨0, 0, []⟩)).alloc o).heap.size ((w.alloc (Val.box ⟨0, 0, []⟩)).alloc o) w3) : w3.heap[w.heap.size]? = some (.cells #[.int .i64 0, .int .i64 0, .string ⟨#[]⟩] 54 (0, 0)) := by
  rw [hb.block _ (by simp; omega), Below.heap_alloc _ _ _ (by simp)]
  exact heap_alloc_new w _
theorem box_cells {W : World} {b : Nat} (h' : W.heap[b]? = some (.cells #[.int .i64 0, .int .i64 0, .string ⟨#[]⟩] 54 (0, 0))) :
    (W.cell? ⟨b, 0, none⟩ = some (.int .i64 0) ∧ W.cell? ⟨b, 1, none⟩ = some (.int .i64 0) ∧ W.cell? ⟨b, 2, none⟩ = some (.string ⟨#[]⟩)) ∧ (W.frozen? ⟨b, 0, none⟩ = false ∧ W.frozen? ⟨b, 1, none⟩ = false ∧ W.frozen? ⟨b, 2, none⟩ = false) :=
  ⟨⟨by rw [cell_of_row _ _ 0 _ _ (0, 0) h']; rfl, by rw [cell_of_row _ _ 1 _ _ (0, 0) h']; rfl, by rw [cell_of_row _ _ 2 _ _ (0, 0) h']; rfl⟩, by simp [World.frozen?, h'], by simp [World.frozen?, h'], by simp [World.frozen?, h']⟩
theorem set3 {W : World} {b : Nat} {cs : Array Value} (h : W.heap[b]? = some (.cells cs 54 (0, 0))) (hc : cs.size = 3) (x : Val) : ValAt (((W.setCell ⟨b, 0, none⟩ (.int .i64 x.t)).setCell ⟨b, 1, none⟩ (.int .i64 x.n)).setCell ⟨b, 2, none⟩ (.string ⟨x.b.toArray⟩)) b x := by
  obtain ⟨l⟩ := cs
  match l, hc with
  | [c0, c1, c2], _ =>
    have hh : (((W.setCell ⟨b, 0, none⟩ (.int .i64 x.t)).setCell ⟨b, 1, none⟩ (.int .i64 x.n)).setCell ⟨b, 2, none⟩ (.string ⟨x.b.toArray⟩)).heap[b]? = some (.cells #[.int .i64 x.t, .int .i64 x.n, .string ⟨x.b.toArray⟩] 54 (0, 0)) := by
      simp [World.setCell, Array.getElem?_modify, h]
    exact ⟨by rw [cell_of_row _ _ 0 _ _ (0, 0) hh]; rfl, by rw [cell_of_row _ _ 1 _ _ (0, 0) hh]; rfl, by rw [cell_of_row _ _ 2 _ _ (0, 0) hh]; rfl⟩
theorem below3 {w W : World} {u v x : Value} (h : Below w.heap.size w W) : Below w.heap.size w (((W.setCell ⟨w.heap.size, 0, none⟩ u).setCell ⟨w.heap.size, 1, none⟩ v).setCell ⟨w.heap.size, 2, none⟩ x) :=
  ((h.setCell (p := ⟨w.heap.size, 0, none⟩) (Nat.le_refl _) _).setCell (p := ⟨w.heap.size, 1, none⟩) (Nat.le_refl _) _).setCell (p := ⟨w.heap.size, 2, none⟩) (Nat.le_refl _) _
theorem alloc_size_lt {W : World} {o : Obj} {b : Nat} {x : Obj} (h : W.heap[b]? = some x) : (W.alloc o).heap[b]? = some x := (Below.heap_alloc _ _ _ (Array.getElem?_eq_some_iff.1 h).1).trans h

end Go.Proofs.YtbjipcpoiiegkaaGreatDoor
namespace Go.Proofs.YtbjipcpoiiegkaaGreatDoor
open Go.RowKit
attribute [local go_sem high] eq_val eq_val0

theorem long_of (n : Int) (L : List Val) (hp : plainB n = true) (hf : fitsB L (inT n) = true) : Long n L.length := by
  have hl := (fits_short hf).1
  rcases plain_cases n hp with rfl | rfl | rfl | rfl | rfl | rfl | rfl | rfl | rfl | rfl | rfl | rfl | rfl | rfl | rfl | rfl | rfl | rfl | rfl | rfl | rfl | rfl | rfl | rfl | rfl | rfl | rfl | rfl | rfl | rfl | rfl | rfl
  all_goals (rw [hl]; simp [Long]; try rfl)
theorem ops_of (n : Int) (L : List Val) (hp : plainB n = true) (hf : fitsB L (inT n) = true) (h0 : faultV n L = 0) :
    (outT n = [1] ∧ NumOp n L.length L) ∨ (outT n = [2] ∧ TextOp n L.length L) ∨ (outT n = [3] ∧ TruthOp n L.length) := by
  have hl := (fits_short hf).1
  rcases plain_cases n hp with rfl | rfl | rfl | rfl | rfl | rfl | rfl | rfl | rfl | rfl | rfl | rfl | rfl | rfl | rfl | rfl | rfl | rfl | rfl | rfl | rfl | rfl | rfl | rfl | rfl | rfl | rfl | rfl | rfl | rfl | rfl | rfl
  all_goals rw [hl]
  all_goals first
    | exact .inr (.inr ⟨rfl, .inl ⟨by decide, rfl⟩⟩)
    | exact .inr (.inr ⟨rfl, .inr (.inl ⟨by simp [HoldOp], rfl⟩)⟩)
    | exact .inr (.inr ⟨rfl, .inr (.inr ⟨rfl, rfl⟩)⟩)
    | exact .inl ⟨rfl, .inl ⟨by first | (simp [CalcOp]; done) | (simp [CalcOp]; intro e; simp [faultV, e] at h0), rfl⟩⟩
    | exact .inl ⟨rfl, .inr (.inl ⟨by decide, rfl⟩)⟩
    | exact .inl ⟨rfl, .inr (.inr ⟨rfl, rfl, by
        by_cases h : 0 ≤ (A1 L).n ∧ (A1 L).n < (A0 L).b.length
        · exact h
        · simp [faultV] at h0; omega⟩)⟩
    | exact .inr (.inl ⟨rfl, .inl ⟨rfl, rfl⟩⟩)
    | exact .inr (.inl ⟨rfl, .inr (.inl ⟨rfl, rfl, by
        by_cases h : (0 ≤ (A1 L).n ∧ (A1 L).n ≤ (A2 L).n) ∧ (A2 L).n ≤ (A0 L).b.length
        · exact h
        · simp [faultV] at h0; omega⟩)⟩)
    | exact .inr (.inl ⟨rfl, .inr (.inr (.inl ⟨rfl, rfl⟩))⟩)
    | exact .inr (.inl ⟨rfl, .inr (.inr (.inr ⟨rfl, rfl⟩))⟩)
theorem short0 {L : List Val} (h : ∀ x ∈ L, x.b.length ≤ 256) : (A0 L).b.length ≤ 256 ∧ (A1 L).b.length ≤ 256 := by
  have g : ∀ k : Nat, (L.getD k z0).b.length ≤ 256 := fun k => by
    by_cases hk : k < L.length
    · have : L.getD k z0 = L[k] := by simp [List.getD, hk]
      rw [this]; exact h _ (List.getElem_mem _)
    · have : L.getD k z0 = z0 := by simp [List.getD, show L.length ≤ k by omega]
      rw [this]; simp [z0]
  exact ⟨g 0, g 1⟩
def applyV (n : Int) (L : List Val) : List Val × Int := if plainB n = true ∧ fitsB L (inT n) = true then (if faultV n L = 0 then ([ansV n L], 0) else ([], faultV n L)) else ([], 1)
/-- A new list of values. -/
def SlV (w : World) (v : Value) (R : List Val) : Prop := ∃ a, v = .slice a R.length R.length ∧ Vs w a R
theorem vs_one (w : World) (x : Val) : Vs (w.alloc x.box) (some ⟨w.heap.size, 0, none⟩) [x] := by
  obtain ⟨h0, h1, h2⟩ := val_new w x
  refine .inr ⟨_, _, rfl, fun j hj => ?_⟩
  obtain rfl : j = 0 := by simp at hj; omega
  exact ⟨h0, h1, h2⟩
end Go.Proofs.YtbjipcpoiiegkaaGreatDoor
namespace Go.Proofs.YtbjipcpoiiegkaaGreatDoor
open Go.RowKit
attribute [local go_sem high] eq_val eq_val0

theorem vs_cells {w : World} {b : Nat} {cs : Array Value} {t : TypeId} (h : w.heap[b]? = some (.cells cs t (0, 0))) (L : List Val) (hc : ∀ j (hj : j < L.length), cs[j * 3]? = some (.int .i64 L[j].t) ∧ cs[j * 3 + 1]? = some (.int .i64 L[j].n) ∧ cs[j * 3 + 2]? = some (.string ⟨L[j].b.toArray⟩)) : Vs w (some ⟨b, 0, none⟩) L := by
  refine .inr ⟨b, 0, rfl, fun j hj => ?_⟩
  obtain ⟨h0, h1, h2⟩ := hc j hj
  rw [cell_of_row _ _ (0 + j * 3) _ _ (0, 0) h, cell_of_row _ _ (0 + j * 3 + 1) _ _ (0, 0) h, cell_of_row _ _ (0 + j * 3 + 2) _ _ (0, 0) h]
  rw [Nat.zero_add]
  exact ⟨h0, h1, h2⟩
theorem vs_two (w : World) (x y : Val) (B : Nat) (hB : w.heap.size = B) : Vs (w.alloc (.cells #[.int .i64 x.t, .int .i64 x.n, .string ⟨x.b.toArray⟩, .int .i64 y.t, .int .i64 y.n, .string ⟨y.b.toArray⟩] 54)) (some ⟨B, 0, none⟩) [x, y] := by
  subst hB
  refine vs_cells (heap_alloc_new w _) _ fun j hj => ?_
  have : j = 0 ∨ j = 1 := by simp at hj; omega
  rcases this with rfl | rfl <;> exact ⟨rfl, rfl, rfl⟩
theorem vs_three (w : World) (x y z : Val) (B : Nat) (hB : w.heap.size = B) : Vs (w.alloc (.cells #[.int .i64 x.t, .int .i64 x.n, .string ⟨x.b.toArray⟩, .int .i64 y.t, .int .i64 y.n, .string ⟨y.b.toArray⟩, .int .i64 z.t, .int .i64 z.n, .string ⟨z.b.toArray⟩] 54)) (some ⟨B, 0, none⟩) [x, y, z] := by
  subst hB
  refine vs_cells (heap_alloc_new w _) _ fun j hj => ?_
  have : j = 0 ∨ j = 1 ∨ j = 2 := by simp at hj; omega
  rcases this with rfl | rfl | rfl <;> exact ⟨rfl, rfl, rfl⟩
theorem fair_of {L : List Val} (h : ∀ x ∈ L, x.b.length ≤ 9223372036854775807) : Fair L := h
/-- What came of a call of Apply, of one value. -/
theorem slv_one {w : World} {v : Value} {x : Val} (h : SlV w v [x]) : ∃ b off, v = .slice (some ⟨b, off, none⟩) 1 1 ∧ w.cell? ⟨b, off, none⟩ = some (.int .i64 x.t) ∧ w.cell? ⟨b, off + 1, none⟩ = some (.int .i64 x.n) ∧ w.cell? ⟨b, off + 2, none⟩ = some (.string ⟨x.b.toArray⟩) := by
  obtain ⟨a, rfl, hV⟩ := h
  obtain ⟨b, off, rfl, hc, _, _⟩ := hV.cells (by simp)
  exact ⟨b, off, rfl, hc⟩
theorem slv_none {w : World} {v : Value} (h : SlV w v []) : ∃ a, v = .slice a 0 0 := by
  obtain ⟨a, rfl, _⟩ := h
  exact ⟨a, rfl⟩
theorem cut_abc : applyV 34 [⟨2, 0, [97, 98, 99]⟩, ⟨1, 1, []⟩, ⟨1, 3, []⟩] = ([⟨2, 0, [98, 99]⟩], 0) := by decide +kernel
theorem fit_11 (a b : Int) : fitsB [⟨1, a, []⟩, ⟨1, b, []⟩] [1, 1] = true := by simp [fitsB, Val.right]
theorem apply_ok {n : Int} {L : List Val} (hp : plainB n = true) (hf : fitsB L (inT n) = true) (h0 : faultV n L = 0) : applyV n L = ([ansV n L], 0) := by
  unfold applyV
  rw [if_pos ⟨hp, hf⟩, if_pos h0]
theorem apply_calc (n a b : Int) (hc : CalcOp n b) : applyV n [⟨1, a, []⟩, ⟨1, b, []⟩] = ([⟨1, calcV n a b, []⟩], 0) := by
  rcases hc with rfl | rfl | rfl | ⟨rfl, h⟩ | ⟨rfl, h⟩ | rfl | rfl | rfl | rfl | rfl
  · exact apply_ok rfl (fit_11 a b) rfl
  · exact apply_ok rfl (fit_11 a b) rfl
  · exact apply_ok rfl (fit_11 a b) rfl
  · exact apply_ok rfl (fit_11 a b) (by simp [faultV, A1, h])
  · exact apply_ok rfl (fit_11 a b) (by simp [faultV, A1, h])
  · exact apply_ok rfl (fit_11 a b) rfl
  · exact apply_ok rfl (fit_11 a b) rfl
  · exact apply_ok rfl (fit_11 a b) rfl
  · exact apply_ok rfl (fit_11 a b) rfl
  · exact apply_ok rfl (fit_11 a b) rfl
theorem apply_zero (n a : Int) (hn : n = 14 ∨ n = 15) : applyV n [⟨1, a, []⟩, ⟨1, 0, []⟩] = ([], 40) := by
  unfold applyV
  rcases hn with rfl | rfl
  · rw [if_pos ⟨rfl, fit_11 a 0⟩]; rfl
  · rw [if_pos ⟨rfl, fit_11 a 0⟩]; rfl
theorem fair_two (a b : Int) : Fair [⟨1, a, []⟩, ⟨1, b, []⟩] := fair_of (by simp)
end Go.Proofs.YtbjipcpoiiegkaaGreatDoor
namespace Go.Proofs.YtbjipcpoiiegkaaGreatDoor
open Go.RowKit
attribute [local go_sem high] eq_val eq_val0
theorem ints_of_row {w : World} {base n : Nat} {v : Value} {T : List Int} (h : w.ownsRow base 3 1 v n (T.map fun x => Value.int .i64 x)) (hn : T.length = n) : ∃ a c, v = .slice a n c ∧ IntsAt w a T := by
  rcases h.2 with ⟨rfl, h0⟩ | ⟨g, cap, cur, rfl, hg, hh, r⟩
  · subst h0
    exact ⟨none, 0, rfl, .inl (by simpa using hn)⟩
  · refine ⟨_, _, rfl, .inr ⟨g, 0, rfl, fun j hj => ?_⟩⟩
    have hc := World.ownsRow.cells h (g := g) rfl j (Value.int .i64 T[j]) (by simp [hj])
    rw [Addr.add_lit] at hc
    exact hc
end Go.Proofs.YtbjipcpoiiegkaaGreatDoor
