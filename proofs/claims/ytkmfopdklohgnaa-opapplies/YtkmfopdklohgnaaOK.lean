/- layer 3's check 'knows', its helpers num, one, two. -/
import Derived.Test.YtkmfopdklohgnaaOJ
namespace Go.Proofs.Ytkmfopdklohgnaa
open Go.RowKit
attribute [local go_sem high] eq_val eq_val0

theorem vs_cells {w : World} {b : Nat} {cs : Array Value} {t : TypeId} (h : w.heap[b]? = some (.cells cs t (0, 0))) (L : List Val) (hc : ∀ j (hj : j < L.length), cs[j * 3]? = some (.int .i64 L[j].t) ∧ cs[j * 3 + 1]? = some (.int .i64 L[j].n) ∧ cs[j * 3 + 2]? = some (.string ⟨L[j].b.toArray⟩)) : Vs w (some ⟨b, 0, none⟩) L := by
  refine .inr ⟨b, 0, rfl, fun j hj => ?_⟩
  obtain ⟨h0, h1, h2⟩ := hc j hj
  rw [cell_of_row _ _ (0 + j * 3) _ _ (0, 0) h, cell_of_row _ _ (0 + j * 3 + 1) _ _ (0, 0) h, cell_of_row _ _ (0 + j * 3 + 2) _ _ (0, 0) h]
  rw [Nat.zero_add]
  exact ⟨h0, h1, h2⟩
theorem vs_two (w : World) (x y : Val) (B : Nat) (hB : w.heap.size = B) : Vs (w.alloc (.cells #[.int .i64 x.t, .int .i64 x.n, .string ⟨x.b.toArray⟩, .int .i64 y.t, .int .i64 y.n, .string ⟨y.b.toArray⟩] 39)) (some ⟨B, 0, none⟩) [x, y] := by
  subst hB
  refine vs_cells (heap_alloc_new w _) _ fun j hj => ?_
  have : j = 0 ∨ j = 1 := by simp at hj; omega
  rcases this with rfl | rfl <;> exact ⟨rfl, rfl, rfl⟩
theorem vs_three (w : World) (x y z : Val) (B : Nat) (hB : w.heap.size = B) : Vs (w.alloc (.cells #[.int .i64 x.t, .int .i64 x.n, .string ⟨x.b.toArray⟩, .int .i64 y.t, .int .i64 y.n, .string ⟨y.b.toArray⟩, .int .i64 z.t, .int .i64 z.n, .string ⟨z.b.toArray⟩] 39)) (some ⟨B, 0, none⟩) [x, y, z] := by
  subst hB
  refine vs_cells (heap_alloc_new w _) _ fun j hj => ?_
  have : j = 0 ∨ j = 1 ∨ j = 2 := by simp at hj; omega
  rcases this with rfl | rfl | rfl <;> exact ⟨rfl, rfl, rfl⟩
theorem num3_any (n : Int) (w : World) : Calls Try.prog 8 #[.int .i64 n] w fun e w' => e = .returned (.int .i64 n) ∧ w' = w := by
  go_enter Try.func8, Try.ntmps8
  go_wp2
  go_ret
  exact ⟨rfl, rfl⟩
theorem fair_of {L : List Val} (h : ∀ x ∈ L, x.b.length ≤ 9223372036854775807) : Fair L := h
/-- What came of a call of Apply, of one value. -/
theorem slv_one {w : World} {v : Value} {x : Val} (h : SlV w v [x]) : ∃ b off, v = .slice (some ⟨b, off, none⟩) 1 1 ∧ w.cell? ⟨b, off, none⟩ = some (.int .i64 x.t) ∧ w.cell? ⟨b, off + 1, none⟩ = some (.int .i64 x.n) ∧ w.cell? ⟨b, off + 2, none⟩ = some (.string ⟨x.b.toArray⟩) := by
  obtain ⟨a, rfl, hV⟩ := h
  obtain ⟨b, off, rfl, hc, _, _⟩ := hV.cells (by simp)
  exact ⟨b, off, rfl, hc⟩
theorem slv_none {w : World} {v : Value} (h : SlV w v []) : ∃ a, v = .slice a 0 0 := by
  obtain ⟨a, rfl, _⟩ := h
  exact ⟨a, rfl⟩
theorem cut_abc : applyV 34 [⟨2, 0, [97, 98, 99]⟩, ⟨1, 1, []⟩, ⟨1, 3, []⟩] = ([⟨2, 0, [98, 99]⟩], 0) := by decide +kernel
theorem fit_11 (a b : Int) : fitsB [⟨1, a, []⟩, ⟨1, b, []⟩] [1, 1] = true := by simp [fitsB, Val.right]
theorem apply_ok {n : Int} {L : List Val} (hp : plainB n = true) (hf : fitsB L (inT n) = true) (h0 : faultV n L = 0) : applyV n L = ([ansV n L], 0) := by
  unfold applyV
  rw [if_pos ⟨hp, hf⟩, if_pos h0]
theorem apply_calc (n a b : Int) (hc : CalcOp n b) : applyV n [⟨1, a, []⟩, ⟨1, b, []⟩] = ([⟨1, calcV n a b, []⟩], 0) := by
  rcases hc with rfl | rfl | rfl | ⟨rfl, h⟩ | ⟨rfl, h⟩ | rfl | rfl | rfl | rfl | rfl
  · exact apply_ok rfl (fit_11 a b) rfl
  · exact apply_ok rfl (fit_11 a b) rfl
  · exact apply_ok rfl (fit_11 a b) rfl
  · exact apply_ok rfl (fit_11 a b) (by simp [faultV, A1, h])
  · exact apply_ok rfl (fit_11 a b) (by simp [faultV, A1, h])
  · exact apply_ok rfl (fit_11 a b) rfl
  · exact apply_ok rfl (fit_11 a b) rfl
  · exact apply_ok rfl (fit_11 a b) rfl
  · exact apply_ok rfl (fit_11 a b) rfl
  · exact apply_ok rfl (fit_11 a b) rfl
theorem apply_zero (n a : Int) (hn : n = 14 ∨ n = 15) : applyV n [⟨1, a, []⟩, ⟨1, 0, []⟩] = ([], 40) := by
  unfold applyV
  rcases hn with rfl | rfl
  · rw [if_pos ⟨rfl, fit_11 a 0⟩]; rfl
  · rw [if_pos ⟨rfl, fit_11 a 0⟩]; rfl
theorem fair_two (a b : Int) : Fair [⟨1, a, []⟩, ⟨1, b, []⟩] := fair_of (by simp)
end Go.Proofs.Ytkmfopdklohgnaa
