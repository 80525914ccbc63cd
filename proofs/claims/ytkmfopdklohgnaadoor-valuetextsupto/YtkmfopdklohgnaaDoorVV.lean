/- Slices of values in new blocks. -/
import Derived.Test.YtkmfopdklohgnaaDoorVR
namespace Go.Proofs.YtkmfopdklohgnaaDoor
open Go.RowKit
theorem vsC {w : World} {b : Nat} {cs : Array Value} {t : TypeId} (h : w.heap[b]? = some (.cells cs t (0, 0))) (L : List Val) (hc : ∀ j (hj : j < L.length), cs[j * 3]? = some (.int .i64 L[j].t) ∧ cs[j * 3 + 1]? = some (.int .i64 L[j].n) ∧ cs[j * 3 + 2]? = some (.string ⟨L[j].b.toArray⟩)) : Vs w (some ⟨b, 0, none⟩) L := by
  refine .inr ⟨b, 0, rfl, fun j hj => ?_⟩
  obtain ⟨h0, h1, h2⟩ := hc j hj
  rw [cell_of_row _ _ (0 + j * 3) _ _ (0, 0) h, cell_of_row _ _ (0 + j * 3 + 1) _ _ (0, 0) h, cell_of_row _ _ (0 + j * 3 + 2) _ _ (0, 0) h]
  rw [Nat.zero_add]
  exact ⟨h0, h1, h2⟩
theorem vsOne (w : World) (x : Val) (B : Nat) (hB : w.heap.size = B) : Vs (w.alloc (.cells #[.int .i64 x.t, .int .i64 x.n, .string ⟨x.b.toArray⟩] 39)) (some ⟨B, 0, none⟩) [x] := by
  subst hB
  refine vsC (heap_alloc_new w _) _ fun j hj => ?_
  obtain rfl : j = 0 := by simp at hj; omega
  exact ⟨rfl, rfl, rfl⟩
theorem vsThree (w : World) (x y z : Val) (B : Nat) (hB : w.heap.size = B) : Vs (w.alloc (.cells #[.int .i64 x.t, .int .i64 x.n, .string ⟨x.b.toArray⟩, .int .i64 y.t, .int .i64 y.n, .string ⟨y.b.toArray⟩, .int .i64 z.t, .int .i64 z.n, .string ⟨z.b.toArray⟩] 39)) (some ⟨B, 0, none⟩) [x, y, z] := by
  subst hB
  refine vsC (heap_alloc_new w _) _ fun j hj => ?_
  have : j = 0 ∨ j = 1 ∨ j = 2 := by simp at hj; omega
  rcases this with rfl | rfl | rfl <;> exact ⟨rfl, rfl, rfl⟩
theorem vsFour (w : World) (x y z u : Val) (B : Nat) (hB : w.heap.size = B) : Vs (w.alloc (.cells #[.int .i64 x.t, .int .i64 x.n, .string ⟨x.b.toArray⟩, .int .i64 y.t, .int .i64 y.n, .string ⟨y.b.toArray⟩, .int .i64 z.t, .int .i64 z.n, .string ⟨z.b.toArray⟩, .int .i64 u.t, .int .i64 u.n, .string ⟨u.b.toArray⟩] 39)) (some ⟨B, 0, none⟩) [x, y, z, u] := by
  subst hB
  refine vsC (heap_alloc_new w _) _ fun j hj => ?_
  have : j = 0 ∨ j = 1 ∨ j = 2 ∨ j = 3 := by simp at hj; omega
  rcases this with rfl | rfl | rfl | rfl <;> exact ⟨rfl, rfl, rfl⟩
end Go.Proofs.YtkmfopdklohgnaaDoor
