/- Layer 8: the document's Reach. -/
import Derived.Test.YtodagpmcmjleaaaGreatXR
namespace Go.Proofs.YtodagpmcmjleaaaGreat
open Go.RowKit
theorem swp_at (g : Nat → List Nat) (m : Nat → Bool) (i k : Nat) : swp g m i k i = m i := by
  unfold swp
  cases m i <;> simp
theorem swp_no {g : Nat → List Nat} {m : Nat → Bool} {i : Nat} (h : m i = false) (k : Nat) : swp g m i k = m := by
  funext x
  simp [swp, h]
theorem swp_succ {g : Nat → List Nat} {m : Nat → Bool} {i k : Nat} (h : m i = true) (hk : k < (g i).length) : (fun x => if x = (g i)[k] then true else swp g m i k x) = swp g m i (k + 1) := by
  funext x
  have ht : ∀ y, y ∈ (g i).take (k + 1) ↔ y ∈ (g i).take k ∨ y = (g i)[k] := fun y => by rw [List.take_succ_eq_append_getElem hk]; simp only [List.mem_append, List.mem_singleton]
  rw [Bool.eq_iff_iff]
  simp only [swp, h, Bool.true_and, Bool.or_eq_true, List.contains_iff_mem, ht]
  by_cases e : x = (g i)[k]
  · simp [e]
  · simp [e]
theorem filt_succ (p : Nat → Bool) (i : Nat) : rowI ((List.range (i + 1)).filter p) = rowI ((List.range i).filter p) ++ if p i then [(i : Int)] else [] := by
  rw [List.range_succ, List.filter_append, rowI, List.map_append]
  congr 1
  by_cases h : p i
  · simp [h]
  · simp [h]
theorem filt_len (p : Nat → Bool) (i : Nat) : (rowI ((List.range i).filter p)).length ≤ i := by
  rw [rowI, List.length_map]
  exact Nat.le_trans (List.length_filter_le _ _) (by simp)
def boolV (m : Nat → Bool) : Nat → Value := fun x => .bool (m x)
end Go.Proofs.YtodagpmcmjleaaaGreat
