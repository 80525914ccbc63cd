/- What the document's table of costs comes to. -/
import Derived.Test.YtodagpmcmjleaaaYD
import Derived.WalkKit
import Derived.WalkSpells
import Derived.WalkLawsBesides
import Derived.BigQuiet
import Derived.Deep.QuietTactic
import Derived.Deep.RegionWith
import Derived.Maps.AppendAt
import Derived.OwnWalk
namespace Go.Proofs.Ytodagpmcmjleaaa
open Go.RowKit
theorem cell_cost9 (w : World) (k : Nat) (hk : k < 54) : (w.alloc (.cells #[.int .i64 0, .int .i64 1, .int .i64 1, .int .i64 1, .int .i64 1, .int .i64 1, .int .i64 1, .int .i64 1, .int .i64 1, .int .i64 1, .int .i64 1, .int .i64 1, .int .i64 1, .int .i64 2, .int .i64 4, .int .i64 4, .int .i64 1, .int .i64 1, .int .i64 1, .int .i64 1, .int .i64 1, .int .i64 1, .int .i64 1, .int .i64 1, .int .i64 1, .int .i64 1, .int .i64 1, .int .i64 1, .int .i64 1, .int .i64 1, .int .i64 1, .int .i64 1, .int .i64 1, .int .i64 6, .int .i64 6, .int .i64 2, .int .i64 4, .int .i64 4, .int .i64 3, .int .i64 3, .int .i64 2, .int .i64 20, .int .i64 15, .int .i64 30, .int .i64 25, .int .i64 20, .int .i64 10, .int .i64 1, .int .i64 1, .int .i64 1, .int .i64 1, .int .i64 2, .int .i64 1, .int .i64 5] 3)).cell? ⟨w.heap.size, k, none⟩ = some (.int .i64 (costTab.getD k 0)) := by
  rw [cell_of_row _ _ k _ _ (0, 0) (heap_alloc_new w _)]
  have e : (#[.int .i64 0, .int .i64 1, .int .i64 1, .int .i64 1, .int .i64 1, .int .i64 1, .int .i64 1, .int .i64 1, .int .i64 1, .int .i64 1, .int .i64 1, .int .i64 1, .int .i64 1, .int .i64 2, .int .i64 4, .int .i64 4, .int .i64 1, .int .i64 1, .int .i64 1, .int .i64 1, .int .i64 1, .int .i64 1, .int .i64 1, .int .i64 1, .int .i64 1, .int .i64 1, .int .i64 1, .int .i64 1, .int .i64 1, .int .i64 1, .int .i64 1, .int .i64 1, .int .i64 1, .int .i64 6, .int .i64 6, .int .i64 2, .int .i64 4, .int .i64 4, .int .i64 3, .int .i64 3, .int .i64 2, .int .i64 20, .int .i64 15, .int .i64 30, .int .i64 25, .int .i64 20, .int .i64 10, .int .i64 1, .int .i64 1, .int .i64 1, .int .i64 1, .int .i64 2, .int .i64 1, .int .i64 5] : Array Value) = (costTab.map fun x => .int .i64 x).toArray := rfl
  rw [e]
  have hl : k < costTab.length := hk
  simp [List.getD, hl]
set_option maxHeartbeats 1000000 in
theorem rcost9_any (n : Int) (w : World) : Calls Try.prog 21 #[.int .i64 n] w fun e w' => e = .returned (.int .i64 (costT n)) ∧ Below w.heap.size w w' := by
  by_cases h1 : n < 1
  · rw [show costT n = 0 from rowOf_none _ _ n (.inl h1)]
    go_enter Try.func21, Try.ntmps21
    go_wp2
    go_ret
    exact ⟨rfl, (Below.refl _ w).alloc (Nat.le_refl _) _⟩
  by_cases h2 : 53 < n
  · rw [show costT n = 0 from rowOf_none _ _ n (.inr h2)]
    go_enter Try.func21, Try.ntmps21
    go_wp2
    go_ret
    exact ⟨rfl, (Below.refl _ w).alloc (Nat.le_refl _) _⟩
  obtain ⟨k, rfl⟩ : ∃ k : Nat, n = k := ⟨n.toNat, by omega⟩
  have hk : k < 54 := by omega
  have hc := cell_cost9 w k hk
  rw [show costT k = costTab.getD k 0 from by unfold costT rowOf; rw [if_pos (by omega)]; simp]
  generalize costTab.getD k 0 = r at *
  go_enter Try.func21, Try.ntmps21
  go_wp2
  go_ret
  exact ⟨rfl, (Below.refl _ w).alloc (Nat.le_refl _) _⟩
end Go.Proofs.Ytodagpmcmjleaaa
