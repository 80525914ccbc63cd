/- What the document's tables come to. -/
import Derived.Test.YtkmfopdklohgnaaOF
import Derived.Test.YtkmfopdklohgnaaOT
import Derived.WalkKit
import Derived.WalkSpells
import Derived.WalkLawsBesides
import Derived.BigQuiet
import Derived.Deep.QuietTactic
import Derived.Deep.RegionWith
import Derived.Maps.AppendAt
import Derived.OwnWalk
namespace Go.Proofs.Ytkmfopdklohgnaa
open Go.RowKit

def inS : List (List UInt8) := [[], [], [], [], [], [48], [48], [48, 48], [48, 48], [], [48], [49, 49], [49, 49], [49, 49], [49, 49], [49, 49], [49], [49, 49], [49, 49], [49, 49], [49], [49, 49], [49, 49], [49, 49], [49, 49], [49, 49], [49, 49], [49, 49], [49, 49], [51, 51], [51, 51], [51], [50], [50, 50], [50, 49, 49], [50, 49], [50, 50], [50, 50], [49], [50], [49], [50], [50], [50, 50], [50], [50], [50], [], [51], [], [], [], [51], []]
def outS : List (List UInt8) := [[], [49], [50], [51], [51], [], [48, 48], [48, 48], [48, 48, 48], [48], [], [49], [49], [49], [49], [49], [49], [49], [49], [49], [49], [49], [49], [51], [51], [51], [51], [51], [51], [51], [51], [51], [49], [50], [50], [49], [51], [51], [50], [49], [50], [50, 51], [51], [], [], [50, 51], [], [], [], [], [], [], [], []]
theorem cell_name (w : World) (k : Nat) (hk : k < 54) : (w.alloc (.cells #[.string ⟨#[]⟩, .string ⟨#[105, 110, 116]⟩, .string ⟨#[99, 111, 110, 115, 116]⟩, .string ⟨#[116, 114, 117, 101]⟩, .string ⟨#[102, 97, 108, 115, 101]⟩, .string ⟨#[100, 114, 111, 112]⟩, .string ⟨#[100, 117, 112]⟩, .string ⟨#[115, 119, 97, 112]⟩, .string ⟨#[111, 118, 101, 114]⟩, .string ⟨#[103, 101, 116]⟩, .string ⟨#[115, 101, 116]⟩, .string ⟨#[97, 100, 100]⟩, .string ⟨#[115, 117, 98]⟩, .string ⟨#[109, 117, 108]⟩, .string ⟨#[100, 105, 118]⟩, .string ⟨#[114, 101, 109]⟩, .string ⟨#[110, 101, 103]⟩, .string ⟨#[97, 110, 100]⟩, .string ⟨#[111, 114]⟩, .string ⟨#[120, 111, 114]⟩, .string ⟨#[105, 110, 118]⟩, .string ⟨#[115, 104, 108]⟩, .string ⟨#[115, 104, 114]⟩, .string ⟨#[101, 113]⟩, .string ⟨#[110, 101]⟩, .string ⟨#[108, 116]⟩, .string ⟨#[108, 101]⟩, .string ⟨#[103, 116]⟩, .string ⟨#[103, 101]⟩, .string ⟨#[98, 111, 116, 104]⟩, .string ⟨#[101, 105, 116, 104, 101, 114]⟩, .string ⟨#[110, 111, 116]⟩, .string ⟨#[108, 101, 110]⟩, .string ⟨#[106, 111, 105, 110]⟩, .string ⟨#[99, 117, 116]⟩, .string ⟨#[97, 116]⟩, .string ⟨#[115, 97, 109, 101]⟩, .string ⟨#[108, 101, 115, 115]⟩, .string ⟨#[112, 97, 99, 107]⟩, .string ⟨#[117, 110, 112, 97, 99, 107]⟩, .string ⟨#[111, 110, 101]⟩, .string ⟨#[108, 111, 97, 100]⟩, .string ⟨#[104, 97, 115]⟩, .string ⟨#[115, 97, 118, 101]⟩, .string ⟨#[119, 105, 112, 101]⟩, .string ⟨#[110, 101, 120, 116]⟩, .string ⟨#[101, 109, 105, 116]⟩, .string ⟨#[97, 98, 111, 114, 116]⟩, .string ⟨#[105, 102]⟩, .string ⟨#[101, 108, 115, 101]⟩, .string ⟨#[101, 110, 100]⟩, .string ⟨#[108, 111, 111, 112]⟩, .string ⟨#[108, 101, 97, 118, 101]⟩, .string ⟨#[99, 97, 108, 108]⟩] 9)).cell? ⟨w.heap.size, k, none⟩ = some (.string ⟨(nameTab.getD k []).toArray⟩) := by
  rw [cell_of_row _ _ k _ _ (0, 0) (heap_alloc_new w _)]
  have e : (#[.string ⟨#[]⟩, .string ⟨#[105, 110, 116]⟩, .string ⟨#[99, 111, 110, 115, 116]⟩, .string ⟨#[116, 114, 117, 101]⟩, .string ⟨#[102, 97, 108, 115, 101]⟩, .string ⟨#[100, 114, 111, 112]⟩, .string ⟨#[100, 117, 112]⟩, .string ⟨#[115, 119, 97, 112]⟩, .string ⟨#[111, 118, 101, 114]⟩, .string ⟨#[103, 101, 116]⟩, .string ⟨#[115, 101, 116]⟩, .string ⟨#[97, 100, 100]⟩, .string ⟨#[115, 117, 98]⟩, .string ⟨#[109, 117, 108]⟩, .string ⟨#[100, 105, 118]⟩, .string ⟨#[114, 101, 109]⟩, .string ⟨#[110, 101, 103]⟩, .string ⟨#[97, 110, 100]⟩, .string ⟨#[111, 114]⟩, .string ⟨#[120, 111, 114]⟩, .string ⟨#[105, 110, 118]⟩, .string ⟨#[115, 104, 108]⟩, .string ⟨#[115, 104, 114]⟩, .string ⟨#[101, 113]⟩, .string ⟨#[110, 101]⟩, .string ⟨#[108, 116]⟩, .string ⟨#[108, 101]⟩, .string ⟨#[103, 116]⟩, .string ⟨#[103, 101]⟩, .string ⟨#[98, 111, 116, 104]⟩, .string ⟨#[101, 105, 116, 104, 101, 114]⟩, .string ⟨#[110, 111, 116]⟩, .string ⟨#[108, 101, 110]⟩, .string ⟨#[106, 111, 105, 110]⟩, .string ⟨#[99, 117, 116]⟩, .string ⟨#[97, 116]⟩, .string ⟨#[115, 97, 109, 101]⟩, .string ⟨#[108, 101, 115, 115]⟩, .string ⟨#[112, 97, 99, 107]⟩, .string ⟨#[117, 110, 112, 97, 99, 107]⟩, .string ⟨#[111, 110, 101]⟩, .string ⟨#[108, 111, 97, 100]⟩, .string ⟨#[104, 97, 115]⟩, .string ⟨#[115, 97, 118, 101]⟩, .string ⟨#[119, 105, 112, 101]⟩, .string ⟨#[110, 101, 120, 116]⟩, .string ⟨#[101, 109, 105, 116]⟩, .string ⟨#[97, 98, 111, 114, 116]⟩, .string ⟨#[105, 102]⟩, .string ⟨#[101, 108, 115, 101]⟩, .string ⟨#[101, 110, 100]⟩, .string ⟨#[108, 111, 111, 112]⟩, .string ⟨#[108, 101, 97, 118, 101]⟩, .string ⟨#[99, 97, 108, 108]⟩] : Array Value) = (nameTab.map fun x => .string ⟨x.toArray⟩).toArray := rfl
  rw [e]
  have hl : k < nameTab.length := hk
  simp [List.getD, hl]
theorem cell_cost (w : World) (k : Nat) (hk : k < 54) : (w.alloc (.cells #[.int .i64 0, .int .i64 1, .int .i64 1, .int .i64 1, .int .i64 1, .int .i64 1, .int .i64 1, .int .i64 1, .int .i64 1, .int .i64 1, .int .i64 1, .int .i64 1, .int .i64 1, .int .i64 2, .int .i64 4, .int .i64 4, .int .i64 1, .int .i64 1, .int .i64 1, .int .i64 1, .int .i64 1, .int .i64 1, .int .i64 1, .int .i64 1, .int .i64 1, .int .i64 1, .int .i64 1, .int .i64 1, .int .i64 1, .int .i64 1, .int .i64 1, .int .i64 1, .int .i64 1, .int .i64 6, .int .i64 6, .int .i64 2, .int .i64 4, .int .i64 4, .int .i64 3, .int .i64 3, .int .i64 2, .int .i64 20, .int .i64 15, .int .i64 30, .int .i64 25, .int .i64 20, .int .i64 10, .int .i64 1, .int .i64 1, .int .i64 1, .int .i64 1, .int .i64 2, .int .i64 1, .int .i64 5] 3)).cell? ⟨w.heap.size, k, none⟩ = some (.int .i64 (costTab.getD k 0)) := by
  rw [cell_of_row _ _ k _ _ (0, 0) (heap_alloc_new w _)]
  have e : (#[.int .i64 0, .int .i64 1, .int .i64 1, .int .i64 1, .int .i64 1, .int .i64 1, .int .i64 1, .int .i64 1, .int .i64 1, .int .i64 1, .int .i64 1, .int .i64 1, .int .i64 1, .int .i64 2, .int .i64 4, .int .i64 4, .int .i64 1, .int .i64 1, .int .i64 1, .int .i64 1, .int .i64 1, .int .i64 1, .int .i64 1, .int .i64 1, .int .i64 1, .int .i64 1, .int .i64 1, .int .i64 1, .int .i64 1, .int .i64 1, .int .i64 1, .int .i64 1, .int .i64 1, .int .i64 6, .int .i64 6, .int .i64 2, .int .i64 4, .int .i64 4, .int .i64 3, .int .i64 3, .int .i64 2, .int .i64 20, .int .i64 15, .int .i64 30, .int .i64 25, .int .i64 20, .int .i64 10, .int .i64 1, .int .i64 1, .int .i64 1, .int .i64 1, .int .i64 2, .int .i64 1, .int .i64 5] : Array Value) = (costTab.map fun x => .int .i64 x).toArray := rfl
  rw [e]
  have hl : k < costTab.length := hk
  simp [List.getD, hl]
theorem cell_in (w : World) (k : Nat) (hk : k < 54) : (w.alloc (.cells #[.string ⟨#[]⟩, .string ⟨#[]⟩, .string ⟨#[]⟩, .string ⟨#[]⟩, .string ⟨#[]⟩, .string ⟨#[48]⟩, .string ⟨#[48]⟩, .string ⟨#[48, 48]⟩, .string ⟨#[48, 48]⟩, .string ⟨#[]⟩, .string ⟨#[48]⟩, .string ⟨#[49, 49]⟩, .string ⟨#[49, 49]⟩, .string ⟨#[49, 49]⟩, .string ⟨#[49, 49]⟩, .string ⟨#[49, 49]⟩, .string ⟨#[49]⟩, .string ⟨#[49, 49]⟩, .string ⟨#[49, 49]⟩, .string ⟨#[49, 49]⟩, .string ⟨#[49]⟩, .string ⟨#[49, 49]⟩, .string ⟨#[49, 49]⟩, .string ⟨#[49, 49]⟩, .string ⟨#[49, 49]⟩, .string ⟨#[49, 49]⟩, .string ⟨#[49, 49]⟩, .string ⟨#[49, 49]⟩, .string ⟨#[49, 49]⟩, .string ⟨#[51, 51]⟩, .string ⟨#[51, 51]⟩, .string ⟨#[51]⟩, .string ⟨#[50]⟩, .string ⟨#[50, 50]⟩, .string ⟨#[50, 49, 49]⟩, .string ⟨#[50, 49]⟩, .string ⟨#[50, 50]⟩, .string ⟨#[50, 50]⟩, .string ⟨#[49]⟩, .string ⟨#[50]⟩, .string ⟨#[49]⟩, .string ⟨#[50]⟩, .string ⟨#[50]⟩, .string ⟨#[50, 50]⟩, .string ⟨#[50]⟩, .string ⟨#[50]⟩, .string ⟨#[50]⟩, .string ⟨#[]⟩, .string ⟨#[51]⟩, .string ⟨#[]⟩, .string ⟨#[]⟩, .string ⟨#[]⟩, .string ⟨#[51]⟩, .string ⟨#[]⟩] 9)).cell? ⟨w.heap.size, k, none⟩ = some (.string ⟨(inS.getD k []).toArray⟩) := by
  rw [cell_of_row _ _ k _ _ (0, 0) (heap_alloc_new w _)]
  have e : (#[.string ⟨#[]⟩, .string ⟨#[]⟩, .string ⟨#[]⟩, .string ⟨#[]⟩, .string ⟨#[]⟩, .string ⟨#[48]⟩, .string ⟨#[48]⟩, .string ⟨#[48, 48]⟩, .string ⟨#[48, 48]⟩, .string ⟨#[]⟩, .string ⟨#[48]⟩, .string ⟨#[49, 49]⟩, .string ⟨#[49, 49]⟩, .string ⟨#[49, 49]⟩, .string ⟨#[49, 49]⟩, .string ⟨#[49, 49]⟩, .string ⟨#[49]⟩, .string ⟨#[49, 49]⟩, .string ⟨#[49, 49]⟩, .string ⟨#[49, 49]⟩, .string ⟨#[49]⟩, .string ⟨#[49, 49]⟩, .string ⟨#[49, 49]⟩, .string ⟨#[49, 49]⟩, .string ⟨#[49, 49]⟩, .string ⟨#[49, 49]⟩, .string ⟨#[49, 49]⟩, .string ⟨#[49, 49]⟩, .string ⟨#[49, 49]⟩, .string ⟨#[51, 51]⟩, .string ⟨#[51, 51]⟩, .string ⟨#[51]⟩, .string ⟨#[50]⟩, .string ⟨#[50, 50]⟩, .string ⟨#[50, 49, 49]⟩, .string ⟨#[50, 49]⟩, .string ⟨#[50, 50]⟩, .string ⟨#[50, 50]⟩, .string ⟨#[49]⟩, .string ⟨#[50]⟩, .string ⟨#[49]⟩, .string ⟨#[50]⟩, .string ⟨#[50]⟩, .string ⟨#[50, 50]⟩, .string ⟨#[50]⟩, .string ⟨#[50]⟩, .string ⟨#[50]⟩, .string ⟨#[]⟩, .string ⟨#[51]⟩, .string ⟨#[]⟩, .string ⟨#[]⟩, .string ⟨#[]⟩, .string ⟨#[51]⟩, .string ⟨#[]⟩] : Array Value) = (inS.map fun x => .string ⟨x.toArray⟩).toArray := rfl
  rw [e]
  have hl : k < inS.length := hk
  simp [List.getD, hl]
theorem cell_out (w : World) (k : Nat) (hk : k < 54) : (w.alloc (.cells #[.string ⟨#[]⟩, .string ⟨#[49]⟩, .string ⟨#[50]⟩, .string ⟨#[51]⟩, .string ⟨#[51]⟩, .string ⟨#[]⟩, .string ⟨#[48, 48]⟩, .string ⟨#[48, 48]⟩, .string ⟨#[48, 48, 48]⟩, .string ⟨#[48]⟩, .string ⟨#[]⟩, .string ⟨#[49]⟩, .string ⟨#[49]⟩, .string ⟨#[49]⟩, .string ⟨#[49]⟩, .string ⟨#[49]⟩, .string ⟨#[49]⟩, .string ⟨#[49]⟩, .string ⟨#[49]⟩, .string ⟨#[49]⟩, .string ⟨#[49]⟩, .string ⟨#[49]⟩, .string ⟨#[49]⟩, .string ⟨#[51]⟩, .string ⟨#[51]⟩, .string ⟨#[51]⟩, .string ⟨#[51]⟩, .string ⟨#[51]⟩, .string ⟨#[51]⟩, .string ⟨#[51]⟩, .string ⟨#[51]⟩, .string ⟨#[51]⟩, .string ⟨#[49]⟩, .string ⟨#[50]⟩, .string ⟨#[50]⟩, .string ⟨#[49]⟩, .string ⟨#[51]⟩, .string ⟨#[51]⟩, .string ⟨#[50]⟩, .string ⟨#[49]⟩, .string ⟨#[50]⟩, .string ⟨#[50, 51]⟩, .string ⟨#[51]⟩, .string ⟨#[]⟩, .string ⟨#[]⟩, .string ⟨#[50, 51]⟩, .string ⟨#[]⟩, .string ⟨#[]⟩, .string ⟨#[]⟩, .string ⟨#[]⟩, .string ⟨#[]⟩, .string ⟨#[]⟩, .string ⟨#[]⟩, .string ⟨#[]⟩] 9)).cell? ⟨w.heap.size, k, none⟩ = some (.string ⟨(outS.getD k []).toArray⟩) := by
  rw [cell_of_row _ _ k _ _ (0, 0) (heap_alloc_new w _)]
  have e : (#[.string ⟨#[]⟩, .string ⟨#[49]⟩, .string ⟨#[50]⟩, .string ⟨#[51]⟩, .string ⟨#[51]⟩, .string ⟨#[]⟩, .string ⟨#[48, 48]⟩, .string ⟨#[48, 48]⟩, .string ⟨#[48, 48, 48]⟩, .string ⟨#[48]⟩, .string ⟨#[]⟩, .string ⟨#[49]⟩, .string ⟨#[49]⟩, .string ⟨#[49]⟩, .string ⟨#[49]⟩, .string ⟨#[49]⟩, .string ⟨#[49]⟩, .string ⟨#[49]⟩, .string ⟨#[49]⟩, .string ⟨#[49]⟩, .string ⟨#[49]⟩, .string ⟨#[49]⟩, .string ⟨#[49]⟩, .string ⟨#[51]⟩, .string ⟨#[51]⟩, .string ⟨#[51]⟩, .string ⟨#[51]⟩, .string ⟨#[51]⟩, .string ⟨#[51]⟩, .string ⟨#[51]⟩, .string ⟨#[51]⟩, .string ⟨#[51]⟩, .string ⟨#[49]⟩, .string ⟨#[50]⟩, .string ⟨#[50]⟩, .string ⟨#[49]⟩, .string ⟨#[51]⟩, .string ⟨#[51]⟩, .string ⟨#[50]⟩, .string ⟨#[49]⟩, .string ⟨#[50]⟩, .string ⟨#[50, 51]⟩, .string ⟨#[51]⟩, .string ⟨#[]⟩, .string ⟨#[]⟩, .string ⟨#[50, 51]⟩, .string ⟨#[]⟩, .string ⟨#[]⟩, .string ⟨#[]⟩, .string ⟨#[]⟩, .string ⟨#[]⟩, .string ⟨#[]⟩, .string ⟨#[]⟩, .string ⟨#[]⟩] : Array Value) = (outS.map fun x => .string ⟨x.toArray⟩).toArray := rfl
  rw [e]
  have hl : k < outS.length := hk
  simp [List.getD, hl]
set_option maxHeartbeats 1000000 in
theorem rname_any (n : Int) (w : World) : Calls Try.prog 30 #[.int .i64 n] w fun e w' => e = .returned (.string ⟨(nameT n).toArray⟩) ∧ Below w.heap.size w w' := by
  by_cases h1 : n < 1
  · rw [show nameT n = [] from rowOf_none _ _ n (.inl h1)]
    go_enter Try.func30, Try.ntmps30
    go_wp2
    go_ret
    exact ⟨rfl, (Below.refl _ w).alloc (Nat.le_refl _) _⟩
  by_cases h2 : 53 < n
  · rw [show nameT n = [] from rowOf_none _ _ n (.inr h2)]
    go_enter Try.func30, Try.ntmps30
    go_wp2
    go_ret
    exact ⟨rfl, (Below.refl _ w).alloc (Nat.le_refl _) _⟩
  obtain ⟨k, rfl⟩ : ∃ k : Nat, n = k := ⟨n.toNat, by omega⟩
  have hk : k < 54 := by omega
  have hc := cell_name w k hk
  rw [show nameT k = nameTab.getD k [] from by unfold nameT rowOf; rw [if_pos (by omega)]; simp]
  generalize nameTab.getD k [] = r at *
  go_enter Try.func30, Try.ntmps30
  go_wp2
  go_ret
  exact ⟨rfl, (Below.refl _ w).alloc (Nat.le_refl _) _⟩
end Go.Proofs.Ytkmfopdklohgnaa
