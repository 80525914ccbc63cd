/- The document's Name, Takes. -/
import Derived.Test.YtikomfbpaimnmaaCR
import Derived.Test.YtikomfbpaimnmaaXM
import Derived.Deep.RegionWith
namespace Go.Proofs.Ytikomfbpaimnmaa
open Go.RowKit
theorem cell_name4 (w : World) (k : Nat) (hk : k < 54) : (w.alloc (.cells #[.string ⟨#[]⟩, .string ⟨#[105, 110, 116]⟩, .string ⟨#[99, 111, 110, 115, 116]⟩, .string ⟨#[116, 114, 117, 101]⟩, .string ⟨#[102, 97, 108, 115, 101]⟩, .string ⟨#[100, 114, 111, 112]⟩, .string ⟨#[100, 117, 112]⟩, .string ⟨#[115, 119, 97, 112]⟩, .string ⟨#[111, 118, 101, 114]⟩, .string ⟨#[103, 101, 116]⟩, .string ⟨#[115, 101, 116]⟩, .string ⟨#[97, 100, 100]⟩, .string ⟨#[115, 117, 98]⟩, .string ⟨#[109, 117, 108]⟩, .string ⟨#[100, 105, 118]⟩, .string ⟨#[114, 101, 109]⟩, .string ⟨#[110, 101, 103]⟩, .string ⟨#[97, 110, 100]⟩, .string ⟨#[111, 114]⟩, .string ⟨#[120, 111, 114]⟩, .string ⟨#[105, 110, 118]⟩, .string ⟨#[115, 104, 108]⟩, .string ⟨#[115, 104, 114]⟩, .string ⟨#[101, 113]⟩, .string ⟨#[110, 101]⟩, .string ⟨#[108, 116]⟩, .string ⟨#[108, 101]⟩, .string ⟨#[103, 116]⟩, .string ⟨#[103, 101]⟩, .string ⟨#[98, 111, 116, 104]⟩, .string ⟨#[101, 105, 116, 104, 101, 114]⟩, .string ⟨#[110, 111, 116]⟩, .string ⟨#[108, 101, 110]⟩, .string ⟨#[106, 111, 105, 110]⟩, .string ⟨#[99, 117, 116]⟩, .string ⟨#[97, 116]⟩, .string ⟨#[115, 97, 109, 101]⟩, .string ⟨#[108, 101, 115, 115]⟩, .string ⟨#[112, 97, 99, 107]⟩, .string ⟨#[117, 110, 112, 97, 99, 107]⟩, .string ⟨#[111, 110, 101]⟩, .string ⟨#[108, 111, 97, 100]⟩, .string ⟨#[104, 97, 115]⟩, .string ⟨#[115, 97, 118, 101]⟩, .string ⟨#[119, 105, 112, 101]⟩, .string ⟨#[110, 101, 120, 116]⟩, .string ⟨#[101, 109, 105, 116]⟩, .string ⟨#[97, 98, 111, 114, 116]⟩, .string ⟨#[105, 102]⟩, .string ⟨#[101, 108, 115, 101]⟩, .string ⟨#[101, 110, 100]⟩, .string ⟨#[108, 111, 111, 112]⟩, .string ⟨#[108, 101, 97, 118, 101]⟩, .string ⟨#[99, 97, 108, 108]⟩] 9)).cell? ⟨w.heap.size, k, none⟩ = some (.string ⟨(nameTab.getD k []).toArray⟩) := by
  rw [cell_of_row _ _ k _ _ (0, 0) (heap_alloc_new w _)]
  have e : (#[.string ⟨#[]⟩, .string ⟨#[105, 110, 116]⟩, .string ⟨#[99, 111, 110, 115, 116]⟩, .string ⟨#[116, 114, 117, 101]⟩, .string ⟨#[102, 97, 108, 115, 101]⟩, .string ⟨#[100, 114, 111, 112]⟩, .string ⟨#[100, 117, 112]⟩, .string ⟨#[115, 119, 97, 112]⟩, .string ⟨#[111, 118, 101, 114]⟩, .string ⟨#[103, 101, 116]⟩, .string ⟨#[115, 101, 116]⟩, .string ⟨#[97, 100, 100]⟩, .string ⟨#[115, 117, 98]⟩, .string ⟨#[109, 117, 108]⟩, .string ⟨#[100, 105, 118]⟩, .string ⟨#[114, 101, 109]⟩, .string ⟨#[110, 101, 103]⟩, .string ⟨#[97, 110, 100]⟩, .string ⟨#[111, 114]⟩, .string ⟨#[120, 111, 114]⟩, .string ⟨#[105, 110, 118]⟩, .string ⟨#[115, 104, 108]⟩, .string ⟨#[115, 104, 114]⟩, .string ⟨#[101, 113]⟩, .string ⟨#[110, 101]⟩, .string ⟨#[108, 116]⟩, .string ⟨#[108, 101]⟩, .string ⟨#[103, 116]⟩, .string ⟨#[103, 101]⟩, .string ⟨#[98, 111, 116, 104]⟩, .string ⟨#[101, 105, 116, 104, 101, 114]⟩, .string ⟨#[110, 111, 116]⟩, .string ⟨#[108, 101, 110]⟩, .string ⟨#[106, 111, 105, 110]⟩, .string ⟨#[99, 117, 116]⟩, .string ⟨#[97, 116]⟩, .string ⟨#[115, 97, 109, 101]⟩, .string ⟨#[108, 101, 115, 115]⟩, .string ⟨#[112, 97, 99, 107]⟩, .string ⟨#[117, 110, 112, 97, 99, 107]⟩, .string ⟨#[111, 110, 101]⟩, .string ⟨#[108, 111, 97, 100]⟩, .string ⟨#[104, 97, 115]⟩, .string ⟨#[115, 97, 118, 101]⟩, .string ⟨#[119, 105, 112, 101]⟩, .string ⟨#[110, 101, 120, 116]⟩, .string ⟨#[101, 109, 105, 116]⟩, .string ⟨#[97, 98, 111, 114, 116]⟩, .string ⟨#[105, 102]⟩, .string ⟨#[101, 108, 115, 101]⟩, .string ⟨#[101, 110, 100]⟩, .string ⟨#[108, 111, 111, 112]⟩, .string ⟨#[108, 101, 97, 118, 101]⟩, .string ⟨#[99, 97, 108, 108]⟩] : Array Value) = (nameTab.map fun x => .string ⟨x.toArray⟩).toArray := rfl
  rw [e]
  have hl : k < nameTab.length := hk
  simp [List.getD, hl]
set_option maxHeartbeats 1000000 in
theorem rname4 (n : Int) (w : World) : Calls Try.prog 79 #[.int .i64 n] w fun e w' => e = .returned (.string ⟨(nameT n).toArray⟩) ∧ Below w.heap.size w w' := by
  by_cases h1 : n < 1
  · rw [show nameT n = [] from rowOf_none _ _ n (.inl h1)]
    go_enter Try.func79, Try.ntmps79
    go_wp2
    go_ret
    exact ⟨rfl, (Below.refl _ w).alloc (Nat.le_refl _) _⟩
  by_cases h2 : 53 < n
  · rw [show nameT n = [] from rowOf_none _ _ n (.inr h2)]
    go_enter Try.func79, Try.ntmps79
    go_wp2
    go_ret
    exact ⟨rfl, (Below.refl _ w).alloc (Nat.le_refl _) _⟩
  obtain ⟨k, rfl⟩ : ∃ k : Nat, n = k := ⟨n.toNat, by omega⟩
  have hk : k < 54 := by omega
  have hc := cell_name4 w k hk
  rw [show nameT k = nameTab.getD k [] from by unfold nameT rowOf; rw [if_pos (by omega)]; simp]
  generalize nameTab.getD k [] = r at *
  go_enter Try.func79, Try.ntmps79
  go_wp2
  go_ret
  exact ⟨rfl, (Below.refl _ w).alloc (Nat.le_refl _) _⟩
set_option maxHeartbeats 1000000 in
theorem rtakes_of4 (n t : Int) (r : List UInt8) (w : World) (hN : Calls Try.prog 79 #[.int .i64 n] w fun e w' => e = .returned (.string ⟨r.toArray⟩) ∧ Below w.heap.size w w') (hr : (r = [105, 110, 116] ∧ t = 1) ∨ (r = [99, 111, 110, 115, 116] ∧ t = 2) ∨ (r = [103, 101, 116] ∧ t = 3) ∨ (r = [115, 101, 116] ∧ t = 3) ∨ (r = [108, 111, 111, 112] ∧ t = 4) ∨ (r = [99, 97, 108, 108] ∧ t = 5) ∨ (t = 0 ∧ r ≠ [105, 110, 116] ∧ r ≠ [99, 111, 110, 115, 116] ∧ r ≠ [103, 101, 116] ∧ r ≠ [115, 101, 116] ∧ r ≠ [108, 111, 111, 112] ∧ r ≠ [99, 97, 108, 108])) : Calls Try.prog 72 #[.int .i64 n] w fun e w' => e = .returned (.int .i64 t) ∧ Below w.heap.size w w' := by
  rcases hr with ⟨rfl, rfl⟩ | ⟨rfl, rfl⟩ | ⟨rfl, rfl⟩ | ⟨rfl, rfl⟩ | ⟨rfl, rfl⟩ | ⟨rfl, rfl⟩ | ⟨rfl, h1, h2, h3, h4, h5, h6⟩
  iterate 6
    · as_aux_lemma =>
      go_enter Try.func72, Try.ntmps72
      go_wp2_with (go_at_call 79; refine hN.mono ?_; rintro e w2 ⟨rfl, hb2⟩)
      go_ret
      exact ⟨rfl, hb2⟩
  · rw [← beq_eq_false_iff_ne] at h1 h2 h3 h4 h5 h6
    go_enter Try.func72, Try.ntmps72
    go_wp2_with (go_at_call 79; refine hN.mono ?_; rintro e w2 ⟨rfl, hb2⟩)
    go_ret
    exact ⟨rfl, hb2⟩
theorem rtakes4 (n : Int) (w : World) : Calls Try.prog 72 #[.int .i64 n] w fun e w' => e = .returned (.int .i64 (takesT n)) ∧ Below w.heap.size w w' := by
  refine rtakes_of4 n _ _ w (rname4 n w) ?_
  by_cases h : n < 1 ∨ 53 < n
  · rw [show takesT n = 0 from rowOf_none _ _ n h, show nameT n = [] from rowOf_none _ _ n h]
    simp
  · obtain ⟨k, rfl⟩ : ∃ k : Nat, n = k := ⟨n.toNat, by omega⟩
    have hk : k < 54 := by omega
    have ht : takesT k = takesTab.getD k 0 := by unfold takesT rowOf; rw [if_pos (by omega)]; simp
    have hm : nameT k = nameTab.getD k [] := by unfold nameT rowOf; rw [if_pos (by omega)]; simp
    rw [ht, hm]
    have H : ∀ k : Fin 54, k.1 = 0 ∨ ((nameTab.getD k.1 [] = [105, 110, 116] ∧ takesTab.getD k.1 0 = 1) ∨ (nameTab.getD k.1 [] = [99, 111, 110, 115, 116] ∧ takesTab.getD k.1 0 = 2) ∨ (nameTab.getD k.1 [] = [103, 101, 116] ∧ takesTab.getD k.1 0 = 3) ∨ (nameTab.getD k.1 [] = [115, 101, 116] ∧ takesTab.getD k.1 0 = 3) ∨ (nameTab.getD k.1 [] = [108, 111, 111, 112] ∧ takesTab.getD k.1 0 = 4) ∨ (nameTab.getD k.1 [] = [99, 97, 108, 108] ∧ takesTab.getD k.1 0 = 5) ∨ (takesTab.getD k.1 0 = 0 ∧ nameTab.getD k.1 [] ≠ [105, 110, 116] ∧ nameTab.getD k.1 [] ≠ [99, 111, 110, 115, 116] ∧ nameTab.getD k.1 [] ≠ [103, 101, 116] ∧ nameTab.getD k.1 [] ≠ [115, 101, 116] ∧ nameTab.getD k.1 [] ≠ [108, 111, 111, 112] ∧ nameTab.getD k.1 [] ≠ [99, 97, 108, 108])) := by decide +kernel
    rcases H ⟨k, hk⟩ with h0 | h0
    · simp only at h0; omega
    · exact h0
theorem takes_same (n : Int) : takesT n = takesN n := by
  unfold takesT rowOf
  by_cases h : 1 ≤ n ∧ n ≤ 53
  · rw [if_pos h]
    have H : ∀ k : Fin 54, takesTab.getD k.1 0 = takesN (k.1 : Int) := by decide +kernel
    have := H ⟨n.toNat, by omega⟩
    simp only at this
    rw [this, show ((n.toNat : Nat) : Int) = n by omega]
  · rw [if_neg h]
    unfold takesN
    rw [if_neg (by omega), if_neg (by omega), if_neg (by omega), if_neg (by omega), if_neg (by omega), if_neg (by omega)]
end Go.Proofs.Ytikomfbpaimnmaa
