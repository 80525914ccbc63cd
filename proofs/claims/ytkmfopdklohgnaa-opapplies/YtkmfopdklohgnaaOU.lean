/- The document's In, Out, Takes and Find; op.Find. -/
import Derived.Test.YtkmfopdklohgnaaOS
import Derived.Test.YtkmfopdklohgnaaON
namespace Go.Proofs.Ytkmfopdklohgnaa
open Go.RowKit
attribute [local go_sem high] eq_val eq_val0
theorem in_digits : ∀ k : Fin 54, (inS.getD k.1 []).length ≤ 10 ∧ (inS.getD k.1 []).map (fun x => ((x.toNat : Int) - 48) % 256) = inTab.getD k.1 [] := by decide +kernel
theorem out_digits : ∀ k : Fin 54, (outS.getD k.1 []).length ≤ 10 ∧ (outS.getD k.1 []).map (fun x => ((x.toNat : Int) - 48) % 256) = outTab.getD k.1 [] := by decide +kernel
set_option maxHeartbeats 1000000 in
theorem rin_no (n : Int) (w : World) (h : n < 1 ∨ 53 < n) : Calls Try.prog 17 #[.int .i64 n] w fun e w' => e = .returned (.slice none 0 0) ∧ Below w.heap.size w w' := by
  rcases h with h | h
  all_goals
    go_enter Try.func17, Try.ntmps17
    go_wp2
    go_ret
    exact ⟨rfl, (Below.refl _ w).alloc (Nat.le_refl _) _⟩
set_option maxHeartbeats 1000000 in
theorem rin_any (n : Int) (w : World) : Calls Try.prog 17 #[.int .i64 n] w fun e w' => ∃ a c, e = .returned (.slice a (inT n).length c) ∧ IntsAt w' a (inT n) ∧ Below w.heap.size w w' := by
  by_cases h : n < 1 ∨ 53 < n
  · refine (rin_no n w h).mono ?_
    rintro e w' ⟨rfl, hb⟩
    rw [show inT n = [] from rowOf_none _ _ n h]
    exact ⟨none, 0, rfl, .inl rfl, hb⟩
  obtain ⟨k, rfl⟩ : ∃ k : Nat, n = k := ⟨n.toNat, by omega⟩
  have hk : k < 54 := by omega
  have hc := cell_in w k hk
  obtain ⟨d1, d2⟩ := in_digits ⟨k, hk⟩
  simp only at d1 d2
  rw [show inT k = inTab.getD k [] from by unfold inT rowOf; rw [if_pos (by omega)]; simp]
  have hL := fun W => list_any (inS.getD k []) W d1
  have hlen : (inS.getD k []).length = (inTab.getD k []).length := by rw [← d2, List.length_map]
  rw [d2, hlen] at hL
  generalize inTab.getD k [] = T at *
  generalize inS.getD k [] = r at *
  clear d1 d2 hlen
  go_enter Try.func17, Try.ntmps17
  go_wp2_with (go_at_call 29; refine (hL _).mono ?_; rintro e w2 ⟨a2, c2, rfl, hi2, hb2⟩)
  go_ret
  exact ⟨_, _, rfl, hi2, ((Below.refl _ w).alloc (Nat.le_refl _) _).trans (hb2.mono (by simp))⟩
/-- What Find answers, from the operation k on. -/
def findFrom (s : List UInt8) (k : Nat) : Int × Bool := if k ≤ 53 then (if nameT k = s then (k, true) else findFrom s (k + 1)) else (0, false)
termination_by 54 - k
theorem find_yes {s : List UInt8} {k : Nat} (h : k ≤ 53) (e : nameT k = s) : findFrom s k = ((k : Int), true) := by rw [findFrom, if_pos h, if_pos e]
theorem find_on {s : List UInt8} {k : Nat} (h : k ≤ 53) (e : nameT k ≠ s) : findFrom s k = findFrom s (k + 1) := by rw [findFrom, if_pos h, if_neg e]
theorem find_no {s : List UInt8} {k : Nat} (h : ¬ k ≤ 53) : findFrom s k = (0, false) := by rw [findFrom, if_neg h]
theorem names_apart : ∀ k : Fin 54, k.1 = 1 ∨ k.1 = 2 ∨ k.1 = 9 ∨ k.1 = 10 ∨ k.1 = 51 ∨ k.1 = 53 ∨ (nameTab.getD k.1 [] ≠ [105, 110, 116] ∧ nameTab.getD k.1 [] ≠ [99, 111, 110, 115, 116] ∧ nameTab.getD k.1 [] ≠ [103, 101, 116] ∧ nameTab.getD k.1 [] ≠ [115, 101, 116] ∧ nameTab.getD k.1 [] ≠ [108, 111, 111, 112] ∧ nameTab.getD k.1 [] ≠ [99, 97, 108, 108]) := by decide +kernel
end Go.Proofs.Ytkmfopdklohgnaa
