/- Layer 18, plain: the middle of numbers that are one or nothing. -/
import Derived.Test.YtaonchdpnllhpaaV8j
namespace Go.Proofs.Ytaonchdpnllhpaa
open Go.RowKit
theorem sortedB18 (s : List Bool) : s.Pairwise (fun x y => (!x || y) = true) → ∀ i, s.getD i false = decide (s.count false ≤ i ∧ i < s.length) := by
  induction s with
  | nil => intro _ i; simp
  | cons x s ih =>
    intro h i
    rw [List.pairwise_cons] at h
    obtain ⟨h1, h2⟩ := h
    have ih := ih h2
    cases x with
    | true =>
      have h0 : s.count false = 0 := List.count_eq_zero.2 fun hm => by simpa using h1 _ hm
      cases i with
      | zero => simp [h0]
      | succ i =>
        have := ih i
        rw [h0] at this
        simp only [List.getD_cons_succ, this]
        simp [h0]
    | false =>
      cases i with
      | zero => simp
      | succ i =>
        have := ih i
        simp only [List.getD_cons_succ, this]
        simp
/-- Numbers that are a, or nothing. -/
def bits18 (a : Nat) (m : List Bool) : List Nat := m.map fun b => if b then a else 0
theorem bits18_len (a : Nat) (m : List Bool) : (bits18 a m).length = m.length := by simp [bits18]
theorem bits18_set (a : Nat) (m : List Bool) (i : Nat) (b : Bool) : (bits18 a m).set i (if b then a else 0) = bits18 a (m.set i b) := by simp [bits18, List.map_set]
theorem bits18_zero (a n : Nat) : bits18 a (List.replicate n false) = List.replicate n 0 := by simp [bits18]
theorem mid_bits18 (n a : Nat) (m : List Bool) (hn : m.length = n) (h1 : 1 ≤ n) (ha : 0 < a) : midN n (bits18 a m) = if m.count false ≤ n / 2 then a else 0 := by
  have e1 : midV n ((bits18 a m).map fun k : Nat => (k : Int)) = ((if m.count false ≤ n / 2 then a else 0 : Nat) : Int) := by
    unfold midV bits18
    rw [List.map_map]
    have hm := List.map_mergeSort (l := m) (r := fun x y => !x || y) (s := fun x y : Int => decide (x ≤ y)) (f := (fun k : Nat => (k : Int)) ∘ fun b => if b = true then a else 0) (fun x _ y _ => by
      cases x <;> cases y <;> simp <;> omega)
    rw [← hm]
    have hp := List.mergeSort_perm m (fun x y => !x || y)
    have hs := List.pairwise_mergeSort (le := fun x y : Bool => !x || y) (by decide) (by decide) m
    have hg := sortedB18 _ hs (n / 2)
    rw [hp.count_eq, hp.length_eq, hn] at hg
    have hl : n / 2 < (m.mergeSort fun x y => !x || y).length := by rw [hp.length_eq, hn]; omega
    rw [List.getD_eq_getElem?_getD, List.getElem?_map, List.getElem?_eq_getElem hl]
    rw [List.getD_eq_getElem?_getD, List.getElem?_eq_getElem hl] at hg
    simp only [Option.getD_some] at hg
    simp only [Option.map_some, Option.getD_some, Function.comp, hg]
    by_cases hc : m.count false ≤ n / 2
    · have : n / 2 < n := by omega
      simp [hc, this]
    · simp [hc]
  unfold midN
  rw [e1]
  rfl
/-- More than half of an odd number. -/
theorem half_bits18 (n : Nat) (m : List Bool) (hn : m.length = n) (ho : n % 2 = 1) : (m.count false ≤ n / 2) ↔ n < 2 * m.count true := by
  have : m.count false + m.count true = n := by
    rw [← hn]
    clear hn ho
    induction m with
    | nil => rfl
    | cons x m ih => cases x <;> simp <;> omega
  omega
end Go.Proofs.Ytaonchdpnllhpaa
