/- The law TypesWays. -/
import Derived.Test.YtnidakplcaanfaaUW
import Derived.Test.YtnidakplcaanfaaUE
import Derived.Test.YtnidakplcaanfaaTV
import Derived.Test.YtnidakplcaanfaaCTg
namespace Go.Proofs.Ytnidakplcaanfaa
open Go.RowKit Go.Shelf
theorem way7w (k : Int) (n : Nat) (h1 : 1 ≤ n) (h2 : n ≤ 1048576) : ∃ j : Nat, (wrap64 (k.tmod (n : Int) + (n : Int))).tmod (n : Int) = j ∧ j < n := by
  have ha : (k.tmod (n : Int)).natAbs = k.natAbs % n := by rw [Int.natAbs_tmod]; simp
  have hb : k.natAbs % n < n := Nat.mod_lt _ (by omega)
  generalize k.tmod (n : Int) = x at *
  have e : wrap64 (x + n) = x + n := by unfold wrap64; omega
  rw [e, Int.tmod_eq_emod_of_nonneg (by omega)]
  have c1 := Int.emod_nonneg (x + n) (by omega : (n : Int) ≠ 0)
  have c2 := Int.emod_lt_of_pos (x + n) (by omega : 0 < (n : Int))
  exact ⟨((x + n) % n).toNat, by omega, by omega⟩
/-- What a good check comes to. -/
structure WP (fs : List Fn) (g : Fn) (ps : Nat → List Int) : Prop where
  good : goodS g.code = true
  zero : ps 0 = []
  last : ps g.code.length = g.r
  short : ∀ j, j ≤ g.code.length → (ps j).length ≤ 32
  step : ∀ i, i < g.code.length → (stepW fs (g.p ++ g.l) (g.code.getD i (0, 0)) (ps i)).1 = 0
  way : ∀ i, i < g.code.length → ∀ yes, (opA g.code i = 50 → yes = true → opA g.code (gI (matchS g.code) i).toNat = 51) → ∃ j : Nat, nextS g.code (matchS g.code) i yes = j ∧ j ≤ g.code.length ∧ ps j = qS fs (g.p ++ g.l) g.code ps i
theorem wp_of {fs : List Fn} {g : Fn} (h : (stacksS fs g).1 = 0) : ∃ ps, WP fs g ps ∧ (stacksS fs g).2 = (List.range (g.code.length + 1)).map ps := by
  unfold stacksS at h ⊢
  split at h
  · rename_i hg
    rw [if_pos hg]
    obtain ⟨ps, Ls, h0, h1, h2, h3, h4⟩ := chk_run g.code [] [] [] h
    refine ⟨ps, ⟨hg, h0, alike_eq h3, fun j hj => ?_, fun i hi => (h2.turn hi).1, fun i hi yes hr => ways_plain hg h2 h1 hi yes hr⟩, by simpa using h4⟩
    cases j with
    | zero => rw [h0]; simp
    | succ j => exact (h2.turn (by omega)).2.2.2
  · cases h
theorem stacks_err {fs : List Fn} {g : Fn} (h : (stacksS fs g).1 ≠ 0) : (stacksS fs g).2 = [] := by
  unfold stacksS at h ⊢
  split
  · rename_i hg
    rw [if_pos hg] at h
    exact chk_err h
  · rfl
/-- What lies below the loop. -/
structure WX (fs : List Fn) (g : Fn) (ps : Nat → List Int) (V0 : Value) (a1 : Option Addr) (c1 fl Sb Fb : Nat) (u0 u1 u2 u3 : Value) (rb : Nat) (ma : Option Addr) (w V : World) : Prop where
  k : CkX fs g V0 a1 c1 fl Sb Fb u0 u1 u2 u3 w V
  r : ∀ j, j ≤ g.code.length → ∃ aj cj, V.cell? ⟨rb, j, none⟩ = some (.slice aj (ps j).length cj) ∧ (ps j).length ≤ cj ∧ NsAt V.cell? aj (ps j)
  m : NsAt V.cell? ma (matchS g.code)
theorem WX.below {fs : List Fn} {g : Fn} {ps : Nat → List Int} {V0 : Value} {a1 : Option Addr} {c1 fl Sb Fb : Nat} {u0 u1 u2 u3 : Value} {rb : Nat} {ma : Option Addr} {w V V' : World} (h : WX fs g ps V0 a1 c1 fl Sb Fb u0 u1 u2 u3 rb ma w V) (hb : Below V.heap.size V V') : WX fs g ps V0 a1 c1 fl Sb Fb u0 u1 u2 u3 rb ma w V' :=
  ⟨h.k.below hb, fun j hj => by
    obtain ⟨aj, cj, h1, h2, h3⟩ := h.r j hj
    exact ⟨aj, cj, below_keep hb _ _ h1, h2, h3.keep (below_keep hb)⟩, h.m.keep (below_keep hb)⟩
end Go.Proofs.Ytnidakplcaanfaa
