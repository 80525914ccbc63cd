/- The walk of OpApplies. -/
import Derived.Test.YtkmfopdklohgnaaPH
import Derived.Test.YtkmfopdklohgnaaOKn
import Derived.Test.YtkmfopdklohgnaaVO
namespace Go.Proofs.Ytkmfopdklohgnaa
open Go.RowKit
attribute [local go_sem high] eq_val eq_val0
theorem apply_short (n : Int) (L : List Val) : (applyV n L).1.length ≤ 1 := by
  unfold applyV
  split
  · split <;> simp
  · simp
set_option maxHeartbeats 4000000 in
set_option maxRecDepth 100000 in
theorem applies_walk (n : Int) (a : Option Addr) (k c : Nat) (L : List Val) (hk : L.length = k) (w : World) (hV : Vs w a L) (hF : Fair L) (hR : ∀ x ∈ L, -9223372036854775808 ≤ x.n ∧ x.n ≤ 9223372036854775807) (hl : k * 32 ≤ 140737488351232) :
    Calls Try.prog 3 #[.int .i64 n, .slice a k c] w fun e w' => e = .returned (.bool true) ∧ Below w.heap.size w w' := by
  have hO := own_any a k c L hk w hV (by omega)
  have hA := fun W p d hv => apply_any n p k d L hk W hv hF (by omega)
  have hB := fun W hv => rapply_any n a k c L hk W hv hF hR (by omega)
  have hsh := apply_short n L
  have hS1 := fun W p q d e hp hq => same_any p q (applyV n L).1.length d e (applyV n L).1 rfl W hp hq (by omega)
  have hS2 := fun W p d hp hq => same_any p a k d c L hk W hp hq (by omega)
  generalize applyV n L = R at *
  obtain ⟨R, er⟩ := R
  simp only at hA hB hS1
  go_enter Try.func3, Try.ntmps3
  go_wp2_with (first | (go_at_call 4; refine hO.mono ?_; rintro e w1 ⟨a1, c1, rfl, hV1, hb1⟩) | (go_at_call 5; refine (hA _ _ _ hV1).mono ?_; rintro e w2 ⟨v2, rfl, hs2, hk2⟩; obtain ⟨a2, rfl, hV2⟩ := hs2) | (go_at_call 6; have hb2 := hb1.trans (hk2.mono hb1.size); refine (hB _ (hV.keep hb2)).mono ?_; rintro e w3 ⟨v3, rfl, hs3, hk3⟩; obtain ⟨a3, rfl, hV3⟩ := hs3; have hb3 := hb2.trans (hk3.mono hb2.size)))
  refine (hS1 _ _ _ _ _ (hV2.keep hk3) hV3).mono ?_
  rintro e w4 ⟨rfl, hk4⟩
  have hb4 := hb3.trans (hk4.mono hb3.size)
  have hk14 := (hk2.trans (hk3.mono hk2.size)).trans (hk4.mono (Nat.le_trans hk2.size hk3.size))
  go_wp2_with (go_at_call 8; refine (num3_any _ _).mono ?_; rintro e w' ⟨rfl, hw'⟩; replace hw' := hw'.symm; subst hw')
  refine (hS2 _ _ _ (hV1.keep hk14) (hV.keep hb4)).mono ?_
  rintro e w5 ⟨rfl, hk5⟩
  have hb5 := hb4.trans (hk5.mono hb4.size)
  go_wp2_with (go_at_call 9; refine (knows3_any _).mono ?_; rintro e w6 ⟨rfl, hb6⟩; replace hb6 := hb5.trans (hb6.mono hb5.size))
  go_ret
  exact ⟨rfl, hb6⟩
end Go.Proofs.Ytkmfopdklohgnaa
