/- The document's Apply. -/
import Derived.Test.YtkmfopdklohgnaaPG
namespace Go.Proofs.Ytkmfopdklohgnaa
open Go.RowKit
attribute [local go_sem high] eq_val eq_val0
set_option maxHeartbeats 2000000 in
theorem rapply_any (n : Int) (a : Option Addr) (k c : Nat) (L : List Val) (hk : L.length = k) (w : World) (hV : Vs w a L) (hF : Fair L) (hR : ∀ x ∈ L, -9223372036854775808 ≤ x.n ∧ x.n ≤ 9223372036854775807) (hl : k ≤ 140737488351232) :
    Calls Try.prog 6 #[.int .i64 n, .slice a k c] w fun e w' => ∃ v, e = .returned (.tuple #[v, .int .i64 (applyV n L).2]) ∧ SlV w' v (applyV n L).1 ∧ Below w.heap.size w w' := by
  subst hk
  unfold applyV
  have hP := rplain_any n
  cases hp : plainB n with
  | false =>
    rw [hp] at hP
    rw [if_neg (by simp)]
    go_enter Try.func6, Try.ntmps6
    go_wp2_with (go_at_call 15; refine (hP _).mono ?_; rintro e w2 ⟨rfl, rfl⟩)
    go_ret2
    exact ⟨_, rfl, ⟨none, rfl, .inl rfl⟩, Below.refl _ _⟩
  | true =>
    rw [hp] at hP
    have hI := rin_any n w
    cases hf : fitsB L (inT n) with
    | false =>
      have hFi := fun W b d (hb : Below w.heap.size w W) (hi : IntsAt W b (inT n)) => rfits_any a L.length c L rfl b (inT n).length d (inT n) rfl W (hV.keep hb) hi hF hl
      rw [hf] at hFi
      rw [if_neg (by simp)]
      generalize inT n = ts at *
      clear hf
      go_enter Try.func6, Try.ntmps6
      go_wp2_with (first | (go_at_call 15; refine (hP _).mono ?_; rintro e w2 ⟨rfl, hw2⟩; replace hw2 := hw2.symm; subst hw2) | (go_at_call 17; refine hI.mono ?_; rintro e w3 ⟨bt, dt, rfl, hi3, hb3⟩) | (go_at_call 16; refine (hFi _ _ _ hb3 hi3).mono ?_; rintro e w4 ⟨rfl, hb4⟩))
      go_ret2
      exact ⟨_, rfl, ⟨none, rfl, .inl rfl⟩, hb3.trans (hb4.mono hb3.size)⟩
    | true =>
      have hFi := fun W b d (hb : Below w.heap.size w W) (hi : IntsAt W b (inT n)) => rfits_any a L.length c L rfl b (inT n).length d (inT n) rfl W (hV.keep hb) hi hF hl
      rw [hf] at hFi
      rw [if_pos (by simp)]
      have hA : ∀ W, Below w.heap.size w W → Calls Try.prog 18 #[.int .i64 n, .slice a L.length c] W fun e w' => ∃ v : Val, (e = .returned (.tuple #[v.v, .int .i64 (faultV n L)]) ∧ Below W.heap.size W w') ∧ (faultV n L = 0 → v = ansV n L) := fun W (hb : Below w.heap.size w W) => ranswer_any n hp a c L W (hV.keep hb) hf hR
      by_cases h0 : faultV n L = 0
      · rw [if_pos h0]
        simp only [h0] at hA
        generalize ansV n L = r at *
        generalize inT n = ts at *
        clear hf h0 hp
        obtain ⟨rt, rn, rb⟩ := r
        go_enter Try.func6, Try.ntmps6
        go_wp2_with (first | (go_at_call 15; refine (hP _).mono ?_; rintro e w2 ⟨rfl, hw2⟩; replace hw2 := hw2.symm; subst hw2) | (go_at_call 17; refine hI.mono ?_; rintro e w3 ⟨bt, dt, rfl, hi3, hb3⟩) | (go_at_call 16; refine (hFi _ _ _ hb3 hi3).mono ?_; rintro e w4 ⟨rfl, hb4⟩; replace hb4 := hb3.trans (hb4.mono hb3.size)) | (go_at_call 18; refine (hA _ hb4).mono ?_; rintro e w6 ⟨v6, ⟨rfl, hb6⟩, hv6⟩; replace hv6 := hv6 trivial; subst hv6; simp only [Val.v]; replace hb6 := hb4.trans (hb6.mono hb4.size)))
        go_ret2
        refine ⟨_, rfl, ⟨_, rfl, ?_⟩, (hb6.alloc hb6.size _).alloc (by have := hb6.size; simp; omega) _⟩
        have hv := vs_one (w6.alloc (Val.box ⟨rt, rn, rb⟩)) ⟨rt, rn, rb⟩
        rw [show (w6.alloc (Val.box ⟨rt, rn, rb⟩)).heap.size = w6.heap.size + 1 by simp] at hv
        exact hv
      · rw [if_neg h0]
        have h0' : (faultV n L == 0) = false := by simp [h0]
        have h0'' : (faultV n L != 0) = true := by simp [h0]
        generalize faultV n L = r at *
        generalize inT n = ts at *
        clear hf hp
        go_enter Try.func6, Try.ntmps6
        go_wp2_with (first | (go_at_call 15; refine (hP _).mono ?_; rintro e w2 ⟨rfl, hw2⟩; replace hw2 := hw2.symm; subst hw2) | (go_at_call 17; refine hI.mono ?_; rintro e w3 ⟨bt, dt, rfl, hi3, hb3⟩) | (go_at_call 16; refine (hFi _ _ _ hb3 hi3).mono ?_; rintro e w4 ⟨rfl, hb4⟩; replace hb4 := hb3.trans (hb4.mono hb3.size)) | (go_at_call 18; refine (hA _ hb4).mono ?_; rintro e w6 ⟨v6, ⟨rfl, hb6⟩, hv6⟩; obtain ⟨vt, vn, vb⟩ := v6; simp only [Val.v]; replace hb6 := hb4.trans (hb6.mono hb4.size)))
        go_ret2
        exact ⟨_, rfl, ⟨none, rfl, .inl rfl⟩, hb6.alloc hb6.size _⟩
end Go.Proofs.Ytkmfopdklohgnaa
