/- The walk of OpTyped. -/
import Derived.Test.YtbhibhlabogohaaOKn
import Derived.Test.YtbhibhlabogohaaVO
namespace Go.Proofs.Ytbhibhlabogohaa
open Go.RowKit
attribute [local go_sem high] eq_val eq_val0
theorem out_plain (n : Int) (hp : plainB n = true) (w : World) : Calls Try.prog 20 #[.int .i64 n] w fun e w' => ∃ a, e = .returned (.slice a (outT n).length (outT n).length) ∧ IntsAt w' a (outT n) ∧ Below w.heap.size w w' := by
  refine (out_pl n (plain_cases n hp) w).mono ?_
  rintro e w' ⟨rfl, rfl⟩
  unfold sliceOf worldOf
  by_cases h : outT n = []
  · rw [if_pos h, if_pos h, h]
    exact ⟨none, rfl, .inl rfl, Below.refl _ _⟩
  · rw [if_neg h, if_neg h]
    refine ⟨_, rfl, .inr ⟨w.heap.size, 0, rfl, fun j hj => ?_⟩, (Below.refl _ w).alloc (Nat.le_refl _) _⟩
    rw [cell_of_row _ _ (0 + j) _ _ (0, 0) (heap_alloc_new w _)]
    simp [hj]
theorem ans_fits {n : Int} {L : List Val} (hp : plainB n = true) (hf : fitsB L (inT n) = true) (h0 : faultV n L = 0) : fitsB [ansV n L] (outT n) = true := by
  have hs := short0 (fits_short hf).2
  unfold ansV
  rcases ops_of n L hp hf h0 with ⟨ho, hx⟩ | ⟨ho, hx⟩ | ⟨ho, hx⟩
  · rw [ho, if_pos rfl]
    simp [fitsB, Val.right]
  · rw [ho, if_neg (by decide), if_pos rfl]
    have : (textV n L).length ≤ 256 := by
      rcases hx with ⟨rfl, _⟩ | ⟨rfl, _⟩ | ⟨rfl, _⟩ | ⟨rfl, _⟩
      · have hq : ¬ (A0 L).b.length + (A1 L).b.length > 256 := by
          intro e
          have : faultV 33 L = 41 := by show (if (A0 L).b.length + (A1 L).b.length > 256 then (41 : Int) else 0) = 41; rw [if_pos e]
          rw [this] at h0
          cases h0
        show ((A0 L).b ++ (A1 L).b).length ≤ 256
        rw [List.length_append]
        omega
      · show (((A0 L).b.take (A2 L).n.toNat).drop (A1 L).n.toNat).length ≤ 256
        simp only [List.length_drop, List.length_take]
        omega
      · show (packV (A0 L).n).length ≤ 256
        simp [packV]
      · show [UInt8.ofNat ((A0 L).n % 256).toNat].length ≤ 256
        simp
    simp [fitsB, Val.right, this]
  · rw [ho, if_neg (by decide), if_neg (by decide)]
    cases truthV n L <;> simp [fitsB, Val.right, Val.truth]
theorem apply_cases (n : Int) (L : List Val) : (∃ er, er ≠ 0 ∧ applyV n L = ([], er)) ∨ (plainB n = true ∧ fitsB L (inT n) = true ∧ faultV n L = 0 ∧ applyV n L = ([ansV n L], 0)) := by
  unfold applyV
  by_cases h : plainB n = true ∧ fitsB L (inT n) = true
  · rw [if_pos h]
    by_cases h0 : faultV n L = 0
    · exact .inr ⟨h.1, h.2, h0, by rw [if_pos h0]⟩
    · exact .inl ⟨_, h0, by rw [if_neg h0]⟩
  · exact .inl ⟨1, by decide, by rw [if_neg h]⟩
set_option maxHeartbeats 4000000 in
set_option maxRecDepth 100000 in
theorem typed_walk (n : Int) (a : Option Addr) (k c : Nat) (L : List Val) (hk : L.length = k) (w : World) (hV : Vs w a L) (hF : Fair L) (hl : k * 32 ≤ 140737488351232) :
    Calls Try.prog 5 #[.int .i64 n, .slice a k c] w fun e w' => e = .returned (.bool true) ∧ Below w.heap.size w w' := by
  have hO := own_any a k c L hk w hV (by omega)
  rcases apply_cases n L with ⟨er, hne, hap⟩ | ⟨hp, hf, h0, hap⟩
  · have hA := fun W p d hv => apply_any n p k d L hk W hv hF (by omega)
    rw [hap] at hA
    have hne' : (er != 0) = true := by simp [hne]
    clear hap
    go_enter Try.func5, Try.ntmps5
    go_wp2_with (first | (go_at_call 25; refine hO.mono ?_; rintro e w1 ⟨a1, c1, rfl, hV1, hb1⟩) | (go_at_call 26; refine (hA _ _ _ hV1).mono ?_; rintro e w2 ⟨v2, rfl, hs2, hb2⟩; obtain ⟨a2, rfl⟩ := slv_none hs2; replace hb2 := hb1.trans (hb2.mono hb1.size)) | (go_at_call 29; refine (num3_any _ _).mono ?_; rintro e w' ⟨rfl, hw'⟩; replace hw' := hw'.symm; subst hw') | (go_at_call 24; refine (knows3_any _).mono ?_; rintro e w5 ⟨rfl, hb5⟩; replace hb5 := hb2.trans (hb5.mono hb2.size)))
    go_ret
    exact ⟨rfl, hb5⟩
  · have hA := fun W p d hv => apply_any n p k d L hk W hv hF (by omega)
    rw [hap] at hA
    have hfit := ans_fits hp hf h0
    have hP := plain_any n
    rw [hp] at hP
    have hOut := out_plain n hp
    have hIn := in_plain n hp
    have hF1 := fun W p b hv hi => fits_any p 1 1 [ansV n L] rfl b (outT n).length (outT n).length (outT n) rfl W hv hi (fair_of (L := [ansV n L]) (fun x hx => Nat.le_trans ((fits_short hfit).2 x hx) (by omega))) (by decide)
    rw [hfit] at hF1
    have hF2 := fun W b hv hi => fits_any a k c L hk b (inT n).length (inT n).length (inT n) rfl W hv hi hF (by omega)
    rw [hf] at hF2
    clear hap hfit h0 hp hf
    generalize ansV n L = r at *
    generalize outT n = ot at *
    generalize inT n = it at *
    go_enter Try.func5, Try.ntmps5
    go_wp2_with (first | (go_at_call 25; refine hO.mono ?_; rintro e w1 ⟨a1, c1, rfl, hV1, hb1⟩) | (go_at_call 26; refine (hA _ _ _ hV1).mono ?_; rintro e w2 ⟨v2, rfl, hs2, hb2⟩; obtain ⟨a2, rfl, hV2⟩ := hs2; replace hb2 := hb1.trans (hb2.mono hb1.size)) | (go_at_call 29; refine (num3_any _ _).mono ?_; rintro e w' ⟨rfl, hw'⟩; replace hw' := hw'.symm; subst hw') | (go_at_call 22; refine (hP _).mono ?_; rintro e w' ⟨rfl, hw'⟩; replace hw' := hw'.symm; subst hw'))
    refine (hOut _).mono ?_
    rintro e w3 ⟨a3, rfl, hi3, hk3⟩
    have hb3 := hb2.trans (hk3.mono hb2.size)
    go_wp2_with fail
    refine (hF1 _ _ _ (hV2.keep hk3) hi3).mono ?_
    rintro e w4 ⟨rfl, hk4⟩
    have hb4 := hb3.trans (hk4.mono hb3.size)
    clear hk3 hk4 hi3 hF1 hOut
    go_wp2_with fail
    refine (hIn _).mono ?_
    rintro e w5 ⟨a5, rfl, hi5, hk5⟩
    have hb5 := hb4.trans (hk5.mono hb4.size)
    go_wp2_with fail
    refine (hF2 _ _ (hV.keep hb5) hi5).mono ?_
    rintro e w6 ⟨rfl, hk6⟩
    have hb6 := hb5.trans (hk6.mono hb5.size)
    go_wp2_with (go_at_call 24; refine (knows3_any _).mono ?_; rintro e w7 ⟨rfl, hb7⟩; replace hb7 := hb6.trans (hb7.mono hb6.size))
    go_ret
    exact ⟨rfl, hb7⟩
end Go.Proofs.Ytbhibhlabogohaa
