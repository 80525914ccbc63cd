/- op.Apply. -/
import Derived.Test.YtkmfopdklohgnaaOI
namespace Go.Proofs.Ytkmfopdklohgnaa
open Go.RowKit
attribute [local go_sem high] eq_val eq_val0

theorem long_of (n : Int) (L : List Val) (hp : plainB n = true) (hf : fitsB L (inT n) = true) : Long n L.length := by
  have hl := (fits_short hf).1
  rcases plain_cases n hp with rfl | rfl | rfl | rfl | rfl | rfl | rfl | rfl | rfl | rfl | rfl | rfl | rfl | rfl | rfl | rfl | rfl | rfl | rfl | rfl | rfl | rfl | rfl | rfl | rfl | rfl | rfl | rfl | rfl | rfl | rfl | rfl
  all_goals (rw [hl]; simp [Long]; try rfl)
theorem ops_of (n : Int) (L : List Val) (hp : plainB n = true) (hf : fitsB L (inT n) = true) (h0 : faultV n L = 0) :
    (outT n = [1] ∧ NumOp n L.length L) ∨ (outT n = [2] ∧ TextOp n L.length L) ∨ (outT n = [3] ∧ TruthOp n L.length) := by
  have hl := (fits_short hf).1
  rcases plain_cases n hp with rfl | rfl | rfl | rfl | rfl | rfl | rfl | rfl | rfl | rfl | rfl | rfl | rfl | rfl | rfl | rfl | rfl | rfl | rfl | rfl | rfl | rfl | rfl | rfl | rfl | rfl | rfl | rfl | rfl | rfl | rfl | rfl
  all_goals rw [hl]
  all_goals first
    | exact .inr (.inr ⟨rfl, .inl ⟨by decide, rfl⟩⟩)
    | exact .inr (.inr ⟨rfl, .inr (.inl ⟨by simp [HoldOp], rfl⟩)⟩)
    | exact .inr (.inr ⟨rfl, .inr (.inr ⟨rfl, rfl⟩)⟩)
    | exact .inl ⟨rfl, .inl ⟨by first | (simp [CalcOp]; done) | (simp [CalcOp]; intro e; simp [faultV, e] at h0), rfl⟩⟩
    | exact .inl ⟨rfl, .inr (.inl ⟨by decide, rfl⟩)⟩
    | exact .inl ⟨rfl, .inr (.inr ⟨rfl, rfl, by
        by_cases h : 0 ≤ (A1 L).n ∧ (A1 L).n < (A0 L).b.length
        · exact h
        · simp [faultV] at h0; omega⟩)⟩
    | exact .inr (.inl ⟨rfl, .inl ⟨rfl, rfl⟩⟩)
    | exact .inr (.inl ⟨rfl, .inr (.inl ⟨rfl, rfl, by
        by_cases h : (0 ≤ (A1 L).n ∧ (A1 L).n ≤ (A2 L).n) ∧ (A2 L).n ≤ (A0 L).b.length
        · exact h
        · simp [faultV] at h0; omega⟩)⟩)
    | exact .inr (.inl ⟨rfl, .inr (.inr (.inl ⟨rfl, rfl⟩))⟩)
    | exact .inr (.inl ⟨rfl, .inr (.inr (.inr ⟨rfl, rfl⟩))⟩)
theorem short0 {L : List Val} (h : ∀ x ∈ L, x.b.length ≤ 256) : (A0 L).b.length ≤ 256 ∧ (A1 L).b.length ≤ 256 := by
  have g : ∀ k : Nat, (L.getD k z0).b.length ≤ 256 := fun k => by
    by_cases hk : k < L.length
    · have : L.getD k z0 = L[k] := by simp [List.getD, hk]
      rw [this]; exact h _ (List.getElem_mem _)
    · have : L.getD k z0 = z0 := by simp [List.getD, show L.length ≤ k by omega]
      rw [this]; simp [z0]
  exact ⟨g 0, g 1⟩
theorem answer_any (n : Int) (a : Option Addr) (c : Nat) (L : List Val) (w : World) (hV : Vs w a L) (hp : plainB n = true) (hf : fitsB L (inT n) = true) (h0 : faultV n L = 0) :
    Calls Try.prog 14 #[.int .i64 n, .slice a L.length c] w fun e w' => e = .returned (ansV n L).v ∧ Below w.heap.size w w' := by
  have hs := short0 (fits_short hf).2
  rcases ops_of n L hp hf h0 with ⟨ho, hx⟩ | ⟨ho, hx⟩ | ⟨ho, hx⟩
  · exact answer_int n a _ c L w hp ho fun W hb => number_any n a _ c L rfl W (hV.keep hb) hx hs.1
  · exact answer_text n a _ c L w hp ho fun W hb => text_any n a _ c L rfl W (hV.keep hb) hx hs.1 hs.2
  · exact answer_truth n a _ c L w hp ho fun W hb => truth_op n a _ c L rfl W (hV.keep hb) hx
def applyV (n : Int) (L : List Val) : List Val × Int := if plainB n = true ∧ fitsB L (inT n) = true then (if faultV n L = 0 then ([ansV n L], 0) else ([], faultV n L)) else ([], 1)
/-- A new list of values. -/
def SlV (w : World) (v : Value) (R : List Val) : Prop := ∃ a, v = .slice a R.length R.length ∧ Vs w a R
theorem in_plain (n : Int) (hp : plainB n = true) (w : World) : Calls Try.prog 12 #[.int .i64 n] w fun e w' => ∃ a, e = .returned (.slice a (inT n).length (inT n).length) ∧ IntsAt w' a (inT n) ∧ Below w.heap.size w w' := by
  refine (in_pl n (plain_cases n hp) w).mono ?_
  rintro e w' ⟨rfl, rfl⟩
  unfold sliceOf worldOf
  by_cases h : inT n = []
  · rw [if_pos h, if_pos h, h]
    exact ⟨none, rfl, .inl rfl, Below.refl _ _⟩
  · rw [if_neg h, if_neg h]
    refine ⟨_, rfl, .inr ⟨w.heap.size, 0, rfl, fun j hj => ?_⟩, (Below.refl _ w).alloc (Nat.le_refl _) _⟩
    rw [cell_of_row _ _ (0 + j) _ _ (0, 0) (heap_alloc_new w _)]
    simp [hj]
theorem vs_one (w : World) (x : Val) : Vs (w.alloc x.box) (some ⟨w.heap.size, 0, none⟩) [x] := by
  obtain ⟨h0, h1, h2⟩ := val_new w x
  refine .inr ⟨_, _, rfl, fun j hj => ?_⟩
  obtain rfl : j = 0 := by simp at hj; omega
  exact ⟨h0, h1, h2⟩
set_option maxHeartbeats 2000000 in
theorem apply_any (n : Int) (a : Option Addr) (k c : Nat) (L : List Val) (hk : L.length = k) (w : World) (hV : Vs w a L) (hF : Fair L) (hl : k ≤ 140737488351232) :
    Calls Try.prog 5 #[.int .i64 n, .slice a k c] w fun e w' => ∃ v, e = .returned (.tuple #[v, .int .i64 (applyV n L).2]) ∧ SlV w' v (applyV n L).1 ∧ Below w.heap.size w w' := by
  subst hk
  unfold applyV
  have hP := plain_any n
  cases hp : plainB n with
  | false =>
    rw [hp] at hP
    rw [if_neg (by simp)]
    go_enter Try.func5, Try.ntmps5
    go_wp2_with (go_at_call 10; refine (hP _).mono ?_; rintro e w2 ⟨rfl, rfl⟩)
    go_ret2
    exact ⟨_, rfl, ⟨none, rfl, .inl rfl⟩, Below.refl _ _⟩
  | true =>
    rw [hp] at hP
    have hI := in_plain n hp w
    cases hf : fitsB L (inT n) with
    | false =>
      have hFi := fun W b (hb : Below w.heap.size w W) (hi : IntsAt W b (inT n)) => fits_any a L.length c L rfl b (inT n).length (inT n).length (inT n) rfl W (hV.keep hb) hi hF hl
      rw [hf] at hFi
      rw [if_neg (by simp)]
      generalize inT n = ts at *
      clear hf
      go_enter Try.func5, Try.ntmps5
      go_wp2_with (first | (go_at_call 10; refine (hP _).mono ?_; rintro e w2 ⟨rfl, hw2⟩; replace hw2 := hw2.symm; subst hw2) | (go_at_call 12; refine hI.mono ?_; rintro e w3 ⟨bt, rfl, hi3, hb3⟩) | (go_at_call 11; refine (hFi _ _ hb3 hi3).mono ?_; rintro e w4 ⟨rfl, hb4⟩))
      go_ret2
      exact ⟨_, rfl, ⟨none, rfl, .inl rfl⟩, hb3.trans (hb4.mono hb3.size)⟩
    | true =>
      have hFi := fun W b (hb : Below w.heap.size w W) (hi : IntsAt W b (inT n)) => fits_any a L.length c L rfl b (inT n).length (inT n).length (inT n) rfl W (hV.keep hb) hi hF hl
      rw [hf] at hFi
      rw [if_pos (by simp)]
      have hQ := fun W (hb : Below w.heap.size w W) => fault_any n a L.length c L rfl W (hV.keep hb) (long_of n L hp hf) (fits_short hf).2
      by_cases h0 : faultV n L = 0
      · rw [if_pos h0]
        rw [h0] at hQ
        have hA := fun W (hb : Below w.heap.size w W) => answer_any n a c L W (hV.keep hb) hp hf h0
        generalize ansV n L = r at *
        generalize inT n = ts at *
        clear hf h0 hp
        obtain ⟨rt, rn, rb⟩ := r
        simp only [Val.v] at hA
        go_enter Try.func5, Try.ntmps5
        go_wp2_with (first | (go_at_call 10; refine (hP _).mono ?_; rintro e w2 ⟨rfl, hw2⟩; replace hw2 := hw2.symm; subst hw2) | (go_at_call 12; refine hI.mono ?_; rintro e w3 ⟨bt, rfl, hi3, hb3⟩) | (go_at_call 11; refine (hFi _ _ hb3 hi3).mono ?_; rintro e w4 ⟨rfl, hb4⟩; replace hb4 := hb3.trans (hb4.mono hb3.size)) | (go_at_call 13; refine (hQ _ hb4).mono ?_; rintro e w5 ⟨rfl, hb5⟩; replace hb5 := hb4.trans (hb5.mono hb4.size)) | (go_at_call 14; refine (hA _ hb5).mono ?_; rintro e w6 ⟨rfl, hb6⟩; replace hb6 := hb5.trans (hb6.mono hb5.size)))
        go_ret2
        exact ⟨_, rfl, ⟨_, rfl, vs_one w6 ⟨rt, rn, rb⟩⟩, hb6.alloc hb6.size _⟩
      · rw [if_neg h0]
        have h0' : (faultV n L == 0) = false := by simp [h0]
        have h0'' : (faultV n L != 0) = true := by simp [h0]
        generalize faultV n L = r at *
        generalize inT n = ts at *
        clear hf hp
        go_enter Try.func5, Try.ntmps5
        go_wp2_with (first | (go_at_call 10; refine (hP _).mono ?_; rintro e w2 ⟨rfl, hw2⟩; replace hw2 := hw2.symm; subst hw2) | (go_at_call 12; refine hI.mono ?_; rintro e w3 ⟨bt, rfl, hi3, hb3⟩) | (go_at_call 11; refine (hFi _ _ hb3 hi3).mono ?_; rintro e w4 ⟨rfl, hb4⟩; replace hb4 := hb3.trans (hb4.mono hb3.size)) | (go_at_call 13; refine (hQ _ hb4).mono ?_; rintro e w5 ⟨rfl, hb5⟩; replace hb5 := hb4.trans (hb5.mono hb4.size)))
        go_ret2
        exact ⟨_, rfl, ⟨none, rfl, .inl rfl⟩, hb5⟩
end Go.Proofs.Ytkmfopdklohgnaa
