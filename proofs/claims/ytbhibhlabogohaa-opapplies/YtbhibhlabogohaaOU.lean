/- The document's In, Out, Takes and Find; op.Find. -/
import Derived.Test.YtbhibhlabogohaaOS
import Derived.Test.YtbhibhlabogohaaON
namespace Go.Proofs.Ytbhibhlabogohaa
open Go.RowKit
attribute [local go_sem high] eq_val eq_val0
theorem in_digits : ∀ k : Fin 54, (inS.getD k.1 []).length ≤ 10 ∧ (inS.getD k.1 []).map (fun x => ((x.toNat : Int) - 48) % 256) = inTab.getD k.1 [] := by decide +kernel
theorem out_digits : ∀ k : Fin 54, (outS.getD k.1 []).length ≤ 10 ∧ (outS.getD k.1 []).map (fun x => ((x.toNat : Int) - 48) % 256) = outTab.getD k.1 [] := by decide +kernel
set_option maxHeartbeats 1000000 in
theorem rin_no (n : Int) (w : World) (h : n < 1 ∨ 53 < n) : Calls Try.prog 19 #[.int .i64 n] w fun e w' => e = .returned (.slice none 0 0) ∧ Below w.heap.size w w' := by
  rcases h with h | h
  all_goals
    go_enter Try.func19, Try.ntmps19
    go_wp2
    go_ret
    exact ⟨rfl, (Below.refl _ w).alloc (Nat.le_refl _) _⟩
set_option maxHeartbeats 1000000 in
theorem rin_any (n : Int) (w : World) : Calls Try.prog 19 #[.int .i64 n] w fun e w' => ∃ a c, e = .returned (.slice a (inT n).length c) ∧ IntsAt w' a (inT n) ∧ Below w.heap.size w w' := by
  by_cases h : n < 1 ∨ 53 < n
  · refine (rin_no n w h).mono ?_
    rintro e w' ⟨rfl, hb⟩
    rw [show inT n = [] from rowOf_none _ _ n h]
    exact ⟨none, 0, rfl, .inl rfl, hb⟩
  obtain ⟨k, rfl⟩ : ∃ k : Nat, n = k := ⟨n.toNat, by omega⟩
  have hk : k < 54 := by omega
  have hc := cell_in w k hk
  obtain ⟨d1, d2⟩ := in_digits ⟨k, hk⟩
  simp only at d1 d2
  rw [show inT k = inTab.getD k [] from by unfold inT rowOf; rw [if_pos (by omega)]; simp]
  have hL := fun W => list_any (inS.getD k []) W d1
  have hlen : (inS.getD k []).length = (inTab.getD k []).length := by rw [← d2, List.length_map]
  rw [d2, hlen] at hL
  generalize inTab.getD k [] = T at *
  generalize inS.getD k [] = r at *
  clear d1 d2 hlen
  go_enter Try.func19, Try.ntmps19
  go_wp2_with (go_at_call 39; refine (hL _).mono ?_; rintro e w2 ⟨a2, c2, rfl, hi2, hb2⟩)
  go_ret
  exact ⟨_, _, rfl, hi2, ((Below.refl _ w).alloc (Nat.le_refl _) _).trans (hb2.mono (by simp))⟩
set_option maxHeartbeats 1000000 in
theorem rout_no (n : Int) (w : World) (h : n < 1 ∨ 53 < n) : Calls Try.prog 21 #[.int .i64 n] w fun e w' => e = .returned (.slice none 0 0) ∧ Below w.heap.size w w' := by
  rcases h with h | h
  all_goals
    go_enter Try.func21, Try.ntmps21
    go_wp2
    go_ret
    exact ⟨rfl, (Below.refl _ w).alloc (Nat.le_refl _) _⟩
set_option maxHeartbeats 1000000 in
theorem rout_any (n : Int) (w : World) : Calls Try.prog 21 #[.int .i64 n] w fun e w' => ∃ a c, e = .returned (.slice a (outT n).length c) ∧ IntsAt w' a (outT n) ∧ Below w.heap.size w w' := by
  by_cases h : n < 1 ∨ 53 < n
  · refine (rout_no n w h).mono ?_
    rintro e w' ⟨rfl, hb⟩
    rw [show outT n = [] from rowOf_none _ _ n h]
    exact ⟨none, 0, rfl, .inl rfl, hb⟩
  obtain ⟨k, rfl⟩ : ∃ k : Nat, n = k := ⟨n.toNat, by omega⟩
  have hk : k < 54 := by omega
  have hc := cell_out w k hk
  obtain ⟨d1, d2⟩ := out_digits ⟨k, hk⟩
  simp only at d1 d2
  rw [show outT k = outTab.getD k [] from by unfold outT rowOf; rw [if_pos (by omega)]; simp]
  have hL := fun W => list_any (outS.getD k []) W d1
  have hlen : (outS.getD k []).length = (outTab.getD k []).length := by rw [← d2, List.length_map]
  rw [d2, hlen] at hL
  generalize outTab.getD k [] = T at *
  generalize outS.getD k [] = r at *
  clear d1 d2 hlen
  go_enter Try.func21, Try.ntmps21
  go_wp2_with (go_at_call 39; refine (hL _).mono ?_; rintro e w2 ⟨a2, c2, rfl, hi2, hb2⟩)
  go_ret
  exact ⟨_, _, rfl, hi2, ((Below.refl _ w).alloc (Nat.le_refl _) _).trans (hb2.mono (by simp))⟩
/-- What Find answers, from the operation k on. -/
def findFrom (s : List UInt8) (k : Nat) : Int × Bool := if k ≤ 53 then (if nameT k = s then (k, true) else findFrom s (k + 1)) else (0, false)
termination_by 54 - k
theorem find_yes {s : List UInt8} {k : Nat} (h : k ≤ 53) (e : nameT k = s) : findFrom s k = ((k : Int), true) := by rw [findFrom, if_pos h, if_pos e]
theorem find_on {s : List UInt8} {k : Nat} (h : k ≤ 53) (e : nameT k ≠ s) : findFrom s k = findFrom s (k + 1) := by rw [findFrom, if_pos h, if_neg e]
theorem find_no {s : List UInt8} {k : Nat} (h : ¬ k ≤ 53) : findFrom s k = (0, false) := by rw [findFrom, if_neg h]
set_option maxHeartbeats 1000000 in
theorem find_any (s : List UInt8) (w : World) : Calls Try.prog 9 #[.string ⟨s.toArray⟩] w fun e w' => e = .returned (.tuple #[.int .i64 (findFrom s 1).1, .bool (findFrom s 1).2]) ∧ Below w.heap.size w w' := by
  go_enter Try.func9, Try.ntmps9
  go_wp2
  go_loopw [4] (fun i wr => ∃ k : Nat, 1 ≤ k ∧ k ≤ 54 ∧ i = .int .i64 k ∧ findFrom s 1 = findFrom s k ∧ Below w.heap.size w wr) (fun i _ => 54 - (intOf i).toNat)
  case atStart => exact ⟨1, by omega, by omega, rfl, rfl, Below.refl _ _⟩
  case round =>
    obtain ⟨k, hk0, hk, rfl, hf, hb⟩ := hrel
    by_cases hlt : k ≤ 53
    · have hN := name_any (k : Int)
      by_cases e : nameT k = s
      · have HF : Hid (findFrom s 1 = ((k : Int), true)) := hidV (hf.trans (find_yes hlt e))
        rw [e] at hN
        clear hf e
        go_wp2_with (go_at_call 11; refine (hN _).mono ?_; rintro e w2 ⟨rfl, hb2⟩; subst hb2; have hb2 := hb)
        go_ret2
        exact ⟨by rw [HF.out]; rfl, hb2⟩
      · have HF : Hid (findFrom s 1 = findFrom s (k + 1)) := hidV (hf.trans (find_on hlt e))
        have e' : (nameT k == s) = false := by simp [e]
        clear hf
        generalize nameT k = r at *
        go_wp2_with (go_at_call 11; refine (hN _).mono ?_; rintro e w2 ⟨rfl, hb2⟩; subst hb2; have hb2 := hb)
        refine ⟨⟨k + 1, by omega, by omega, by go_num, HF.out, hb2⟩, by simp [intOf]; omega⟩
    · have HF : Hid (findFrom s 1 = (0, false)) := hidV (hf.trans (find_no hlt))
      clear hf
      go_wp2
      go_ret2
      exact ⟨by rw [HF.out]; rfl, hb⟩
set_option maxHeartbeats 1000000 in
theorem rfind_any (s : List UInt8) (w : World) : Calls Try.prog 10 #[.string ⟨s.toArray⟩] w fun e w' => e = .returned (.tuple #[.int .i64 (findFrom s 1).1, .bool (findFrom s 1).2]) ∧ Below w.heap.size w w' := by
  go_enter Try.func10, Try.ntmps10
  go_wp2
  go_loopw [4] (fun i wr => ∃ k : Nat, 1 ≤ k ∧ k ≤ 54 ∧ i = .int .i64 k ∧ findFrom s 1 = findFrom s k ∧ Below w.heap.size w wr) (fun i _ => 54 - (intOf i).toNat)
  case atStart => exact ⟨1, by omega, by omega, rfl, rfl, Below.refl _ _⟩
  case round =>
    obtain ⟨k, hk0, hk, rfl, hf, hb⟩ := hrel
    by_cases hlt : k ≤ 53
    · have hN := rname_any (k : Int)
      by_cases e : nameT k = s
      · have HF : Hid (findFrom s 1 = ((k : Int), true)) := hidV (hf.trans (find_yes hlt e))
        rw [e] at hN
        clear hf e
        go_wp2_with (go_at_call 12; refine (hN _).mono ?_; rintro e w2 ⟨rfl, hb2⟩; replace hb2 := hb.trans (hb2.mono hb.size))
        go_ret2
        exact ⟨by rw [HF.out]; rfl, hb2⟩
      · have HF : Hid (findFrom s 1 = findFrom s (k + 1)) := hidV (hf.trans (find_on hlt e))
        have e' : (nameT k == s) = false := by simp [e]
        clear hf
        generalize nameT k = r at *
        go_wp2_with (go_at_call 12; refine (hN _).mono ?_; rintro e w2 ⟨rfl, hb2⟩; replace hb2 := hb.trans (hb2.mono hb.size))
        refine ⟨⟨k + 1, by omega, by omega, by go_num, HF.out, hb2⟩, by simp [intOf]; omega⟩
    · have HF : Hid (findFrom s 1 = (0, false)) := hidV (hf.trans (find_no hlt))
      clear hf
      go_wp2
      go_ret2
      exact ⟨by rw [HF.out]; rfl, hb⟩
theorem names_apart : ∀ k : Fin 54, k.1 = 1 ∨ k.1 = 2 ∨ k.1 = 9 ∨ k.1 = 10 ∨ k.1 = 51 ∨ k.1 = 53 ∨ (nameTab.getD k.1 [] ≠ [105, 110, 116] ∧ nameTab.getD k.1 [] ≠ [99, 111, 110, 115, 116] ∧ nameTab.getD k.1 [] ≠ [103, 101, 116] ∧ nameTab.getD k.1 [] ≠ [115, 101, 116] ∧ nameTab.getD k.1 [] ≠ [108, 111, 111, 112] ∧ nameTab.getD k.1 [] ≠ [99, 97, 108, 108]) := by decide +kernel
set_option maxHeartbeats 1000000 in
theorem rtakes_of (n t : Int) (r : List UInt8) (w : World) (hN : Calls Try.prog 12 #[.int .i64 n] w fun e w' => e = .returned (.string ⟨r.toArray⟩) ∧ Below w.heap.size w w') (hr : (r = [105, 110, 116] ∧ t = 1) ∨ (r = [99, 111, 110, 115, 116] ∧ t = 2) ∨ (r = [103, 101, 116] ∧ t = 3) ∨ (r = [115, 101, 116] ∧ t = 3) ∨ (r = [108, 111, 111, 112] ∧ t = 4) ∨ (r = [99, 97, 108, 108] ∧ t = 5) ∨ (t = 0 ∧ r ≠ [105, 110, 116] ∧ r ≠ [99, 111, 110, 115, 116] ∧ r ≠ [103, 101, 116] ∧ r ≠ [115, 101, 116] ∧ r ≠ [108, 111, 111, 112] ∧ r ≠ [99, 97, 108, 108])) : Calls Try.prog 14 #[.int .i64 n] w fun e w' => e = .returned (.int .i64 t) ∧ Below w.heap.size w w' := by
  rcases hr with ⟨rfl, rfl⟩ | ⟨rfl, rfl⟩ | ⟨rfl, rfl⟩ | ⟨rfl, rfl⟩ | ⟨rfl, rfl⟩ | ⟨rfl, rfl⟩ | ⟨rfl, h1, h2, h3, h4, h5, h6⟩
  iterate 6
    · as_aux_lemma =>
      go_enter Try.func14, Try.ntmps14
      go_wp2_with (go_at_call 12; refine hN.mono ?_; rintro e w2 ⟨rfl, hb2⟩)
      go_ret
      exact ⟨rfl, hb2⟩
  · rw [← beq_eq_false_iff_ne] at h1 h2 h3 h4 h5 h6
    go_enter Try.func14, Try.ntmps14
    go_wp2_with (go_at_call 12; refine hN.mono ?_; rintro e w2 ⟨rfl, hb2⟩)
    go_ret
    exact ⟨rfl, hb2⟩
theorem rtakes_any (n : Int) (w : World) : Calls Try.prog 14 #[.int .i64 n] w fun e w' => e = .returned (.int .i64 (takesT n)) ∧ Below w.heap.size w w' := by
  refine rtakes_of n _ _ w (rname_any n w) ?_
  by_cases h : n < 1 ∨ 53 < n
  · rw [show takesT n = 0 from rowOf_none _ _ n h, show nameT n = [] from rowOf_none _ _ n h]
    simp
  · obtain ⟨k, rfl⟩ : ∃ k : Nat, n = k := ⟨n.toNat, by omega⟩
    have hk : k < 54 := by omega
    have ht : takesT k = takesTab.getD k 0 := by unfold takesT rowOf; rw [if_pos (by omega)]; simp
    have hm : nameT k = nameTab.getD k [] := by unfold nameT rowOf; rw [if_pos (by omega)]; simp
    rw [ht, hm]
    have H : ∀ k : Fin 54, k.1 = 0 ∨ ((nameTab.getD k.1 [] = [105, 110, 116] ∧ takesTab.getD k.1 0 = 1) ∨ (nameTab.getD k.1 [] = [99, 111, 110, 115, 116] ∧ takesTab.getD k.1 0 = 2) ∨ (nameTab.getD k.1 [] = [103, 101, 116] ∧ takesTab.getD k.1 0 = 3) ∨ (nameTab.getD k.1 [] = [115, 101, 116] ∧ takesTab.getD k.1 0 = 3) ∨ (nameTab.getD k.1 [] = [108, 111, 111, 112] ∧ takesTab.getD k.1 0 = 4) ∨ (nameTab.getD k.1 [] = [99, 97, 108, 108] ∧ takesTab.getD k.1 0 = 5) ∨ (takesTab.getD k.1 0 = 0 ∧ nameTab.getD k.1 [] ≠ [105, 110, 116] ∧ nameTab.getD k.1 [] ≠ [99, 111, 110, 115, 116] ∧ nameTab.getD k.1 [] ≠ [103, 101, 116] ∧ nameTab.getD k.1 [] ≠ [115, 101, 116] ∧ nameTab.getD k.1 [] ≠ [108, 111, 111, 112] ∧ nameTab.getD k.1 [] ≠ [99, 97, 108, 108])) := by decide +kernel
    rcases H ⟨k, hk⟩ with h0 | h0
    · simp only at h0; omega
    · exact h0
end Go.Proofs.Ytbhibhlabogohaa
