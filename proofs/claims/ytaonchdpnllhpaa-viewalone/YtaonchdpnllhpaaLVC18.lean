/- Layer 18: the law ViewCommits. -/
import Derived.Test.YtaonchdpnllhpaaV8x
namespace Go.Proofs.Ytaonchdpnllhpaa
open Go.RowKit
theorem w64_in18 {x : Int} (h1 : -9223372036854775808 ≤ x) (h2 : x ≤ 9223372036854775807) : wrap64 x = x := by
  unfold wrap64
  omega
theorem many18 (n : Int) : ∃ N : Nat, Odd4 N ∧ wrap64 (1 + wrap64 (2 * (wrap64 (n.tmod 4 + 4)).tmod 4)) = N := by
  have a1 : -4 < n.tmod 4 := by have := Int.lt_tmod_of_pos n (b := 4) (by decide); omega
  have a2 : n.tmod 4 < 4 := Int.tmod_lt_of_pos n (by decide)
  have a3 := Int.tmod_nonneg (a := n.tmod 4 + 4) 4 (by omega)
  have a4 := Int.tmod_lt_of_pos (n.tmod 4 + 4) (show (0 : Int) < 4 by omega)
  rw [w64_in18 (x := n.tmod 4 + 4) (by omega) (by omega), w64_in18 (x := 2 * (n.tmod 4 + 4).tmod 4) (by omega) (by omega), w64_in18 (by omega) (by omega)]
  refine ⟨(1 + 2 * (n.tmod 4 + 4).tmod 4).toNat, ?_, by omega⟩
  unfold Odd4
  omega
theorem asked18 (n : Int) : ∃ N : Nat, 1 ≤ N ∧ N ≤ 5 ∧ wrap64 (1 + (wrap64 (n.tmod 5 + 5)).tmod 5) = N := by
  have a1 : -5 < n.tmod 5 := by have := Int.lt_tmod_of_pos n (b := 5) (by decide); omega
  have a2 : n.tmod 5 < 5 := Int.tmod_lt_of_pos n (by decide)
  have a3 := Int.tmod_nonneg (a := n.tmod 5 + 5) 5 (by omega)
  have a4 := Int.tmod_lt_of_pos (n.tmod 5 + 5) (show (0 : Int) < 5 by omega)
  rw [w64_in18 (x := n.tmod 5 + 5) (by omega) (by omega), w64_in18 (by omega) (by omega)]
  exact ⟨(1 + (n.tmod 5 + 5).tmod 5).toNat, by omega, by omega, by omega⟩
theorem lvc_req18 {R : RC} {N i lc : Nat} {la : Option Addr} {E : List Ent} {w0 W : World} (hN : Odd4 N) (hi : i < 2048) (h : RB R (ptL N (cm1 N i)) (List.replicate N 0) la i lc E w0 W) : Calls Try.prog 8 #[.pointer (some ⟨R.rb, 0, none⟩), .string ⟨#[120]⟩] W fun e W' => ∃ a q ac d p dc, e = .returned (.tuple #[.int .i64 ((i + 1 : Nat) : Int), .agg #[.slice a q ac, .slice d p dc], .int .i64 0]) ∧ Hid (∃ la lc E, RB R (ptL N (cm1 N (i + 1))) (List.replicate N 0) la (i + 1) lc E w0 W') := by
  refine (h.request 0 [120] (by show 1 ≤ N; rcases hN with h | h | h | h <;> omega) (by show N ≤ 7; rcases hN with h | h | h | h <;> omega) (by show 0 < N; rcases hN with h | h | h | h <;> omega) rfl (by decide) (by simp [Pt.leads, ptL]) (by decide) hi).mono ?_
  rintro e W' ⟨la', lc', a, ac, d, dc, rfl, h2⟩
  rw [req_step18 N i hN] at h2
  exact ⟨a, _, ac, d, _, dc, rfl, hid ⟨la', lc', _, h2⟩⟩
theorem lvc_step18 {R : RC} {N A i lc : Nat} {la : Option Addr} {M : List Bool} {E : List Ent} {w0 W : World} (hN : Odd4 N) (hA : 1 ≤ A) (hA2 : A ≤ 5) (hM : M.length = N) (hi : i < N) (h0 : 0 < i) (hm : M.getD i true = false) (h : RB R (ptL N (cm2 N A M)) (bits18 A M) la A lc E w0 W) : Calls Try.prog 9 #[.pointer (some ⟨R.rb, 0, none⟩), .agg #[.int .i64 2, .int .i64 i, .int .i64 0, .int .i64 0, .int .i64 A, .int .i64 0, .int .i64 0, .slice none 0 0]] W fun e W' => ∃ a q ac, e = .returned (.tuple #[.agg #[.slice a q ac, .slice none 0 0], .int .i64 0]) ∧ Hid (∃ la lc E, RB R (ptL N (cm2 N A (M.set i true))) (bits18 A (M.set i true)) la A lc E w0 W') := by
  refine (h.step 0 (by show 1 ≤ N; omega) (by show N ≤ 7; rcases hN with h | h | h | h <;> omega) (by show 0 < N; omega) rfl (by decide) (by simp [Pt.leads, ptL]) i A hi (by show i ≠ 0; omega) (by omega)).mono ?_
  rintro e W' ⟨a, q, ac, rfl, h2⟩
  rw [ok_step18 N A i M hN hA hM hi h0 hm, ok_list18] at h2
  exact ⟨a, q, ac, rfl, hid ⟨la, lc, E, h2⟩⟩
theorem lvc_state18 {R : RC} {N A lc : Nat} {cm : Int} {la : Option Addr} {mt : List Nat} {E : List Ent} {w0 W : World} (hA2 : A ≤ 5) (h : RB R (ptL N cm) mt la A lc E w0 W) : Calls Try.prog 10 #[.pointer (some ⟨R.rb, 0, none⟩)] W fun e w' => ∃ sa sc, e = .returned (.agg #[.int .i64 0, .int .i64 0, .int .i64 cm, .slice sa A sc]) ∧ Below w0.heap.size w0 w' := by
  refine (state_any18 W h.a (by omega)).mono ?_
  rintro e w' ⟨sa, sc, rfl, -, hb⟩
  exact ⟨sa, sc, rfl, h.b.trans (hb.mono h.b.size)⟩
set_option maxRecDepth 100000 in
set_option maxHeartbeats 2000000 in
theorem commits18_any (n asks : Int) (ta : Option Addr) (tn tc : Nat) (L : List Bool) (w : World) (hl : L.length = tn) (hL : BoolsAt w ta L) : Calls Try.prog 3 #[.int .i64 n, .int .i64 asks, .slice ta tn tc] w fun e w' => e = .returned (.bool true) ∧ Below w.heap.size w w' := by
  obtain ⟨N, hN, hn⟩ := many18 n
  obtain ⟨A, hA1, hA2, hA⟩ := asked18 asks
  have HN := hid (new_rb18 N 0 w hN (by rcases hN with h | h | h | h <;> omega))
  have HU : Hid (∀ W, Calls Try.prog 6 #[.int .i64 0] W fun e w' => e = .returned (.int .i64 0) ∧ w' = W) := hid fun W => num18_any 0 W
  have HK : Hid (∀ W, Calls Try.prog 7 #[] W fun e w' => e = .returned (.bool true) ∧ Below W.heap.size W w') := hid fun W => knows18_any W
  go_enter Try.func3, Try.ntmps3
  go_wp2_with fail
  rw [hn, hA]
  clear hn hA
  go_wp2_with (first
    | (go_at_call 5; refine HN.out.mono ?_; clear HN; rintro e W1 ⟨R, la, lc, rfl, h1⟩)
    | (go_at_call 6; refine (HU.out _).mono ?_; rintro e V ⟨rfl, hV⟩; replace hV := hV.symm; subst hV)
    | (go_at_call 7; refine (HK.out _).mono ?_; rintro e W2 ⟨rfl, b2⟩; have h2 := hid (h1.below b2); clear h1 b2)
    | fail)
  have H0 : Hid (∃ la lc E, RB R (ptL N (cm1 N 0)) (List.replicate N 0) la 0 lc E w W2) := hid ⟨la, lc, [], by
    rw [show cm1 N 0 = 0 by unfold cm1; split <;> rfl]
    exact h2.out⟩
  clear h2 HK
  go_loopw [9] (fun iv wr => ∃ i : Nat, iv = .int .i64 i ∧ i ≤ A ∧ Hid (∃ la lc E, RB R (ptL N (cm1 N i)) (List.replicate N 0) la i lc E w wr)) (fun iv _ => A - (intOf iv).toNat)
  case atStart => exact ⟨0, rfl, by omega, H0⟩
  case round =>
    clear H0
    obtain ⟨i, rfl, hi, HX⟩ := hrel
    by_cases hgo : i < A
    · have HR : Hid (Calls Try.prog 8 #[.pointer (some ⟨R.rb, 0, none⟩), .string ⟨#[120]⟩] wr fun e W' => ∃ a q ac d p dc, e = .returned (.tuple #[.int .i64 ((i + 1 : Nat) : Int), .agg #[.slice a q ac, .slice d p dc], .int .i64 0]) ∧ Hid (∃ la lc E, RB R (ptL N (cm1 N (i + 1))) (List.replicate N 0) la (i + 1) lc E w W')) := by
        obtain ⟨la, lc, E, h⟩ := HX.out
        exact hid (lvc_req18 hN (by omega) h)
      clear HX
      go_wp2_with (first
        | (go_at_call 8; refine HR.out.mono ?_; clear HR; rintro e w3 ⟨a, q, ac, d, p, dc, rfl, h3⟩)
        | (go_at_call 6; refine (HU.out _).mono ?_; rintro e V ⟨rfl, hV⟩; replace hV := hV.symm; subst hV)
        | fail)
      refine ⟨⟨i + 1, by simp, by omega, hid ?_⟩, by simp [intOf]; omega⟩
      obtain ⟨la, lc, E, h4⟩ := h3.out
      exact ⟨la, lc, E, h4.below ((Below.refl _ w3).alloc (Nat.le_refl _) _)⟩
    · have H1 : Hid (∃ la lc E, RB R (ptL N (cm2 N A (List.replicate N false))) (bits18 A (List.replicate N false)) la A lc E w wr) := by
        obtain ⟨la, lc, E, h⟩ := HX.out
        rw [show i = A by omega, cm_first18 N A hN, ← bits18_zero A N] at h
        exact hid ⟨la, lc, E, h⟩
      clear HX
      have hc0 := cnt_first18 N hN
      go_wp2
      go_loopw [13, 14] (fun cv iv wr => ∃ (k : Nat) (M : List Bool), iv = .int .i64 ((k + 1 : Nat) : Int) ∧ cv = .int .i64 (cnt18 M : Nat) ∧ k + 1 ≤ N ∧ M.length = N ∧ (∀ j, k < j → j < N → M.getD j true = false) ∧ Hid (∃ la lc E, RB R (ptL N (cm2 N A M)) (bits18 A M) la A lc E w wr)) (fun _ iv _ => N - (intOf iv).toNat)
      case atStart =>
        refine ⟨0, List.replicate N false, rfl, by rw [hc0]; rfl, by rcases hN with h | h | h | h <;> omega, by simp, fun j _ hj => ?_, H1⟩
        rw [List.getD_eq_getElem?_getD, List.getElem?_replicate, if_pos hj]
        rfl
      case round =>
        clear H1 hc0
        obtain ⟨k, M, rfl, rfl, hk, hM, hMf, HX⟩ := hrel
        have hN7 : N ≤ 7 := by rcases hN with h | h | h | h <;> omega
        have hcl : cnt18 M ≤ 7 := by
          have h1 := List.count_le_length (a := true) (l := M.set 0 true)
          rw [List.length_set] at h1
          unfold cnt18
          omega
        have HW : Hid (wrap64 ((cnt18 M : Nat) + 1 : Int) = ((cnt18 M + 1 : Nat) : Int)) := hid (by rw [w64_in18 (by omega) (by omega)]; omega)
        have HW2 : Hid (wrap64 (2 * (cnt18 M : Int)) = 2 * (cnt18 M : Int)) := hid (w64_in18 (by omega) (by omega))
        clear hcl
        by_cases hkN : k + 1 < N
        · have d0 : decide ((k : Int) + 1 < (N : Int)) = true := by simp; omega
          by_cases h1 : k < tn
          · have d1 : decide ((k : Int) + 1 ≤ (tn : Int)) = true := by simp; omega
            obtain ⟨b, off, rfl, q, lb⟩ := hL k (by omega)
            have hbl : Below w.heap.size w wr := by
              obtain ⟨la, lc, E, h⟩ := HX.out
              exact h.b
            have q1 := below_keep18 hbl _ _ q
            have lb1 : b < wr.heap.size := Nat.lt_of_lt_of_le lb hbl.size
            have hlt : (k : Int) < (tn : Int) := by omega
            have hw : wrap64 (k : Int) = k := w64_in18 (by omega) (by omega)
            clear q lb hbl
            cases hx : L[k]'(by omega) with
            | true =>
              rw [hx] at q1
              have HSt : Hid (Calls Try.prog 9 #[.pointer (some ⟨R.rb, 0, none⟩), .agg #[.int .i64 2, .int .i64 ((k + 1 : Nat) : Int), .int .i64 0, .int .i64 0, .int .i64 A, .int .i64 0, .int .i64 0, .slice none 0 0]] wr fun e W' => ∃ a q ac, e = .returned (.tuple #[.agg #[.slice a q ac, .slice none 0 0], .int .i64 0]) ∧ Hid (∃ la lc E, RB R (ptL N (cm2 N A (M.set (k + 1) true))) (bits18 A (M.set (k + 1) true)) la A lc E w W')) := by
                obtain ⟨la, lc, E, h⟩ := HX.out
                exact hid (lvc_step18 hN hA1 hA2 hM hkN (by omega) (hMf (k + 1) (by omega) hkN) h)
              have hcn := cnt_set18 M (k + 1) (by omega) (by omega) (hMf (k + 1) (by omega) hkN)
              clear HX
              go_wp2_with (first
                | (go_at_call 9; refine HSt.out.mono ?_; clear HSt; rintro e w3 ⟨a, q, ac, rfl, h3⟩)
                | (go_at_call 6; refine (HU.out _).mono ?_; rintro e V ⟨rfl, hV⟩; replace hV := hV.symm; subst hV)
                | fail)
              refine ⟨⟨k + 1, M.set (k + 1) true, by simp, by rw [HW.out, hcn], hkN, by simpa using hM, fun j h1 h2 => ?_, hid ?_⟩, by simp only [intOf]; omega⟩
              · rw [List.getD_eq_getElem?_getD, List.getElem?_set_ne (by omega), ← List.getD_eq_getElem?_getD]
                exact hMf j (by omega) h2
              · obtain ⟨la, lc, E, h4⟩ := h3.out
                exact ⟨la, lc, E, h4.below ((Below.refl _ w3).alloc (Nat.le_refl _) _)⟩
            | false =>
              rw [hx] at q1
              go_wp2_with fail
              exact ⟨⟨k + 1, M, by simp, rfl, hkN, hM, fun j h1 h2 => hMf j (by omega) h2, HX⟩, by simp only [intOf]; omega⟩
          · have d1 : decide ((k : Int) + 1 ≤ (tn : Int)) = false := by simp; omega
            go_wp2_with fail
            exact ⟨⟨k + 1, M, by simp, rfl, hkN, hM, fun j h1 h2 => hMf j (by omega) h2, HX⟩, by simp only [intOf]; omega⟩
        · have d0 : decide ((k : Int) + 1 < (N : Int)) = false := by simp; omega
          have HSt : Hid (Calls Try.prog 10 #[.pointer (some ⟨R.rb, 0, none⟩)] wr fun e w' => ∃ sa sc, e = .returned (.agg #[.int .i64 0, .int .i64 0, .int .i64 (cm2 N A M), .slice sa A sc]) ∧ Below w.heap.size w w') := by
            obtain ⟨la, lc, E, h⟩ := HX.out
            exact hid (lvc_state18 hA2 h)
          have hf := field_cm18
          have hw4 := HW2.out
          clear HX
          by_cases hc : N < 2 * cnt18 M
          · have d1 : decide ((N : Int) < 2 * (cnt18 M : Nat)) = true := by simp; omega
            have hcm : cm2 N A M = A := if_pos hc
            rw [hcm] at HSt
            go_wp2_with (first
              | (go_at_call 10; refine HSt.out.mono ?_; clear HSt; rintro e w3 ⟨sa, sc, rfl, hb3⟩)
              | fail)
            go_ret
            exact ⟨rfl, hb3⟩
          · have d1 : decide ((N : Int) < 2 * (cnt18 M : Nat)) = false := by simp; omega
            have hcm : cm2 N A M = 0 := if_neg hc
            rw [hcm] at HSt
            go_wp2_with (first
              | (go_at_call 10; refine HSt.out.mono ?_; clear HSt; rintro e w3 ⟨sa, sc, rfl, hb3⟩)
              | fail)
            go_ret
            exact ⟨rfl, hb3⟩
end Go.Proofs.Ytaonchdpnllhpaa
