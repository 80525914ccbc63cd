/- The law BoundTurns. -/
import Derived.Test.YtodagpmcmjleaaaLTo9
namespace Go.Proofs.Ytodagpmcmjleaaa
open Go.RowKit
/-- The loop around c. -/
def turnC (N : Nat) (c : List (Int × Int)) : List (Int × Int) := [(51, (N : Int))] ++ c ++ [(50, 0)]
theorem turn_gas {c : List (Int × Int)} {ls : List Int} {N : Nat} (hN : N ≤ 64) (hc : goodS c = true) : gasS ls (turnC N c) = cut (2 + N * (gasS ls c + 1)) := by
  have e : lrun ls (turnC N c) [base0] = [⟨false, 0, cut (2 + N * (gasS ls c + 1)), none⟩] := by
    unfold turnC base0
    rw [lrun_append, lrun_append, lrun_one ls (51, (N : Int)), lstep_open (x := (51, (N : Int))) (.inr rfl), run_good hc _ _ _ _ _ (Nat.zero_le _), lrun_one, lstep_end (x := (50, 0)) rfl]
    simp only [Nat.zero_add, cut_id (gas_le hc)]
    have h1 : costN 51 = 2 := by decide
    have h2 : costN 50 = 1 := by decide
    have h3 : min N TM = N := Nat.min_eq_left (by unfold TM; omega)
    simp only [closed9, h1, h2, decide_true, if_true, Int.toNat_natCast, h3, cut_mul, cut_add, cut_cut]
  rw [gasS, e]
theorem turn_right {c : List (Int × Int)} {ls : List Int} {N : Nat} (hc : rightB c ls = true) : rightB (turnC N c) ls = true := by
  have h1 : wrong9 ls.length (51, (N : Int)) = false := by simp [wrong9]
  have h2 : wrong9 ls.length (50, 0) = false := by simp [wrong9]
  unfold rightB turnC at *
  simp only [List.any_append, List.any_cons, List.any_nil, h1, h2, Bool.or_false, Bool.false_or]
  exact hc
theorem turn_part {c : List (Int × Int)} {ls : List Int} {N : Nat} (hN : N ≤ 64) (hc : (partS c ls).2 = 0) : (partS (turnC N c) ls).2 = 31 ∨ ((partS (turnC N c) ls).2 = 0 ∧ (partS (turnC N c) ls).1 = cut (2 + N * ((partS c ls).1 + 1))) := by
  rcases partS_err c ls with ⟨_, g1, r1, e1⟩ | ⟨h, _⟩ | ⟨h, _⟩
  · rcases partS_err (turnC N c) ls with ⟨h, _, _, e2⟩ | ⟨_, _, h⟩ | ⟨h, _⟩
    · exact .inr ⟨h, by rw [e2, e1, turn_gas hN g1]⟩
    · rw [turn_right r1] at h; cases h
    · exact .inl h
  · rw [h] at hc; cases hc
  · rw [h] at hc; cases hc
theorem calm65 (z : Int) : ∃ N : Nat, (wrap64 (z.tmod 65 + 65)).tmod 65 = (N : Int) ∧ N ≤ 64 := by
  have h1 : (z.tmod 65).natAbs = z.natAbs % 65 := by rw [Int.natAbs_tmod]; rfl
  have h2 := Nat.mod_lt z.natAbs (show 0 < 65 by omega)
  generalize z.tmod 65 = x at *
  have e : wrap64 (x + 65) = x + 65 := by unfold wrap64; omega
  rw [e, Int.tmod_eq_emod_of_nonneg (by omega)]
  exact ⟨((x + 65) % 65).toNat, by omega, by omega⟩
theorem tu1 {w3 w6 : World} {o : Obj} {v v' : Value} {m : Nat} {xs ys : List Value} (hX : (w3.alloc o).ownsRow w3.heap.size 35 2 v 1 xs) (hr : w6.ownsRow w3.heap.size 35 2 v' (1 + m) ys) (hs : Step (w3.alloc o) v w6 v') :
    ∃ va vc, v' = .slice va (1 + m) vc ∧ Hid (w6.ownsRow w3.heap.size 35 2 (.slice va (1 + m) vc) (1 + m) ys ∧ Below w3.heap.size w3 w6) := by
  obtain ⟨va, vc, rfl, _, _⟩ := row_form hr
  exact ⟨va, vc, rfl, hid9 ⟨hr, below_new6 ((Below.refl _ w3).alloc (Nat.le_refl _) o) hs (fun g e => (hX.lt g e).1) (by simp)⟩⟩
theorem tu2 {w : World} {ls : List Int} {la : Option Addr} {w3 w6 w7 : World} {o : Obj} {v v' : Value} {k m : Nat} {xs : List Value} {cs : List (Int × Int)} (hS : To9 w ls la w3) (hb : Below w3.heap.size w3 w6) (hX : (w6.alloc o).ownsRow w3.heap.size 35 2 v k xs) (hr : w7.ownsRow w3.heap.size 35 2 v' m (cellsI cs)) (hs : Step (w6.alloc o) v w7 v') :
    ∃ va vc, v' = .slice va m vc ∧ Hid (To9 w ls la w7 ∧ IsAt w7.cell? va cs) := by
  have b7 : Below w3.heap.size w3 w7 := below_new6 (hb.alloc hb.size o) hs (fun g e => (hX.lt g e).1) (by have := hb.size; simp; omega)
  obtain ⟨_, va, vc, e2, _, hI⟩ := is_of_row hr (C := w7.cell?) (fun x v _ hv => hv)
  exact ⟨va, vc, e2, hid9 ⟨hS.keep b7, hI⟩⟩
set_option maxRecDepth 100000 in
set_option maxHeartbeats 2000000 in
theorem turns_any (cs : List (Int × Int)) (ns : List Int) (ca na : Option Addr) (cc nc n k : Nat) (z : Int) (hn : cs.length = n) (hk : ns.length = k) (bn : n ≤ 8796093022208) (bk : k ≤ 17592186044416) (w : World) (hc : IsAt w.cell? ca cs) (hz : NsAt w.cell? na ns) :
    Calls Try.prog 6 #[.slice ca n cc, .slice na k nc, .int .i64 z] w fun e w' => e = .returned (.bool true) ∧ Below w.heap.size w w' := by
  have HL := hid9 (calm_to (c := nc) hk (by omega) w hz)
  obtain ⟨ls, hls⟩ : ∃ ls, ls = calmS ns := ⟨_, rfl⟩
  rw [← hls] at HL
  have hll : ls.length ≤ 20 := by rw [hls]; simp [calmS]; omega
  obtain ⟨A, hA⟩ : ∃ A, A = (partS cs ls).1 := ⟨_, rfl⟩
  obtain ⟨E, hE⟩ : ∃ E, E = (partS cs ls).2 := ⟨_, rfl⟩
  have hAl : A ≤ 1048577 := hA ▸ partS_le cs ls
  obtain ⟨N, eN, hN⟩ := calm65 z
  have HOc : Hid (∀ la W, To9 w ls la W → Calls Try.prog 9 #[.slice ca n cc] W fun e W1 => ∃ a1 c1, e = .returned (.slice a1 n c1) ∧ Hid (To9 w ls la W1 ∧ IsAt W1.cell? a1 cs)) := hid9 fun la W h => (own_to h cc hn bn hc).mono fun e W1 ⟨a1, c1, h1, h2⟩ => ⟨a1, c1, h1, hid9 ⟨h2.out.1, h2.out.2.1⟩⟩
  have HPc : Hid (∀ la lc ln a1 c1 W, ln = ls.length → To9 w ls la W → IsAt W.cell? a1 cs → Calls Try.prog 10 #[.slice a1 n c1, .slice la ln lc] W fun e W1 => e = .returned (.tuple #[.int .i64 (A : Nat), .int .i64 E]) ∧ Hid (To9 w ls la W1)) := hid9 fun la lc ln a1 c1 W hl h hi => part_to h c1 lc hn (by omega) hl (by omega) hi hA hE
  have HKn : Hid (∀ la W, To9 w ls la W → Calls Try.prog 8 #[] W fun e W1 => e = .returned (.bool true) ∧ Hid (To9 w ls la W1)) := hid9 fun la W h => knows_to h
  by_cases hbig : ¬ E = 0 ∨ 200 < n
  · clear hc hz hA hE hn hk hls
    go_enter Try.func6, Try.ntmps6
    go_wp2_with (first
      | (go_at_call 14; refine HL.out.mono ?_; clear HL; rintro e w1 ⟨la, ln, lc, rfl, hln, HS⟩)
      | (go_at_call 9; refine (HOc.out la _ HS.out).mono ?_; clear HOc; rintro e w2 ⟨a1, c1, rfl, HQ⟩)
      | (go_at_call 10; refine (HPc.out _ _ _ _ _ _ hln.out HQ.out.1 HQ.out.2).mono ?_; clear HQ HPc HS; rintro e w3 ⟨rfl, HS⟩)
      | (go_at_call 12; refine (num9_any _ _).mono ?_; rintro e w9 ⟨rfl, w9e⟩; rw [w9e]; clear w9e)
      | (go_at_call 8; refine (HKn.out _ _ HS.out).mono ?_; clear HKn HS; rintro e w8 ⟨rfl, HS⟩)
      | fail)
    all_goals first | (exfalso; omega) | (go_ret; exact ⟨rfl, HS.out.1⟩)
  have e0 : E = 0 := by omega
  have hn2 : n ≤ 200 := by omega
  have HX0 : Hid (∀ W : World, (W.alloc (.cells #[.int .i64 51, .int .i64 (N : Int)] 35)).ownsRow W.heap.size 35 2 (.slice (some ⟨W.heap.size, 0, none⟩) 1 1) 1 [.int .i64 51, .int .i64 (N : Int)]) := hid9 fun W => ⟨by simp, .inr ⟨W.heap.size, 1, #[.int .i64 51, .int .i64 (N : Int)], rfl, Nat.le_refl _, heap_alloc_new W _, Nat.le_refl _, by unfold maxLen; omega, by simp, by simp⟩⟩
  have hl2 : (turnC N cs).length = 1 + n + 1 := by simp [turnC, hn]; omega
  obtain ⟨T, hT⟩ : ∃ T, T = (partS (turnC N cs) ls).1 := ⟨_, rfl⟩
  obtain ⟨F, hF⟩ : ∃ F, F = (partS (turnC N cs) ls).2 := ⟨_, rfl⟩
  have hTl : T ≤ 1048577 := hT ▸ partS_le _ ls
  have hTF : F = 31 ∨ (F = 0 ∧ T = cut (2 + N * (A + 1))) := by rw [hF, hT, hA]; exact turn_part hN (hE ▸ e0)
  have HPt : Hid (∀ la lc ln a1 c1 W, ln = ls.length → To9 w ls la W → IsAt W.cell? a1 (turnC N cs) → Calls Try.prog 10 #[.slice a1 (1 + n + 1) c1, .slice la ln lc] W fun e W1 => e = .returned (.tuple #[.int .i64 (T : Nat), .int .i64 F]) ∧ Hid (To9 w ls la W1)) := hid9 fun la lc ln a1 c1 W hl h hi => part_to h c1 lc hl2 (by omega) hl (by omega) hi hT hF
  have HLc : Hid (∀ la W o, To9 w ls la W → Lies (W.alloc o) (.slice ca n cc) n (cellsI cs)) := hid9 fun la W o h => by
    rw [← hn]
    exact (hc.keep (below_keep (h.1.alloc h.1.size o))).lies cc
  have hxl : (cellsI cs).length = n * 2 := by rw [cellsI_len, hn]
  have HX : Hid (∀ u ∈ cellsI cs, u.oneCell' = true) := hid9 (cellsI_one _)
  have HEq : Hid (([.int .i64 51, .int .i64 (N : Int)] ++ cellsI cs) ++ [.int .i64 50, .int .i64 0] = cellsI (turnC N cs)) := hid9 (by simp [cellsI, turnC])
  have k51 : costT 51 = 2 := by decide
  have k50 : costT 50 = 1 := by decide
  have hp0 : N * (A + 1) ≤ 64 * 1048578 := Nat.mul_le_mul hN (by omega)
  have hpc : ((N * (A + 1) : Nat) : Int) = (N : Int) * ((A : Int) + 1) := by rw [Int.natCast_mul]; rfl
  have HPr : Hid ((N : Int) * ((A : Int) + 1) ≤ 67108992 ∧ 0 ≤ (N : Int) * ((A : Int) + 1)) := hid9 (by rw [← hpc]; omega)
  subst e0
  rcases hTF with hF1 | ⟨hF1, hT1⟩
  · subst hF1
    clear hc hz hA hE hn hk hls hbig hl2 hT hF hpc hp0
    go_enter Try.func6, Try.ntmps6
    go_wp2_with (first
      | (go_at_call 14; refine HL.out.mono ?_; clear HL; rintro e w1 ⟨la, ln, lc, rfl, hln, HS⟩)
      | (go_at_call 9; refine (HOc.out la _ HS.out).mono ?_; clear HOc; rintro e w2 ⟨a1, c1, rfl, HQ⟩)
      | (go_at_call 10; first | (refine (HPc.out _ _ _ _ _ _ hln.out HQ.out.1 HQ.out.2).mono ?_; clear HQ HPc HS; rintro e w3 ⟨rfl, HS⟩) | (refine (HPt.out _ _ _ _ _ _ hln.out HQ2.out.1 HQ2.out.2).mono ?_; clear HQ2 HPt; rintro e w8 ⟨rfl, HS⟩))
      | (go_at_call 12; refine (num9_any _ _).mono ?_; rintro e w9 ⟨rfl, w9e⟩; rw [w9e]; clear w9e)
      | (go_at_call 15; refine (cost_any _ _).mono ?_; rintro e w9 ⟨rfl, w9e⟩; rw [w9e]; clear w9e; first | rw [k51] | rw [k50])
      | (go_at_call 8; refine (HKn.out _ _ HS.out).mono ?_; clear HKn HS; rintro e w8 ⟨rfl, HS⟩)
      | (at_builtin; refine wpList_appN _ rfl _ _ 22 rfl elemN_ins _ _ 1 [.int .i64 51, .int .i64 (N : Int)] rfl (HX0.out _) _ rfl n (cellsI cs) (HLc.out _ _ _ HS.out) hxl HX.out (by unfold maxLen; omega) (by omega) (by simp) ?_; intro v' w6 hr6 hs6; obtain ⟨va, vc, e6, HR6⟩ := tu1 (HX0.out _) hr6 hs6; subst e6; clear hr6 hs6 HX0)
      | (at_builtin; refine wpList_appN _ rfl _ _ 22 rfl elemN_ins _ _ (1 + n) ([.int .i64 51, .int .i64 (N : Int)] ++ cellsI cs) rfl (HR6.out.1.alloc _) _ rfl 1 [.int .i64 50, .int .i64 0] (.inr ⟨⟨_, 0, none⟩, 1, rfl, cells_new9 _ [.int .i64 50, .int .i64 0] 35 _ (by simp)⟩) rfl (by simp [Value.oneCell']) (by unfold maxLen; omega) (by omega) (by have := HR6.out.2.size; simp; omega) ?_; intro v7 w7 hr7 hs7; rw [HEq.out] at hr7; obtain ⟨vb, vd, e7, HQ2⟩ := tu2 HS.out HR6.out.2 (HR6.out.1.alloc _) hr7 hs7; subst e7; clear hr7 hs7 HR6 HS)
      | fail)
    all_goals first | (exfalso; omega) | (go_ret; exact ⟨rfl, HS.out.1⟩)
  · subst hF1
    have HT1 : Hid (∃ P : Nat, (P : Int) = (N : Int) * ((A : Int) + 1) ∧ T = cut (2 + P)) := hid9 ⟨_, hpc, hT1⟩
    clear hc hz hA hE hn hk hls hbig hl2 hT hF hpc hp0 hT1
    go_enter Try.func6, Try.ntmps6
    go_wp2_with (first
      | (go_at_call 14; refine HL.out.mono ?_; clear HL; rintro e w1 ⟨la, ln, lc, rfl, hln, HS⟩)
      | (go_at_call 9; refine (HOc.out la _ HS.out).mono ?_; clear HOc; rintro e w2 ⟨a1, c1, rfl, HQ⟩)
      | (go_at_call 10; first | (refine (HPc.out _ _ _ _ _ _ hln.out HQ.out.1 HQ.out.2).mono ?_; clear HQ HPc HS; rintro e w3 ⟨rfl, HS⟩) | (refine (HPt.out _ _ _ _ _ _ hln.out HQ2.out.1 HQ2.out.2).mono ?_; clear HQ2 HPt; rintro e w8 ⟨rfl, HS⟩))
      | (go_at_call 12; refine (num9_any _ _).mono ?_; rintro e w9 ⟨rfl, w9e⟩; rw [w9e]; clear w9e)
      | (go_at_call 15; refine (cost_any _ _).mono ?_; rintro e w9 ⟨rfl, w9e⟩; rw [w9e]; clear w9e; first | rw [k51] | (rw [k50]; have hp1 := HPr.out.1; have hp2 := HPr.out.2))
      | (go_at_call 8; refine (HKn.out _ _ HS.out).mono ?_; clear HKn HS; rintro e w8 ⟨rfl, HS⟩)
      | (at_builtin; refine wpList_appN _ rfl _ _ 22 rfl elemN_ins _ _ 1 [.int .i64 51, .int .i64 (N : Int)] rfl (HX0.out _) _ rfl n (cellsI cs) (HLc.out _ _ _ HS.out) hxl HX.out (by unfold maxLen; omega) (by omega) (by simp) ?_; intro v' w6 hr6 hs6; obtain ⟨va, vc, e6, HR6⟩ := tu1 (HX0.out _) hr6 hs6; subst e6; clear hr6 hs6 HX0)
      | (at_builtin; refine wpList_appN _ rfl _ _ 22 rfl elemN_ins _ _ (1 + n) ([.int .i64 51, .int .i64 (N : Int)] ++ cellsI cs) rfl (HR6.out.1.alloc _) _ rfl 1 [.int .i64 50, .int .i64 0] (.inr ⟨⟨_, 0, none⟩, 1, rfl, cells_new9 _ [.int .i64 50, .int .i64 0] 35 _ (by simp)⟩) rfl (by simp [Value.oneCell']) (by unfold maxLen; omega) (by omega) (by have := HR6.out.2.size; simp; omega) ?_; intro v7 w7 hr7 hs7; rw [HEq.out] at hr7; obtain ⟨vb, vd, e7, HQ2⟩ := tu2 HS.out HR6.out.2 (HR6.out.1.alloc _) hr7 hs7; subst e7; clear hr7 hs7 HR6 HS)
      | fail)
    all_goals first | (go_ret; exact ⟨rfl, HS.out.1⟩) | (exfalso; obtain ⟨P, hP, hT⟩ := HT1.out; unfold cut TM at hT; omega)
end Go.Proofs.Ytodagpmcmjleaaa
