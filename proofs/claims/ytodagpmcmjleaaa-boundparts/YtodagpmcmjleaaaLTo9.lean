/- The law BoundTogether. -/
import Derived.Test.YtodagpmcmjleaaaYI
import Derived.Test.YtodagpmcmjleaaaLWays
namespace Go.Proofs.Ytodagpmcmjleaaa
open Go.RowKit
/-- What holds from the law's calm on. -/
def To9 (w : World) (ls : List Int) (la : Option Addr) (W : World) : Prop := Below w.heap.size w W ∧ NsAt W.cell? la ls
theorem To9.keep {w : World} {ls : List Int} {la : Option Addr} {W W' : World} (h : To9 w ls la W) (hb : Below W.heap.size W W') : To9 w ls la W' := ⟨h.1.trans (hb.mono h.1.size), h.2.keep (below_keep hb)⟩
theorem calm_to {ns : List Int} {a : Option Addr} {n c : Nat} (hn : ns.length = n) (bn : n ≤ 1000000000000000) (w : World) (hz : NsAt w.cell? a ns) :
    Calls Try.prog 14 #[.slice a n c] w fun e W => ∃ la ln lc, e = .returned (.slice la ln lc) ∧ Hid (ln = (calmS ns).length) ∧ Hid (To9 w (calmS ns) la W) :=
  (calm9_any ns a n c hn bn w hz).mono fun e W ⟨la, lc, h1, h2, h3⟩ => ⟨la, _, lc, h1, hid9 rfl, hid9 ⟨h3, by
    obtain ⟨_, a2, c2, e2, _, hI⟩ := ns_of_row h2 (C := W.cell?) (fun x v _ hv => hv)
    cases e2
    exact hI⟩⟩
theorem own_to {w : World} {ls : List Int} {la : Option Addr} {W : World} (h : To9 w ls la W) {cs : List (Int × Int)} {ca : Option Addr} {n : Nat} (cc : Nat) (hn : cs.length = n) (bn : n ≤ 8796093022208) (hc : IsAt w.cell? ca cs) :
    Calls Try.prog 9 #[.slice ca n cc] W fun e W1 => ∃ a1 c1, e = .returned (.slice a1 n c1) ∧ Hid (To9 w ls la W1 ∧ IsAt W1.cell? a1 cs ∧ W1.ownsRow W.heap.size 35 2 (.slice a1 n c1) n (cellsI cs) ∧ Below W.heap.size W W1) := by
  subst hn
  exact (own6_any cs ca cc cs.length rfl bn W (hc.keep (below_keep h.1))).mono fun e W1 ⟨a1, c1, h1, _, h2, h3⟩ => ⟨a1, c1, h1, hid9 ⟨h.keep h3, ins_row h2 (Below.refl _ _), h2, h3⟩⟩
theorem part_to {w : World} {ls : List Int} {la : Option Addr} {W : World} (h : To9 w ls la W) {cs : List (Int × Int)} {a1 : Option Addr} {n ln : Nat} (c1 lc : Nat) (hn : cs.length = n) (bn : n ≤ 9000000000000) (hl : ln = ls.length) (bl : ln ≤ 9000000000000) (hc : IsAt W.cell? a1 cs) {A : Nat} {E : Int} (hA : A = (partS cs ls).1) (hE : E = (partS cs ls).2) :
    Calls Try.prog 10 #[.slice a1 n c1, .slice la ln lc] W fun e W1 => e = .returned (.tuple #[.int .i64 (A : Nat), .int .i64 E]) ∧ Hid (To9 w ls la W1) := by
  subst hn; subst hl; subst hA; subst hE
  exact (part9_any cs ls a1 la c1 lc bn (by omega) W hc h.2).mono fun e W1 ⟨h1, h2⟩ => ⟨h1, hid9 (h.keep h2)⟩
theorem knows_to {w : World} {ls : List Int} {la : Option Addr} {W : World} (h : To9 w ls la W) : Calls Try.prog 8 #[] W fun e W1 => e = .returned (.bool true) ∧ Hid (To9 w ls la W1) :=
  (knows9_any W).mono fun _ _ ⟨h1, h2⟩ => ⟨h1, hid9 (h.keep h2)⟩
theorem partS_err (cs : List (Int × Int)) (ls : List Int) : ((partS cs ls).2 = 0 ∧ goodS cs = true ∧ rightB cs ls = true ∧ (partS cs ls).1 = gasS ls cs) ∨ ((partS cs ls).2 = 1 ∧ goodS cs = true ∧ rightB cs ls = false) ∨ ((partS cs ls).2 = 31 ∧ goodS cs = false) := by
  unfold partS
  by_cases hg : goodS cs = true
  · rw [if_pos hg]
    by_cases hr : rightB cs ls = true
    · rw [if_pos hr]; exact .inl ⟨rfl, hg, hr, rfl⟩
    · rw [if_neg hr]; exact .inr (.inl ⟨rfl, hg, by simpa using hr⟩)
  · rw [if_neg hg]; exact .inr (.inr ⟨rfl, by simpa using hg⟩)
theorem partS_le (cs : List (Int × Int)) (ls : List Int) : (partS cs ls).1 ≤ 1048577 := by
  unfold partS
  by_cases hg : goodS cs = true
  · rw [if_pos hg]
    by_cases hr : rightB cs ls = true
    · rw [if_pos hr]; exact gas_le hg
    · rw [if_neg hr]; decide
  · rw [if_neg hg]; decide
theorem right_cat {c d : List (Int × Int)} {ls : List Int} (hc : rightB c ls = true) (hd : rightB d ls = true) : rightB (c ++ d) ls = true := by
  unfold rightB at *
  rw [List.any_append]
  simp_all
theorem part_cat {c d : List (Int × Int)} {ls : List Int} (hc : (partS c ls).2 = 0) (hd : (partS d ls).2 = 0) : partS (c ++ d) ls = (cut ((partS c ls).1 + (partS d ls).1), 0) := by
  rcases partS_err c ls with ⟨_, g1, r1, e1⟩ | ⟨h, _⟩ | ⟨h, _⟩
  · rcases partS_err d ls with ⟨_, g2, r2, e2⟩ | ⟨h, _⟩ | ⟨h, _⟩
    · rw [e1, e2, ← gas_cat g1 g2]
      unfold partS
      rw [if_pos (good_cat g1 g2), if_pos (right_cat r1 r2)]
    · rw [h] at hd; cases hd
    · rw [h] at hd; cases hd
  · rw [h] at hc; cases hc
  · rw [h] at hc; cases hc
theorem app_to {w : World} {ls : List Int} {la a1 : Option Addr} {w3 w2 w6 : World} {c1 n m : Nat} {cs ds : List (Int × Int)} {v' : Value} (hS : To9 w ls la w3) (hq : w2.ownsRow w3.heap.size 35 2 (.slice a1 n c1) n (cellsI cs)) (hb : Below w3.heap.size w3 w2) (hr : w6.ownsRow w3.heap.size 35 2 v' (n + m) (cellsI cs ++ cellsI ds)) (hs : Step w2 (.slice a1 n c1) w6 v') :
    ∃ va vc, v' = .slice va (n + m) vc ∧ Hid (To9 w ls la w6 ∧ IsAt w6.cell? va (cs ++ ds)) := by
  have b6 : Below w3.heap.size w3 w6 := below_new6 hb hs (fun g e => (hq.lt g e).1) hb.size
  rw [show cellsI cs ++ cellsI ds = cellsI (cs ++ ds) by simp [cellsI]] at hr
  obtain ⟨_, va, vc, e2, _, hI⟩ := is_of_row hr (C := w6.cell?) (fun x v _ hv => hv)
  exact ⟨va, vc, e2, hid9 ⟨hS.keep b6, hI⟩⟩
set_option maxRecDepth 100000 in
set_option maxHeartbeats 2000000 in
theorem together_any (cs ds : List (Int × Int)) (ns : List Int) (ca da na : Option Addr) (cc dc nc n m k : Nat) (hn : cs.length = n) (hm : ds.length = m) (hk : ns.length = k) (bn : n ≤ 8796093022208) (bm : m ≤ 8796093022208) (bk : k ≤ 17592186044416) (w : World) (hc : IsAt w.cell? ca cs) (hd : IsAt w.cell? da ds) (hz : NsAt w.cell? na ns) :
    Calls Try.prog 5 #[.slice ca n cc, .slice da m dc, .slice na k nc] w fun e w' => e = .returned (.bool true) ∧ Below w.heap.size w w' := by
  have HL := hid9 (calm_to (c := nc) hk (by omega) w hz)
  obtain ⟨ls, hls⟩ : ∃ ls, ls = calmS ns := ⟨_, rfl⟩
  rw [← hls] at HL
  have hll : ls.length ≤ 20 := by rw [hls]; simp [calmS]; omega
  obtain ⟨A, hA⟩ : ∃ A, A = (partS cs ls).1 := ⟨_, rfl⟩
  obtain ⟨E, hE⟩ : ∃ E, E = (partS cs ls).2 := ⟨_, rfl⟩
  obtain ⟨B, hB⟩ : ∃ B, B = (partS ds ls).1 := ⟨_, rfl⟩
  obtain ⟨F, hF⟩ : ∃ F, F = (partS ds ls).2 := ⟨_, rfl⟩
  have hAl : A ≤ 1048577 := hA ▸ partS_le cs ls
  have hBl : B ≤ 1048577 := hB ▸ partS_le ds ls
  have hE0 : E = 0 ∨ E = 1 ∨ E = 31 := by rcases partS_err cs ls with ⟨h, _⟩ | ⟨h, _⟩ | ⟨h, _⟩ <;> rw [hE, h] <;> simp
  have hF0 : F = 0 ∨ F = 1 ∨ F = 31 := by rcases partS_err ds ls with ⟨h, _⟩ | ⟨h, _⟩ | ⟨h, _⟩ <;> rw [hF, h] <;> simp
  have HOc : Hid (∀ la W, To9 w ls la W → Calls Try.prog 9 #[.slice ca n cc] W fun e W1 => ∃ a1 c1, e = .returned (.slice a1 n c1) ∧ Hid (To9 w ls la W1 ∧ IsAt W1.cell? a1 cs ∧ W1.ownsRow W.heap.size 35 2 (.slice a1 n c1) n (cellsI cs) ∧ Below W.heap.size W W1)) := hid9 fun la W h => own_to h cc hn bn hc
  have HOd : Hid (∀ la W, To9 w ls la W → Calls Try.prog 9 #[.slice da m dc] W fun e W1 => ∃ a1 c1, e = .returned (.slice a1 m c1) ∧ Hid (To9 w ls la W1 ∧ IsAt W1.cell? a1 ds ∧ W1.ownsRow W.heap.size 35 2 (.slice a1 m c1) m (cellsI ds) ∧ Below W.heap.size W W1)) := hid9 fun la W h => own_to h dc hm bm hd
  have HOe := HOc
  by_cases hbig : 200 < n ∨ 200 < m
  · have HKn : Hid (∀ la W, To9 w ls la W → Calls Try.prog 8 #[] W fun e W1 => e = .returned (.bool true) ∧ Hid (To9 w ls la W1)) := hid9 fun la W h => knows_to h
    clear hc hd hz HOc HOd HOe hA hB hE hF hn hm hk hls
    go_enter Try.func5, Try.ntmps5
    go_wp2_with (first | (go_at_call 14; refine HL.out.mono ?_; clear HL; rintro e w1 ⟨la, ln, lc, rfl, hln, HS⟩) | (go_at_call 8; refine (HKn.out _ _ HS.out).mono ?_; clear HKn; rintro e w2 ⟨rfl, HS2⟩) | fail)
    all_goals first | (exfalso; omega) | (go_ret; exact ⟨rfl, HS2.out.1⟩)
  have hn2 : n ≤ 200 := by omega
  have hm2 : m ≤ 200 := by omega
  have HPc : Hid (∀ la lc ln a1 c1 W, ln = ls.length → To9 w ls la W → IsAt W.cell? a1 cs → Calls Try.prog 10 #[.slice a1 n c1, .slice la ln lc] W fun e W1 => e = .returned (.tuple #[.int .i64 (A : Nat), .int .i64 E]) ∧ Hid (To9 w ls la W1)) := hid9 fun la lc ln a1 c1 W hl h hi => part_to h c1 lc hn (by omega) hl (by omega) hi hA hE
  have HPd : Hid (∀ la lc ln a1 c1 W, ln = ls.length → To9 w ls la W → IsAt W.cell? a1 ds → Calls Try.prog 10 #[.slice a1 m c1, .slice la ln lc] W fun e W1 => e = .returned (.tuple #[.int .i64 (B : Nat), .int .i64 F]) ∧ Hid (To9 w ls la W1)) := hid9 fun la lc ln a1 c1 W hl h hi => part_to h c1 lc hm (by omega) hl (by omega) hi hB hF
  have HKn : Hid (∀ la W, To9 w ls la W → Calls Try.prog 8 #[] W fun e W1 => e = .returned (.bool true) ∧ Hid (To9 w ls la W1)) := hid9 fun la W h => knows_to h
  by_cases hEF : E + F = 0
  · have e1 : E = 0 := by omega
    have e2 : F = 0 := by omega
    have HPcd : Hid (∀ la lc ln a1 c1 W, ln = ls.length → To9 w ls la W → IsAt W.cell? a1 (cs ++ ds) → Calls Try.prog 10 #[.slice a1 (n + m) c1, .slice la ln lc] W fun e W1 => e = .returned (.tuple #[.int .i64 (cut (A + B) : Nat), .int .i64 0]) ∧ Hid (To9 w ls la W1)) := hid9 fun la lc ln a1 c1 W hl h hi => by
      have hp := part_cat (hE ▸ e1) (hF ▸ e2)
      rw [← hA, ← hB] at hp
      exact part_to h c1 lc (by rw [List.length_append, hn, hm]) (by omega) hl (by omega) hi (by rw [hp]) (by rw [hp])
    have HLd : Hid (∀ la W, To9 w ls la W → Lies W (.slice da m dc) m (cellsI ds)) := hid9 fun la W h => by
      rw [← hm]
      exact (hd.keep (below_keep h.1)).lies dc
    have hxl : (cellsI ds).length = m * 2 := by rw [cellsI_len, hm]
    have HX : Hid (∀ u ∈ cellsI ds, u.oneCell' = true) := hid9 (cellsI_one _)
    have HCm : cut (A + B) = if A + B < 1048577 then A + B else 1048577 := by unfold cut TM; split <;> omega
    subst e1; subst e2
    clear hc hd hz hA hB hE hF hn hm hk hls hE0 hF0 hbig
    obtain ⟨S, hS⟩ : ∃ S, S = cut (A + B) := ⟨_, rfl⟩
    rw [← hS] at HPcd HCm
    go_enter Try.func5, Try.ntmps5
    go_wp2_with (first
      | (go_at_call 14; refine HL.out.mono ?_; clear HL; rintro e w1 ⟨la, ln, lc, rfl, hln, HS⟩)
      | (go_at_call 9; first | (refine (HOc.out la _ HS.out).mono ?_; clear HOc; rintro e w2 ⟨a1, c1, rfl, HQ⟩) | (refine (HOd.out la _ HS.out).mono ?_; clear HOd; rintro e w2 ⟨a1, c1, rfl, HQ⟩) | (refine (HOe.out la _ HS.out).mono ?_; clear HOe; rintro e w2 ⟨a1, c1, rfl, HQ⟩))
      | (go_at_call 10; first | (refine (HPc.out _ _ _ _ _ _ hln.out HQ.out.1 HQ.out.2.1).mono ?_; clear HQ HPc HS; rintro e w3 ⟨rfl, HS⟩) | (refine (HPd.out _ _ _ _ _ _ hln.out HQ.out.1 HQ.out.2.1).mono ?_; clear HQ HPd HS; rintro e w3 ⟨rfl, HS⟩))
      | (go_at_call 12; refine (num9_any _ _).mono ?_; rintro e w9 ⟨rfl, w9e⟩; rw [w9e]; clear w9e)
      | (at_builtin; refine wpList_appN _ rfl _ _ 22 rfl elemN_ins _ _ n (cellsI cs) rfl HQ.out.2.2.1 _ rfl m (cellsI ds) (HLd.out la _ HQ.out.1) hxl HX.out (by unfold maxLen; omega) (by omega) HQ.out.2.2.2.size ?_; intro v' w6 hr6 hs6; obtain ⟨va, vc, e6, HQ2⟩ := app_to HS.out HQ.out.2.2.1 HQ.out.2.2.2 hr6 hs6; subst e6; clear HQ HS hr6 hs6)
      | (go_at_call 10; refine (HPcd.out _ _ _ _ _ _ hln.out HQ2.out.1 HQ2.out.2).mono ?_; clear HPcd HQ2; rintro e w7 ⟨rfl, HS⟩)
      | (go_at_call 8; refine (HKn.out _ _ HS.out).mono ?_; clear HKn HS; rintro e w8 ⟨rfl, HS⟩)
      | fail)
    all_goals first | (exfalso; omega) | (go_ret; exact ⟨rfl, HS.out.1⟩)
  · clear hc hd hz hA hB hE hF hn hm hk hls
    have hEF2 : (E + F == 0) = false := by simpa using hEF
    go_enter Try.func5, Try.ntmps5
    go_wp2_with (first
      | (go_at_call 14; refine HL.out.mono ?_; clear HL; rintro e w1 ⟨la, ln, lc, rfl, hln, HS⟩)
      | (go_at_call 9; first | (refine (HOc.out la _ HS.out).mono ?_; clear HOc; rintro e w2 ⟨a1, c1, rfl, HQ⟩) | (refine (HOd.out la _ HS.out).mono ?_; clear HOd; rintro e w2 ⟨a1, c1, rfl, HQ⟩) | (refine (HOe.out la _ HS.out).mono ?_; clear HOe; rintro e w2 ⟨a1, c1, rfl, HQ⟩))
      | (go_at_call 10; first | (refine (HPc.out _ _ _ _ _ _ hln.out HQ.out.1 HQ.out.2.1).mono ?_; clear HQ HPc HS; rintro e w3 ⟨rfl, HS⟩) | (refine (HPd.out _ _ _ _ _ _ hln.out HQ.out.1 HQ.out.2.1).mono ?_; clear HQ HPd HS; rintro e w3 ⟨rfl, HS⟩))
      | (go_at_call 12; refine (num9_any _ _).mono ?_; rintro e w9 ⟨rfl, w9e⟩; rw [w9e]; clear w9e)
      | (go_at_call 8; refine (HKn.out _ _ HS.out).mono ?_; clear HKn HS; rintro e w8 ⟨rfl, HS⟩)
      | fail)
    all_goals first | (exfalso; omega) | (go_ret; exact ⟨rfl, HS.out.1⟩)
end Go.Proofs.Ytodagpmcmjleaaa
