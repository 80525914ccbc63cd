/- The law BoundCallees. -/
import Derived.Test.YtodagpmcmjleaaaLMo9
namespace Go.Proofs.Ytodagpmcmjleaaa
open Go.RowKit
theorem calm1000 (z : Int) : ∃ N : Nat, (wrap64 (z.tmod 1000 + 1000)).tmod 1000 = (N : Int) ∧ N ≤ 999 := by
  have h1 : (z.tmod 1000).natAbs = z.natAbs % 1000 := by rw [Int.natAbs_tmod]; rfl
  have h2 := Nat.mod_lt z.natAbs (show 0 < 1000 by omega)
  generalize z.tmod 1000 = x at *
  have e : wrap64 (x + 1000) = x + 1000 := by unfold wrap64; omega
  rw [e, Int.tmod_eq_emod_of_nonneg (by omega)]
  exact ⟨((x + 1000) % 1000).toNat, by omega, by omega⟩
theorem calmS_in {ns : List Int} {z : Int} (h : z ∈ calmS ns) : 0 ≤ z ∧ z < 5000 := by
  obtain ⟨y, _, rfl⟩ := List.mem_map.1 h
  exact calm1_in y
theorem round_pos {cs : List (Int × Int)} {ls : List Int} {j : Nat} (h : (partS cs ls).2 = 0) (hj : j < cs.length) (h1 : cs[j].1 = 51) : 0 ≤ cs[j].2 := by
  obtain ⟨_, r, _⟩ := partS_zero h
  have := (right_of r).1 _ (List.getElem_mem hj)
  exact this.2 h1
theorem cells_set (cs : List (Int × Int)) (j : Nat) (hj : j < cs.length) (o t : Int) (ho : cs[j].1 = o) : (cellsI cs).set (j * 2 + 1) (.int .i64 t) = cellsI (cs.set j (o, t)) := by
  induction cs generalizing j with
  | nil => cases hj
  | cons c cs ih =>
    cases j with
    | zero =>
      simp only [List.getElem_cons_zero] at ho
      simp [cellsI, ho]
    | succ j =>
      have e := ih j (by simpa using hj) (by simpa using ho)
      rw [List.set_cons_succ, show j.succ * 2 + 1 = (j * 2 + 1) + 1 + 1 by omega]
      unfold cellsI at e ⊢
      simp only [List.flatMap_cons, List.cons_append, List.nil_append, List.set_cons_succ]
      rw [e]
/-- One round more is written. -/
theorem round_to {w : World} {gs : List Int} {ra : Option Addr} {w6 w5 : World} {g n c5 j : Nat} {cs : List (Int × Int)} (hG : To9 w gs ra w6) (hb : Below w6.heap.size w6 w5) (hr : w5.ownsRow w6.heap.size 35 2 (.slice (some ⟨g, 0, none⟩) n c5) n (cellsI cs)) (hj : j < cs.length) (h1 : cs[j].1 = 51) (h2 : cs[j].2 ≤ 64) :
    To9 w gs ra (w5.setCell ⟨g, j * 2 + 1, none⟩ (.int .i64 (cs[j].2 + 1))) ∧ IsAt (w5.setCell ⟨g, j * 2 + 1, none⟩ (.int .i64 (cs[j].2 + 1))).cell? (some ⟨g, 0, none⟩) (roundC cs j) := by
  have hg : w6.heap.size ≤ g := (hr.lt g rfl).1
  obtain ⟨q1, _⟩ := hr.stored (j * 2 + 1) (.int .i64 (cs[j].2 + 1))
  refine ⟨hG.keep (hb.setCell hg _), ?_⟩
  rw [cells_set cs j hj 51 _ h1] at q1
  have e : roundC cs j = cs.set j (51, cs[j].2 + 1) := by unfold roundC; rw [List.getElem?_eq_getElem hj]; simp only; rw [if_pos ⟨h1, h2⟩]
  rw [e]
  obtain ⟨_, va, vc, e2, _, hI⟩ := is_of_row q1 (C := (w5.setCell ⟨g, j * 2 + 1, none⟩ (.int .i64 (cs[j].2 + 1))).cell?) (fun x v _ hv => hv)
  cases e2
  exact hI
set_option maxRecDepth 100000 in
set_option maxHeartbeats 2000000 in
theorem callees_any (cs : List (Int × Int)) (ns : List Int) (ca na : Option Addr) (cc nc n k : Nat) (y z : Int) (hn : cs.length = n) (hk : ns.length = k) (bn : n ≤ 8796093022208) (bk : k ≤ 17592186044416) (w : World) (hc : IsAt w.cell? ca cs) (hz : NsAt w.cell? na ns) :
    Calls Try.prog 7 #[.slice ca n cc, .slice na k nc, .int .i64 y, .int .i64 z] w fun e w' => e = .returned (.bool true) ∧ Below w.heap.size w w' := by
  have HL := hid9 (calm_to (c := nc) hk (by omega) w hz)
  obtain ⟨ls, hls⟩ : ∃ ls, ls = calmS ns := ⟨_, rfl⟩
  rw [← hls] at HL
  have hlz : ∀ z ∈ ls, 0 ≤ z ∧ z < 5000 := fun z h => calmS_in (hls ▸ h)
  have hll : ls.length ≤ 20 := by rw [hls]; simp [calmS]; omega
  obtain ⟨A, hA⟩ : ∃ A, A = (partS cs ls).1 := ⟨_, rfl⟩
  obtain ⟨E, hE⟩ : ∃ E, E = (partS cs ls).2 := ⟨_, rfl⟩
  have hAl : A ≤ 1048577 := hA ▸ partS_le cs ls
  obtain ⟨M, eM, hM⟩ := calm1000 y
  have HOc : Hid (∀ ls la W, To9 w ls la W → Calls Try.prog 9 #[.slice ca n cc] W fun e W1 => ∃ a1 c1, e = .returned (.slice a1 n c1) ∧ Hid (To9 w ls la W1 ∧ IsAt W1.cell? a1 cs ∧ W1.ownsRow W.heap.size 35 2 (.slice a1 n c1) n (cellsI cs) ∧ Below W.heap.size W W1)) := hid9 fun ls la W h => own_to h cc hn bn hc
  have HPc : Hid (∀ la lc ln a1 c1 W, ln = ls.length → To9 w ls la W → IsAt W.cell? a1 cs → Calls Try.prog 10 #[.slice a1 n c1, .slice la ln lc] W fun e W1 => e = .returned (.tuple #[.int .i64 (A : Nat), .int .i64 E]) ∧ Hid (To9 w ls la W1)) := hid9 fun la lc ln a1 c1 W hl h hi => part_to h c1 lc hn (by omega) hl (by omega) hi hA hE
  have HKn : Hid (∀ ls la W, To9 w ls la W → Calls Try.prog 8 #[] W fun e W1 => e = .returned (.bool true) ∧ Hid (Below w.heap.size w W1)) := hid9 fun ls la W h => (knows_to h).mono fun e W1 ⟨h1, h2⟩ => ⟨h1, hid9 h2.out.1⟩
  by_cases hn0 : n = 0
  · subst hn0
    clear hc hz hA hE hn hk hls
    go_enter Try.func7, Try.ntmps7
    go_wp2_with (first
      | (go_at_call 14; refine HL.out.mono ?_; clear HL; rintro e w1 ⟨la, ln, lc, rfl, hln, HS⟩)
      | (go_at_call 9; refine (HOc.out _ la _ HS.out).mono ?_; clear HOc; rintro e w2 ⟨a1, c1, rfl, HQ⟩)
      | (go_at_call 10; refine (HPc.out _ _ _ _ _ _ hln.out HQ.out.1 HQ.out.2.1).mono ?_; clear HQ HPc HS; rintro e w3 ⟨rfl, HS⟩)
      | (go_at_call 12; refine (num9_any _ _).mono ?_; rintro e w9 ⟨rfl, w9e⟩; rw [w9e]; clear w9e)
      | (go_at_call 8; refine (HKn.out _ _ _ HS.out).mono ?_; clear HKn HS; rintro e w8 ⟨rfl, HS⟩)
      | fail)
    all_goals first | (exfalso; omega) | (go_ret; exact ⟨rfl, HS.out⟩)
  by_cases hbig : ¬ E = 0 ∨ 200 < n
  · clear hc hz hA hE hn hk hls
    have hnz : ((n : Int) == 0) = false := by simpa using hn0
    go_enter Try.func7, Try.ntmps7
    go_wp2_with (first
      | (go_at_call 14; refine HL.out.mono ?_; clear HL; rintro e w1 ⟨la, ln, lc, rfl, hln, HS⟩)
      | (go_at_call 9; refine (HOc.out _ la _ HS.out).mono ?_; clear HOc; rintro e w2 ⟨a1, c1, rfl, HQ⟩)
      | (go_at_call 10; refine (HPc.out _ _ _ _ _ _ hln.out HQ.out.1 HQ.out.2.1).mono ?_; clear HQ HPc HS; rintro e w3 ⟨rfl, HS⟩)
      | (go_at_call 12; refine (num9_any _ _).mono ?_; rintro e w9 ⟨rfl, w9e⟩; rw [w9e]; clear w9e)
      | (go_at_call 8; refine (HKn.out _ _ _ HS.out).mono ?_; clear HKn HS; rintro e w8 ⟨rfl, HS⟩)
      | fail)
    all_goals first | (exfalso; omega) | (go_ret; exact ⟨rfl, HS.out⟩)
  have e0 : E = 0 := by omega
  have hn2 : n ≤ 200 := by omega
  have hn1 : 1 ≤ n := by omega
  have hnz : ((n : Int) == 0) = false := by simpa using hn0
  obtain ⟨gs, hgs⟩ : ∃ gs, gs = greatS ls M := ⟨_, rfl⟩
  have hgl : gs.length = ls.length := by rw [hgs, great_len]
  obtain ⟨g1, g2⟩ := great_part (cs := cs) (m := M) (by omega) (fun z h => (hlz z h).1) (hE ▸ e0)
  rw [← hgs, ← hA] at g2
  rw [← hgs] at g1
  obtain ⟨j, ej, hj⟩ := way9 z n hn1 (by omega)
  obtain ⟨r1, r2⟩ := round_part j g1
  obtain ⟨B, hB⟩ : ∃ B, B = (partS cs gs).1 := ⟨_, rfl⟩
  obtain ⟨G, hG⟩ : ∃ G, G = (partS (roundC cs j) gs).1 := ⟨_, rfl⟩
  have hGl : G ≤ 1048577 := hG ▸ partS_le _ gs
  rw [← hB] at g2 r2
  rw [← hG] at r2
  have HPb : Hid (∀ la lc ln a1 c1 W, ln = ls.length → To9 w gs la W → IsAt W.cell? a1 cs → Calls Try.prog 10 #[.slice a1 n c1, .slice la ln lc] W fun e W1 => e = .returned (.tuple #[.int .i64 (B : Nat), .int .i64 0]) ∧ Hid (To9 w gs la W1)) := hid9 fun la lc ln a1 c1 W hl h hi => part_to h c1 lc hn (by omega) (hl.trans hgl.symm) (by omega) hi hB g1.symm
  have HPg : Hid (∀ la lc ln a1 c1 W, ln = ls.length → To9 w gs la W → IsAt W.cell? a1 (roundC cs j) → Calls Try.prog 10 #[.slice a1 n c1, .slice la ln lc] W fun e W1 => e = .returned (.tuple #[.int .i64 (G : Nat), .int .i64 0]) ∧ Hid (To9 w gs la W1)) := hid9 fun la lc ln a1 c1 W hl h hi => part_to h c1 lc ((round_len cs j).trans hn) (by omega) (hl.trans hgl.symm) (by omega) hi hG r1.symm
  subst e0
  have HZ := hid9 hlz
  have HP0 : Hid (∀ hj : j < cs.length, cs[j].1 = 51 → 0 ≤ cs[j].2) := hid9 fun hj h => round_pos g1 hj h
  clear hc hz hA hE hk hls hbig g1 r1 hG hB hlz
  go_enter Try.func7, Try.ntmps7
  go_wp2_with (first
    | (go_at_call 14; refine HL.out.mono ?_; clear HL; rintro e w1 ⟨la, ln, lc, rfl, hln, HS⟩)
    | (go_at_call 9; refine (HOc.out _ la _ HS.out).mono ?_; rintro e w2 ⟨a1, c1, rfl, HQ⟩)
    | (go_at_call 10; refine (HPc.out _ _ _ _ _ _ hln.out HQ.out.1 HQ.out.2.1).mono ?_; clear HQ HPc HS; rintro e w3 ⟨rfl, HS⟩)
    | (go_at_call 12; refine (num9_any _ _).mono ?_; rintro e w9 ⟨rfl, w9e⟩; rw [w9e]; clear w9e)
    | fail)
  have hl0 := hid9 hln.out
  go_loopw [12, 13] (fun gv iv wr => ∃ i : Nat, iv = .int .i64 i ∧ i ≤ ln ∧ Hid (wr.ownsRow w3.heap.size 3 1 gv i (cellsN (greatS (ls.take i) M)) ∧ Below w3.heap.size w3 wr)) (fun _ iv _ => ln - (intOf iv).toNat)
  case atStart => exact ⟨0, rfl, Nat.zero_le _, hid9 ⟨World.ownsRow_nil _ _ _ _, Below.refl _ _⟩⟩
  case round =>
    obtain ⟨i, rfl, hi, HR⟩ := hrel
    obtain ⟨ra, rc, eav, hrc, _⟩ := row_form HR.out.1
    subst eav
    by_cases hlt : i < ln
    · have hil : i < ls.length := by rw [← hln.out]; exact hlt
      obtain ⟨zb, zo, e1, z1⟩ : ∃ zb zo, la = some ⟨zb, zo, none⟩ ∧ wr.cell? ⟨zb, zo + i, none⟩ = some (.int .i64 ls[i]) := by
        rcases (HS.out.keep HR.out.2).2 with h | ⟨b, o, e, h⟩
        · rw [h] at hil; cases hil
        · exact ⟨b, o, e, h i hil⟩
      subst e1
      have HT : Hid (cellsN (greatS (ls.take (i + 1)) M) = cellsN (greatS (ls.take i) M) ++ [.int .i64 (ls[i] + M)]) := hid9 (by
        rw [List.take_succ_eq_append_getElem hil]
        unfold greatS
        rw [List.map_append, cellsN_append]
        rfl)
      obtain ⟨zl, zh⟩ := HZ.out _ (List.getElem_mem hil)
      have HR3 : Hid (∀ v, (wr.alloc (.cells #[v] 3)).ownsRow w3.heap.size 3 1 (.slice ra i rc) i (cellsN (greatS (ls.take i) M))) := hid9 fun v => HR.out.1.alloc _
      have HB : Hid (∀ v, Below w3.heap.size w3 (wr.alloc (.cells #[v] 3))) := hid9 fun v => HR.out.2.alloc HR.out.2.size _
      have s1 : w3.heap.size ≤ wr.heap.size := HR.out.2.size
      have hln20 : ln ≤ 20 := by rw [hln.out]; exact hll
      generalize ls[i] = x at *
      clear HR HOc HPb HPg HKn HZ
      go_wp2_with (first
        | (at_builtin; refine wpList_appN _ rfl _ _ 23 rfl elemN_int w3.heap.size _ i (cellsN (greatS (ls.take i) M)) rfl (HR3.out _) _ rfl 1 [(.int .i64 (x + M))] (.inr ⟨⟨_, 0, none⟩, 1, rfl, cells_new9 _ [(.int .i64 (x + M))] 3 _ (by simp)⟩) rfl (by simp [Value.oneCell']) (by unfold maxLen; omega) (by omega) (by simp; omega) ?_; intro v' w6 hr6 hs6)
        | fail)
      have b6 := hs6.below (B := w3.heap.size) (by simp; omega) (fun g e => ((HR3.out undef).lt g e).1)
      refine ⟨⟨i + 1, by go_num, by omega, hid9 ⟨?_, (HB.out _).trans b6⟩⟩, by simp [intOf]; omega⟩
      rw [HT.out]
      exact hr6
    · have e : i = ln := by omega
      subst e
      have HG : Hid (To9 w gs ra wr) := hid9 ⟨(HS.out.keep HR.out.2).1, by
        have h := HR.out.1
        rw [hln.out, List.take_length, ← hgs] at h
        obtain ⟨_, a2, c2, e2, _, hI⟩ := ns_of_row (by rw [← hgl] at h; exact h) (C := wr.cell?) (fun x v _ hv => hv)
        cases e2
        exact hI⟩
      have hjl : j < cs.length := by omega
      obtain ⟨o, ho⟩ : ∃ o, o = cs[j].1 := ⟨_, rfl⟩
      obtain ⟨t, ht⟩ : ∃ t, t = cs[j].2 := ⟨_, rfl⟩
      have HOd : Hid (∀ la W, To9 w gs la W → Calls Try.prog 9 #[.slice ca n cc] W fun e W1 => ∃ g c1, e = .returned (.slice (some ⟨g, 0, none⟩) n c1) ∧ W1.cell? ⟨g, j * 2, none⟩ = some (.int .i64 o) ∧ W1.cell? ⟨g, j * 2 + 1, none⟩ = some (.int .i64 t) ∧ W1.frozen? ⟨g, j * 2 + 1, none⟩ = false ∧ Hid (To9 w gs la W1 ∧ IsAt W1.cell? (some ⟨g, 0, none⟩) cs) ∧
          Hid (o = 51 → t ≤ 64 → To9 w gs la (W1.setCell ⟨g, j * 2 + 1, none⟩ (.int .i64 (t + 1))) ∧ IsAt (W1.setCell ⟨g, j * 2 + 1, none⟩ (.int .i64 (t + 1))).cell? (some ⟨g, 0, none⟩) (roundC cs j))) := hid9 fun la W h => (HOc.out gs la W h).mono fun e W1 ⟨a1, c1, e1, HQ⟩ => by
        subst e1
        obtain ⟨_, _, e5, hc5, _, hQ⟩ := row_form HQ.out.2.2.1
        cases e5
        rcases hQ with ⟨_, h0, _⟩ | ⟨g, e5, hgb, hgw, hcl⟩
        · exact absurd h0 hn0
        subst e5
        obtain ⟨q0, q1⟩ := cellsI_at cs j hjl
        refine ⟨g, c1, rfl, ?_, ?_, HQ.out.2.2.1.frozenAt (j * 2 + 1), hid9 ⟨HQ.out.1, HQ.out.2.1⟩, hid9 fun h51 h64 => ?_⟩
        · rw [ho]; exact hcl _ _ q0
        · rw [ht]; exact hcl _ _ q1
        · subst ho; subst ht
          exact round_to h HQ.out.2.2.2 HQ.out.2.2.1 hjl h51 h64
      have h00 : o = 51 → 0 ≤ t := fun h => by subst ho; subst ht; exact HP0.out hjl h
      have HRc : Hid (¬ (o = 51 ∧ t ≤ 64) → roundC cs j = cs) := hid9 fun h => by
        subst ho; subst ht
        unfold roundC
        rw [List.getElem?_eq_getElem hjl]
        simp only
        rw [if_neg h]
      clear HR HS HZ hgs HP0 ho ht hl0
      by_cases hcond : o = 51 ∧ t ≤ 64
      · obtain ⟨h51, h64⟩ := hcond
        have h01 := h00 h51
        subst h51
        go_wp2_with (first
          | (go_at_call 9; first | (refine (HOc.out _ ra _ HG.out).mono ?_; clear HOc; rintro e w5 ⟨a5, c5, rfl, HQ⟩) | (refine (HOd.out ra _ HG.out).mono ?_; clear HOd; rintro e w5 ⟨g, c5, rfl, c0, c1, fz, _, HQ⟩))
          | (go_at_call 10; first | (refine (HPb.out _ _ _ _ _ _ hln.out HQ.out.1 HQ.out.2.1).mono ?_; clear HQ HPb HG; rintro e w6 ⟨rfl, HG⟩) | (refine (HPg.out _ _ _ _ _ _ hln.out (HQ.out (by trivial) h64).1 (HQ.out (by trivial) h64).2).mono ?_; clear HQ HPg; rintro e w7 ⟨rfl, HS⟩))
          | (go_at_call 12; refine (num9_any _ _).mono ?_; rintro e w9 ⟨rfl, w9e⟩; rw [w9e]; clear w9e)
          | (go_at_call 8; refine (HKn.out _ _ _ HS.out).mono ?_; clear HKn HS; rintro e w8 ⟨rfl, HS⟩)
          | fail)
        all_goals first | (go_ret; exact ⟨rfl, HS.out⟩) | (exfalso; omega)
      · rw [HRc.out hcond] at HPg
        go_wp2_with (first
          | (go_at_call 9; first | (refine (HOc.out _ ra _ HG.out).mono ?_; clear HOc; rintro e w5 ⟨a5, c5, rfl, HQ⟩) | (refine (HOd.out ra _ HG.out).mono ?_; clear HOd; rintro e w5 ⟨g, c5, rfl, c0, c1, fz, HQ, _⟩))
          | (go_at_call 10; first | (refine (HPb.out _ _ _ _ _ _ hln.out HQ.out.1 HQ.out.2.1).mono ?_; clear HQ HPb HG; rintro e w6 ⟨rfl, HG⟩) | (refine (HPg.out _ _ _ _ _ _ hln.out HQ.out.1 HQ.out.2).mono ?_; clear HQ HPg; rintro e w7 ⟨rfl, HS⟩))
          | (go_at_call 12; refine (num9_any _ _).mono ?_; rintro e w9 ⟨rfl, w9e⟩; rw [w9e]; clear w9e)
          | (go_at_call 8; refine (HKn.out _ _ _ HS.out).mono ?_; clear HKn HS; rintro e w8 ⟨rfl, HS⟩)
          | fail)
        all_goals first | (go_ret; exact ⟨rfl, HS.out⟩) | (exfalso; omega) | (exfalso; simp_all; omega)
end Go.Proofs.Ytodagpmcmjleaaa
