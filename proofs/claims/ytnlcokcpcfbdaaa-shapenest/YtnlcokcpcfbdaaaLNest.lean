/- The law ShapeNest. -/
import Derived.Test.YtnlcokcpcfbdaaaSX
import Derived.Test.YtnlcokcpcfbdaaaLMat
namespace Go.Proofs.Ytnlcokcpcfbdaaa
open Go.RowKit
theorem stk_asc {op : Nat → Int} {n k : Nat} (N : Nest op n) (hk : k ≤ n) {A R : List Blk} {b c : Blk} (h : stk op k = A ++ b :: R) (hc : c ∈ R) : b.s < c.s := by
  obtain ⟨R1, R2, rfl⟩ := List.append_of_mem hc
  obtain ⟨i', p1, p2, p3, p4, p5, _⟩ := (N.ci k hk).blk (A ++ b :: R1) c R2 (by rw [h]; simp)
  obtain ⟨i, q1, q2, _⟩ := (N.ci i' (by omega)).blk A b R1 p5
  omega
/-- Blocks do not cross. -/
theorem no_cross {op : Nat → Int} {n s s' i k : Nat} {o o' : Int} (N : Nest op n) (hi : i < n) (hC : Closed op n s o i) (hC' : Closed op n s' o' k) (h1 : s' < s) (h2 : s < k) (h3 : k < i) : False := by
  rcases (N.ci k (by omega)).opn s h2 hC.opn with ⟨b, hb, hbs⟩ | ⟨o2, e2, h4, h5⟩
  · obtain ⟨A, R, hA⟩ := List.append_of_mem hb
    obtain ⟨A', b', t1, t2⟩ := hC'.top
    rcases List.eq_nil_or_concat R with rfl | ⟨R', r, rfl⟩
    · have := (List.append_inj' (hA.symm.trans t1) rfl).2
      have e : b = b' := by simpa using this
      subst e
      omega
    · rw [List.concat_eq_append] at hA
      have q : (A ++ b :: R') ++ [r] = A' ++ [b'] := by rw [← t1, hA]; simp
      have e : r = b' := by simpa using (List.append_inj' q rfl).2
      subst e
      have := stk_asc N (by omega) hA (c := r) (by simp)
      omega
  · have := (hC.uniq h5).2
    omega
theorem dep_mono (cs : List (Int × Int)) : ∀ k j, j < k → (mst cs j).1.length ≤ dep cs k
  | 0, j, h => by omega
  | k + 1, j, h => by
    rw [dep]
    by_cases hj : j = k
    · subst hj; omega
    · have := dep_mono cs k j (by omega); omega
set_option maxRecDepth 100000 in
set_option maxHeartbeats 1000000 in
theorem nest_any (cs : List (Int × Int)) (ca : Option Addr) (cc n : Nat) (hn : cs.length = n) (bn : n ≤ 8796093022208) (x : Int) (w : World) (hc : IsAt w.cell? ca cs) :
    Calls Try.prog 7 #[.slice ca n cc, .int .i64 x] w fun e w' => e = .returned (.bool true) ∧ Below w.heap.size w w' := by
  by_cases h2 : (200 : Int) < n
  · clear hc hn
    go_enter Try.func7, Try.ntmps7
    go_wp2_with (first | (go_at_call 9; refine (knows6_any _).mono ?_; rintro e w8 ⟨rfl, b8⟩) | fail)
    go_ret
    exact ⟨rfl, b8⟩
  by_cases h0 : n = 0
  · clear hc hn bn h2
    subst h0
    go_enter Try.func7, Try.ntmps7
    go_wp2_with (first | (go_at_call 9; refine (knows6_any _).mono ?_; rintro e w8 ⟨rfl, b8⟩) | fail)
    go_ret
    exact ⟨rfl, b8⟩
  have e1 : ¬ ((n : Int) = 0) := by omega
  have hO := own6_any cs ca cc n hn bn w hc
  have HN := hid6 hn
  have HC : Hid (∀ W, Below w.heap.size w W → IsAt W.cell? ca cs) := hid6 fun W hb => ins_keep hc hb
  cases hg : goodS cs with
  | false =>
    have HM : Hid (∀ w1 a1 c1, n ≤ c1 → w1.ownsRow w.heap.size 36 2 (.slice a1 n c1) n (cellsI cs) → Calls Try.prog 11 #[.slice a1 n c1] w1 fun e w' => e = .returned (.tuple #[.slice none 0 0, .int .i64 31]) ∧ Below w1.heap.size w1 w') := hid6 (by
      intro w1 a1 c1 hc1 hr
      refine (match_is cs a1 c1 n hn hc1 (by omega) w1 (ins_row hr (Below.refl _ _))).mono ?_
      rintro e w' ⟨h1, h2⟩
      rw [if_neg (by rw [hg]; decide)] at h1
      exact ⟨h1, h2⟩)
    clear hc hn hg h0
    go_enter Try.func7, Try.ntmps7
    go_wp2_with (first
      | (go_at_call 10; refine hO.mono ?_; clear hO; rintro e w1 ⟨a1, c1, rfl, hc1, hr1, b1⟩; rw [HN.out] at hc1 hr1 ⊢; have HM1 := hid6 (HM.out w1 a1 c1 hc1 hr1); clear hr1)
      | (go_at_call 11; refine HM1.out.mono ?_; clear HM1; rintro e w2 ⟨rfl, b2⟩)
      | (go_at_call 16; refine (num6_any _ _).mono ?_; rintro e w9 ⟨rfl, w9e⟩; rw [w9e]; clear w9e)
      | (go_at_call 9; refine (knows6_any _).mono ?_; rintro e w8 ⟨rfl, b8⟩)
      | fail)
    go_ret
    exact ⟨rfl, b1.trans ((b2.mono b1.size).trans (b8.mono (Nat.le_trans b1.size b2.size)))⟩
  | true =>
    obtain ⟨q, hq, hqn⟩ := way_place x n (by omega) (by omega)
    have HM : Hid (∀ w1 a1 c1, n ≤ c1 → w1.ownsRow w.heap.size 36 2 (.slice a1 n c1) n (cellsI cs) → Calls Try.prog 11 #[.slice a1 n c1] w1 fun e w' => ∃ g, e = .returned (.tuple #[.slice (some ⟨g, 0, none⟩) n n, .int .i64 0]) ∧ NumBlk g (matchS cs) w' ∧ Below w1.heap.size w1 w') := hid6 (by
      intro w1 a1 c1 hc1 hr
      refine (match_is cs a1 c1 n hn hc1 (by omega) w1 (ins_row hr (Below.refl _ _))).mono ?_
      rintro e w' ⟨h1, h2⟩
      rw [if_pos hg, hn] at h1
      obtain ⟨g, _, he, hN⟩ := h1
      exact ⟨g, he, hN, h2⟩)
    obtain ⟨cb, co, rfl⟩ := is_some hc (by omega)
    have HG := hid6 hg
    have HO2 : Hid (∀ W, Below w.heap.size w W → Calls Try.prog 10 #[.slice (some ⟨cb, co, none⟩) n cc] W (InsEnd6 cs W)) := hid6 fun W hb => own6_any cs _ cc n hn bn W (HC.out W hb)
    clear hc hn hg h0
    go_enter Try.func7, Try.ntmps7
    go_wp2_with (first
      | (go_at_call 10; refine hO.mono ?_; clear hO; rintro e w1 ⟨a1, c1, rfl, hc1, hr1, b1⟩; rw [HN.out] at hc1 hr1 ⊢; have HM1 := hid6 (HM.out w1 a1 c1 hc1 hr1); clear hr1)
      | (go_at_call 11; refine HM1.out.mono ?_; clear HM1; rintro e w2 ⟨g, rfl, hN, b2⟩; have B2 := hid6 (b1.trans (b2.mono b1.size)); have hN := hid6 hN)
      | (go_at_call 16; refine (num6_any _ _).mono ?_; rintro e w9 ⟨rfl, w9e⟩; rw [w9e]; clear w9e)
      | fail)
    have hml : Hid ((matchS cs).length = n) := hid6 ((matchS_len cs).trans HN.out)
    have HI2 : Hid (∀ j, j < n → w2.cell? ⟨cb, co + j * 2, none⟩ = some (.int .i64 (opA cs j)) ∧ w2.cell? ⟨g, j, none⟩ = some (.int .i64 (gI (matchS cs) j))) := hid6 fun j hj => ⟨cell_op (HC.out _ B2.out) j (by rw [HN.out]; exact hj), hN.out.get (by rw [hml.out]; exact hj)⟩
    have HEn : Hid (∀ j, j < n → opA cs j = 50 → ∃ (s : Nat) (o : Int), gI (matchS cs) j = s ∧ s < j ∧ Closed (opA cs) cs.length s o j) := hid6 fun j hj ho => by
      obtain ⟨s, o, hC⟩ := (good_nest HG.out).ends (by rw [HN.out]; exact hj) ho
      exact ⟨s, o, ((match_gm HG.out).fit _ _ _ hC trivial (by rw [HN.out]; exact hj)).1, hC.lt, hC⟩
    clear HM
    go_loopw [8] (fun iv wr => ∃ i m : Nat, iv = .int .i64 i ∧ i ≤ n ∧ wr = w2.drewN m) (fun iv _ => n - (intOf iv).toNat)
    case atStart => exact ⟨0, 0, rfl, Nat.zero_le _, rfl⟩
    case round =>
      obtain ⟨i, m, rfl, hi, rfl⟩ := hrel
      by_cases hin : i < n
      · obtain ⟨c0, m0⟩ := HI2.out i hin
        by_cases h50 : opA cs i = 50
        · obtain ⟨s, o, f1, hsi, hC⟩ := HEn.out i hin h50
          have hC := hid6 hC
          rw [h50] at c0
          rw [f1] at m0
          clear f1 h50
          go_wp2
          go_loopw [9] (fun kv w5 => ∃ k m : Nat, kv = .int .i64 k ∧ k ≤ n ∧ w5 = w2.drewN m) (fun kv _ => n - (intOf kv).toNat)
          case atStart => exact ⟨0, _, rfl, Nat.zero_le _, rfl⟩
          case round =>
            obtain ⟨k, m2, rfl, hk, rfl⟩ := hrel
            by_cases hkn : k < n
            · obtain ⟨c1, m1⟩ := HI2.out k hkn
              by_cases k50 : opA cs k = 50
              · obtain ⟨s', o', f1, hsk, hC'⟩ := HEn.out k hkn k50
                rw [k50] at c1
                rw [f1] at m1
                have hcr : ¬ ((s' : Int) < s) ∨ ((s' : Int) < s ∧ ¬ (s : Int) < k) ∨ ((s' : Int) < s ∧ (s : Int) < k ∧ ¬ (k : Int) < i) := by
                  by_cases g1 : s' < s
                  · by_cases g2 : s < k
                    · by_cases g3 : k < i
                      · exact (no_cross (good_nest HG.out) (by rw [HN.out]; exact hin) hC.out hC' g1 g2 g3).elim
                      · omega
                    · omega
                  · omega
                clear f1 k50 hC'
                rcases hcr with g1 | ⟨g1, g2⟩ | ⟨g1, g2, g3⟩
                · have D1 : Hid (decide ((s' : Int) < s) = false) := hid6 (decide_eq_false g1)
                  go_wp2
                  have d1 := D1.out
                  have d1' := D1.out
                  rw [show decide ((s' : Int) < s) = decide (s' < s) by simp] at d1'
                  go_quiet (fail)
                  go_wp2
                  exact ⟨⟨k + 1, _, by go_num, by omega, rfl⟩, by simp [intOf]; omega⟩
                · have D1 : Hid (decide ((s' : Int) < s) = true) := hid6 (decide_eq_true g1)
                  have D2 : Hid (decide ((s : Int) < k) = false) := hid6 (decide_eq_false g2)
                  go_wp2
                  have d1 := D1.out
                  have d1' := D1.out
                  rw [show decide ((s' : Int) < s) = decide (s' < s) by simp] at d1'
                  have d2 := D2.out
                  have d2' := D2.out
                  rw [show decide ((s : Int) < k) = decide (s < k) by simp] at d2'
                  go_quiet (fail)
                  go_wp2
                  exact ⟨⟨k + 1, _, by go_num, by omega, rfl⟩, by simp [intOf]; omega⟩
                · have D1 : Hid (decide ((s' : Int) < s) = true) := hid6 (decide_eq_true g1)
                  have D2 : Hid (decide ((s : Int) < k) = true) := hid6 (decide_eq_true g2)
                  have D3 : Hid (decide ((k : Int) < i) = false) := hid6 (decide_eq_false g3)
                  go_wp2
                  have d1 := D1.out
                  have d1' := D1.out
                  rw [show decide ((s' : Int) < s) = decide (s' < s) by simp] at d1'
                  have d2 := D2.out
                  have d2' := D2.out
                  rw [show decide ((s : Int) < k) = decide (s < k) by simp] at d2'
                  have d3 := D3.out
                  have d3' := D3.out
                  rw [show decide ((k : Int) < i) = decide (k < i) by simp] at d3'
                  go_quiet (fail)
                  go_wp2
                  exact ⟨⟨k + 1, _, by go_num, by omega, rfl⟩, by simp [intOf]; omega⟩
              · have t1 : (opA cs k == 50) = false := by simpa using k50
                generalize opA cs k = oo at c1 t1
                clear k50
                go_wp2
                go_quiet (fail)
                go_wp2
                exact ⟨⟨k + 1, _, by go_num, by omega, rfl⟩, by simp [intOf]; omega⟩
            have hkn : k = n := by omega
            subst hkn
            go_wp2
            exact ⟨⟨i + 1, _, by go_num, by omega, rfl⟩, by simp [intOf]; omega⟩
        · have t1 : (opA cs i != 50) = true := by simpa using h50
          generalize opA cs i = oo at c0 t1
          clear h50
          go_wp2
          exact ⟨⟨i + 1, _, by go_num, by omega, rfl⟩, by simp [intOf]; omega⟩
      have hin : i = n := by omega
      subst hin
      clear HEn
      have B3 := hid6 (below_draws2 B2.out m)
      have N3 : Hid (NumBlk g (matchS cs) (w2.drewN m)) := hid6 hN.out
      clear B2 hN b2
      generalize w2.drewN m = w4 at B3 N3 ⊢
      have hF : Fit (opA cs) i (fun _ _ => True) (gI (matchS cs)) := by have := (match_gm HG.out).fit; rw [HN.out] at this; exact this
      have hNN : Nest (opA cs) i := by have := good_nest HG.out; rw [HN.out] at this; exact this
      have HNo := hid6 (fit_noted hNN hml.out hF)
      obtain ⟨L, hL⟩ : ∃ L : Nat → List Int, L = fun k => (openS (opA cs) (gI (matchS cs)) q k).map (fun (j : Nat) => (j : Int)) := ⟨_, rfl⟩
      have HLq : Hid (L q = (stk (opA cs) q).map Blk.s) := hid6 (by rw [hL]; exact open_stk hNN hF (by omega))
      have HL0 : Hid (L 0 = []) := hid6 (by rw [hL]; rfl)
      have HLl : Hid (∀ k, (L k).length ≤ k) := hid6 (by
        intro k
        rw [hL]
        simp only [List.length_map]
        induction k with
        | zero => exact Nat.zero_le _
        | succ k ih =>
          rw [openS]
          split
          · rw [List.length_append]; exact Nat.succ_le_succ ih
          · omega)
      have HL1 : Hid (∀ k, Opn (opA cs) k → (q : Int) ≤ lastS (opA cs) (gI (matchS cs)) k → L (k + 1) = L k ++ [(k : Int)]) := hid6 fun k a b => by
        rw [hL]
        simp only [openS, if_pos (And.intro a b), List.map_append, List.map_cons, List.map_nil]
      have HL2 : Hid (∀ k, ¬ (Opn (opA cs) k ∧ (q : Int) ≤ lastS (opA cs) (gI (matchS cs)) k) → L (k + 1) = L k) := hid6 fun k a => by
        rw [hL]
        simp only [openS, if_neg a]
      clear hL hF hNN HI2
      go_wp2
      have HF : Hid (∀ W, Below w4.heap.size w4 W → ∀ j, j < i → W.cell? ⟨cb, co + j * 2, none⟩ = some (.int .i64 (opA cs j)) ∧ W.cell? ⟨g, j, none⟩ = some (.int .i64 (gI (matchS cs) j))) := hid6 fun W hb j hj => ⟨cell_op (HC.out _ (B3.out.trans (hb.mono B3.out.size))) j (by rw [HN.out]; exact hj), (N3.out.keep hb).get (by rw [hml.out]; exact hj)⟩
      go_loopw [7, 10] (fun v kv wr => ∃ k : Nat, kv = .int .i64 k ∧ k ≤ q ∧ Hid (wr.ownsRow w4.heap.size 3 1 v (L k).length (cellsN (L k))) ∧ Below w4.heap.size w4 wr) (fun _ kv _ => q - (intOf kv).toNat)
      case atStart => exact ⟨0, rfl, Nat.zero_le _, hid6 (by rw [HL0.out]; exact World.ownsRow_nil _ _ _ _), Below.refl _ _⟩
      case round =>
        obtain ⟨k, rfl, hk, hr, hb⟩ := hrel
        obtain ⟨av, ac, e0, _⟩ := row_form hr.out
        subst e0
        by_cases hkq : k < q
        · obtain ⟨c0, m0⟩ := HF.out _ hb k (by omega)
          have hkl := HLl.out k
          by_cases ho : Opn (opA cs) k
          · obtain ⟨r0, r1⟩ := HNo.out.rng k (by omega) ho
            obtain ⟨y, hy⟩ : ∃ y : Nat, gI (matchS cs) k = y := ⟨(gI (matchS cs) k).toNat, by omega⟩
            have hyn : y < i := by omega
            obtain ⟨c1, m1⟩ := HF.out _ hb y hyn
            have hlast : lastS (opA cs) (gI (matchS cs)) k = if opA cs y = 49 then gI (matchS cs) y else (y : Int) := by
              unfold lastS
              simp only [hy, Int.toNat_natCast]
            have HL1' := hid6 (HL1.out k ho)
            have HL2' := hid6 (HL2.out k)
            rw [hlast] at HL1' HL2'
            rw [hy] at m0
            have hcase : (opA cs k = 48 ∨ opA cs k = 51) := ho
            clear hlast r0 r1 hy
            generalize opA cs k = oo at c0 hcase
            generalize hz : (if opA cs y = 49 then gI (matchS cs) y else (y : Int)) = z at HL1' HL2'
            have hz49 : opA cs y = 49 ∧ gI (matchS cs) y = z ∨ ¬ opA cs y = 49 ∧ z = y := by
              by_cases h : opA cs y = 49
              · rw [if_pos h] at hz; exact .inl ⟨h, hz⟩
              · rw [if_neg h] at hz; exact .inr ⟨h, hz.symm⟩
            clear hz
            generalize gI (matchS cs) y = yy at m1 hz49
            generalize opA cs y = o2 at c1 hz49
            by_cases hix : (q : Int) ≤ z
            · have HE : Hid (L (k + 1) = L k ++ [(k : Int)]) := hid6 (HL1'.out hix)
              clear HL1' HL2'
              have b1 := hid6 (hb.alloc hb.size (.cells #[.int .i64 (k : Int)] 3))
              have r1 := hid6 (World.ownsRow.alloc hr.out (.cells #[.int .i64 (k : Int)] 3))
              have hbs := hb.size
              rcases hz49 with ⟨rfl, rfl⟩ | ⟨h49, rfl⟩
              all_goals rcases hcase with rfl | rfl
              all_goals
                go_wp2_with (first
                  | (at_builtin; refine wpList_appN _ rfl _ _ 25 rfl elemN_int w4.heap.size _ (L k).length (cellsN (L k)) rfl r1.out _ rfl 1 [.int .i64 (k : Int)] (.inr ⟨⟨_, 0, none⟩, 1, rfl, cells_new6 _ [.int .i64 (k : Int)] 3 _ rfl⟩) rfl (by simp [Value.oneCell']) (by unfold maxLen; omega) (by omega) (by simp; omega) ?_; intro v' w6 hr6 hs6)
                  | fail)
                refine ⟨⟨k + 1, by go_num, by omega, hid6 ?_, b1.out.trans (hs6.below (by simp; omega) fun g e => (r1.out.lt g e).1)⟩, by simp [intOf]; omega⟩
                rw [HE.out, List.length_append, show cellsN (L k ++ [(k : Int)]) = cellsN (L k) ++ [.int .i64 (k : Int)] by simp [cellsN]]
                exact hr6
            · have HE : Hid (L (k + 1) = L k) := hid6 (HL2'.out fun h => hix h.2)
              clear HL1' HL2'
              rcases hz49 with ⟨rfl, rfl⟩ | ⟨h49, rfl⟩
              all_goals rcases hcase with rfl | rfl
              all_goals
                go_wp2
                refine ⟨⟨k + 1, by go_num, by omega, hid6 ?_, hb⟩, by simp [intOf]; omega⟩
                rw [HE.out]
                exact hr.out
          · have HE : Hid (L (k + 1) = L k) := hid6 (HL2.out k fun h => ho h.1)
            have o1 : (opA cs k != 48) = true := by
              have : ¬ opA cs k = 48 := fun h => ho (.inl h)
              simpa using this
            have o2 : (opA cs k != 51) = true := by
              have : ¬ opA cs k = 51 := fun h => ho (.inr h)
              simpa using this
            clear ho
            generalize opA cs k = o at c0 o1 o2
            go_wp2
            refine ⟨⟨k + 1, by go_num, by omega, hid6 ?_, hb⟩, by simp [intOf]; omega⟩
            rw [HE.out]
            exact hr.out
        have hkq : k = q := by omega
        subst hkq
        have B5 := hid6 (B3.out.trans (hb.mono B3.out.size))
        have NL : Hid (NsAt wr.cell? av (L k)) := hid6 (by
          obtain ⟨_, a9, c9, e9, _, h9⟩ := ns_of_row hr.out (C := wr.cell?) (fun _ _ _ h => h)
          cases e9
          exact h9)
        have hdl : (L k).length ≤ dep cs i := by
          have := dep_mono cs i k hqn
          rw [mst_stk] at this
          rw [HLq.out, List.length_map]; exact this
        have hdn : dep cs i ≤ i := by have := (docD_dep cs i).1; have := docD_le (opA cs) i; omega
        have MD : Hid (∀ W a c, i ≤ c → IsAt W.cell? a cs → Calls Try.prog 13 #[.slice a i c] W fun e w' => e = .returned (.tuple #[.int .i64 (dep cs i : Nat), .int .i64 0]) ∧ Below W.heap.size W w') := hid6 fun W a c h1 h2 => (depth_is cs a c i HN.out h1 (by omega) W h2).mono fun e w' ⟨h3, h4⟩ => ⟨by rw [h3, if_pos HG.out, HN.out], h4⟩
        have MA : Hid (∀ W a c, i ≤ c → IsAt W.cell? a cs → Calls Try.prog 17 #[.slice a i c, .int .i64 k] W fun e w' => ∃ a c, e = .returned (.slice a (L k).length c) ∧ NsAt w'.cell? a (L k) ∧ Below W.heap.size W w') := hid6 fun W a c h1 h2 => (around_is cs k a c i HN.out h1 (by omega) W h2).mono fun e w' ⟨a', c', h3, h4, h5⟩ => by
          have e1 : (if goodS cs = true then arS cs k cs.length else []) = L k := by
            rw [if_pos HG.out, arS, if_pos (by rw [HN.out]; omega), Int.toNat_natCast, mst_stk, HLq.out]
          rw [e1] at h3 h4
          exact ⟨a', c', h3, h4, h5⟩
        have MI5 : Hid (∀ W a b c d, NsAt W.cell? a (L k) → NsAt W.cell? b (L k) → Calls Try.prog 15 #[.slice a (L k).length c, .slice b (L k).length d] W fun e w' => e = .returned (.bool true) ∧ Below W.heap.size W w') := hid6 fun W a b c d h1 h2 => lints_same a b _ _ _ (L k) rfl (by omega) W h1 h2
        clear HL1 HL2 HL0 HLl HLq hr HF HNo
        generalize dep cs i = dv at hdl hdn MD
        generalize L k = ms at NL hdl MA MI5 ⊢
        obtain ⟨l, hl⟩ : ∃ l, l = ms.length := ⟨_, rfl⟩
        rw [← hl] at hdl MA MI5 ⊢
        clear hl
        have O1 := hid6 (HO2.out _ B5.out)
        go_wp2_with (first
          | (go_at_call 10; first
            | (refine O1.out.mono ?_; clear O1; rintro e w5 ⟨a5, c5, rfl, hc5, hr5, b5⟩; rw [HN.out] at hc5 hr5 ⊢; have X5 := hid6 (MD.out w5 a5 c5 hc5 (ins_row hr5 (Below.refl _ _))); clear hr5 MD; have B6 := hid6 (B5.out.trans (b5.mono B5.out.size)); have N6 := hid6 (ns_keep NL.out b5); clear NL)
            | (refine O2.out.mono ?_; clear O2; rintro e w7 ⟨a7, c7, rfl, hc7, hr7, b7⟩; rw [HN.out] at hc7 hr7 ⊢; have X7 := hid6 (MA.out w7 a7 c7 hc7 (ins_row hr7 (Below.refl _ _))); clear hr7 MA; have B8 := hid6 (B7.out.trans (b7.mono B7.out.size)); have N8 := hid6 (ns_keep N7.out b7); clear N7))
          | (go_at_call 13; refine X5.out.mono ?_; clear X5; rintro e w6 ⟨rfl, b6⟩; have B7 := hid6 (B6.out.trans (b6.mono B6.out.size)); have N7 := hid6 (ns_keep N6.out b6); have O2 := hid6 (HO2.out _ B7.out); clear N6)
          | (go_at_call 17; refine X7.out.mono ?_; clear X7; rintro e w8 ⟨a8, c8, rfl, s8, b8⟩; have B9 := hid6 (B8.out.trans (b8.mono B8.out.size)); have X9 := hid6 (MI5.out w8 a8 av c8 ac s8 (ns_keep N8.out b8)); clear MI5)
          | (go_at_call 15; refine X9.out.mono ?_; clear X9; rintro e w9 ⟨rfl, b9⟩; have B10 := hid6 (B9.out.trans (b9.mono B9.out.size)))
          | (go_at_call 16; refine (num6_any _ _).mono ?_; rintro e w99 ⟨rfl, w9e⟩; rw [w9e]; clear w9e)
          | (go_at_call 9; refine (knows6_any _).mono ?_; rintro e w10 ⟨rfl, b10⟩)
          | fail)
        go_ret
        exact ⟨rfl, B10.out.trans (b10.mono B10.out.size)⟩
end Go.Proofs.Ytnlcokcpcfbdaaa
