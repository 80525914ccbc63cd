/- The law ShapePairs. -/
import Derived.Test.YtnlcokcpcfbdaaaSX
import Derived.Test.YtnlcokcpcfbdaaaLWays
namespace Go.Proofs.Ytnlcokcpcfbdaaa
open Go.RowKit
set_option maxRecDepth 100000 in
set_option maxHeartbeats 1000000 in
theorem pairs_any (cs : List (Int × Int)) (ca : Option Addr) (cc n : Nat) (hn : cs.length = n) (bn : n ≤ 8796093022208) (w : World) (hc : IsAt w.cell? ca cs) :
    Calls Try.prog 6 #[.slice ca n cc] w fun e w' => e = .returned (.bool true) ∧ Below w.heap.size w w' := by
  by_cases h2 : (200 : Int) < n
  · clear hc hn
    go_enter Try.func6, Try.ntmps6
    go_wp2_with (first | (go_at_call 9; refine (knows6_any _).mono ?_; rintro e w8 ⟨rfl, b8⟩) | fail)
    go_ret
    exact ⟨rfl, b8⟩
  have hO := own6_any cs ca cc n hn bn w hc
  have HN := hid6 hn
  have HC : Hid (∀ W, Below w.heap.size w W → IsAt W.cell? ca cs) := hid6 fun W hb => hc.keep fun a v h => (hb.cell (World.block_lt_of_cell? w a h)).trans h
  cases hg : goodS cs with
  | false =>
    have HM : Hid (∀ w1 a1 c1, n ≤ c1 → w1.ownsRow w.heap.size 36 2 (.slice a1 n c1) n (cellsI cs) → Calls Try.prog 11 #[.slice a1 n c1] w1 fun e w' => e = .returned (.tuple #[.slice none 0 0, .int .i64 31]) ∧ Below w1.heap.size w1 w') := hid6 (by
      intro w1 a1 c1 hc1 hr
      refine (match_is cs a1 c1 n hn hc1 (by omega) w1 (ins_row hr (Below.refl _ _))).mono ?_
      rintro e w' ⟨h1, h2⟩
      rw [if_neg (by rw [hg]; decide)] at h1
      exact ⟨h1, h2⟩)
    clear hc hn hg
    go_enter Try.func6, Try.ntmps6
    go_wp2_with (first
      | (go_at_call 10; refine hO.mono ?_; clear hO; rintro e w1 ⟨a1, c1, rfl, hc1, hr1, b1⟩; rw [HN.out] at hc1 hr1 ⊢; have HM1 := hid6 (HM.out w1 a1 c1 hc1 hr1); clear hr1)
      | (go_at_call 11; refine HM1.out.mono ?_; clear HM1; rintro e w2 ⟨rfl, b2⟩)
      | (go_at_call 16; refine (num6_any _ _).mono ?_; rintro e w9 ⟨rfl, w9e⟩; rw [w9e]; clear w9e)
      | (go_at_call 9; refine (knows6_any _).mono ?_; rintro e w8 ⟨rfl, b8⟩)
      | fail)
    go_ret
    exact ⟨rfl, b1.trans ((b2.mono b1.size).trans (b8.mono (Nat.le_trans b1.size b2.size)))⟩
  | true =>
    have HM : Hid (∀ w1 a1 c1, n ≤ c1 → w1.ownsRow w.heap.size 36 2 (.slice a1 n c1) n (cellsI cs) → Calls Try.prog 11 #[.slice a1 n c1] w1 fun e w' => ∃ g, e = .returned (.tuple #[.slice (some ⟨g, 0, none⟩) n n, .int .i64 0]) ∧ NumBlk g (matchS cs) w' ∧ Below w1.heap.size w1 w') := hid6 (by
      intro w1 a1 c1 hc1 hr
      refine (match_is cs a1 c1 n hn hc1 (by omega) w1 (ins_row hr (Below.refl _ _))).mono ?_
      rintro e w' ⟨h1, h2⟩
      rw [if_pos hg, hn] at h1
      obtain ⟨g, _, he, hN⟩ := h1
      exact ⟨g, he, hN, h2⟩)
    have HG := hid6 hg
    clear hc hn hg
    go_enter Try.func6, Try.ntmps6
    go_wp2_with (first
      | (go_at_call 10; refine hO.mono ?_; clear hO; rintro e w1 ⟨a1, c1, rfl, hc1, hr1, b1⟩; rw [HN.out] at hc1 hr1 ⊢; have HM1 := hid6 (HM.out w1 a1 c1 hc1 hr1); clear hr1)
      | (go_at_call 11; refine HM1.out.mono ?_; clear HM1; rintro e w2 ⟨g, rfl, hN, b2⟩; have B2 := hid6 (b1.trans (b2.mono b1.size)); have hN := hid6 hN)
      | (go_at_call 16; refine (num6_any _ _).mono ?_; rintro e w9 ⟨rfl, w9e⟩; rw [w9e]; clear w9e)
      | fail)
    have HF : Hid (∀ W, Below w2.heap.size w2 W → IsAt W.cell? ca cs ∧ NumBlk g (matchS cs) W) := hid6 fun W hb => ⟨HC.out W (B2.out.trans (hb.mono B2.out.size)), hN.out.keep hb⟩
    clear HM hN
    go_loopw [5] (fun iv wr => ∃ i : Nat, iv = .int .i64 i ∧ i ≤ n ∧ Below w2.heap.size w2 wr) (fun iv _ => n - (intOf iv).toNat)
    case atStart => exact ⟨0, rfl, Nat.zero_le _, Below.refl _ _⟩
    case round =>
      obtain ⟨i, rfl, hi, bi⟩ := hrel
      by_cases hin : i < n
      · obtain ⟨hI, hNb⟩ := HF.out _ bi
        obtain ⟨cb, co, rfl⟩ := is_some hI (by rw [HN.out]; omega)
        have hml := (matchS_len cs).trans HN.out
        have c0 := cell_op hI i (by rw [HN.out]; exact hin)
        have m0 := hNb.get (j := i) (by rw [hml]; exact hin)
        by_cases h52 : opA cs i = 52
        · obtain ⟨e, e1, e2, e3, e4⟩ := pair_leave HG.out (by rw [HN.out]; exact hin) h52
          have c1 := cell_op hI e e3
          rw [HN.out] at e3
          rw [h52] at c0
          rw [e1] at m0
          rw [e4] at c1
          have t1 : ¬ ((e : Int) < -1) := by omega
          have t2 : ¬ ((n : Int) ≤ e) := by omega
          have t4 : ¬ ((e : Int) ≤ i) := by omega
          clear hI hNb h52 e1 e4 hml
          go_wp2
          exact ⟨⟨i + 1, by go_num, by omega, bi⟩, by simp [intOf]; omega⟩
        by_cases h50 : opA cs i = 50
        · obtain ⟨s, o, hC⟩ := (good_nest HG.out).ends (by rw [HN.out]; exact hin : i < cs.length) h50
          have hF := (match_gm HG.out).fit _ _ _ hC trivial (by rw [HN.out]; exact hin)
          have f1 : gI (matchS cs) i = s := hF.1
          have f2 : gI (matchS cs) s = if o = -1 then (i : Int) else o := hF.2.1
          have f3 : ∀ x : Nat, o = x → gI (matchS cs) x = i := hF.2.2
          have hsi := hC.lt
          have HGi : Hid (∀ f, ((o = -1 ∧ f = s + 1) ∨ ∃ x : Nat, o = x ∧ f = x + 1) → goodS (inS cs f i) = true) := hid6 fun f hf => between_good HG.out (by rw [HN.out]; exact hin) hC hf
          have HMi : Hid (∀ f W a c l, goodS (inS cs f i) = true → (inS cs f i).length = l → l ≤ c → IsAt W.cell? a (inS cs f i) → Calls Try.prog 11 #[.slice a l c] W fun e w' => ∃ v, e = .returned (.tuple #[v, .int .i64 0]) ∧ Below W.heap.size W w') := hid6 fun f W a c l h1 h2 h3 h4 => (match_is (inS cs f i) a c l h2 h3 (by have := inS_len cs f i; omega) W h4).mono fun e w' ⟨q1, q2⟩ => by
            rw [if_pos h1] at q1
            obtain ⟨g', _, he, _⟩ := q1
            exact ⟨_, he, q2⟩
          have HIn : Hid (∀ f k, f ≤ k → k < n → (opA cs k = 52 → inS cs f (k + 1) = inS cs f k) ∧ (¬ opA cs k = 52 → ∀ A, cs[k]? = some A → inS cs f (k + 1) = inS cs f k ++ [A])) := hid6 fun f k h1 h2 => by
            have hkl : k < cs.length := by rw [HN.out]; exact h2
            have e := inS_next (cs := cs) h1 hkl
            have hop : opA cs k = cs[k].1 := ops_at hkl
            rw [← hop] at e
            refine ⟨fun h => by rw [e, if_pos h], fun h A hA => ?_⟩
            rw [e, if_neg h]
            rw [List.getElem?_eq_getElem hkl] at hA
            rw [Option.some.inj hA]
          have HCell : Hid (∀ W k, Below w2.heap.size w2 W → k < n → ∃ A, cs[k]? = some A ∧ A.1 = opA cs k ∧ W.cell? ⟨cb, co + k * 2, none⟩ = some (.int .i64 A.1) ∧ W.cell? ⟨cb, co + k * 2 + 1, none⟩ = some (.int .i64 A.2)) := hid6 fun W k hb hk => by
            have hkl : k < cs.length := by rw [HN.out]; exact hk
            rcases (HF.out W hb).1 with h0 | ⟨b', o', e', h'⟩
            · rw [h0] at hkl; cases hkl
            · cases e'
              exact ⟨cs[k], List.getElem?_eq_getElem hkl, (ops_at hkl).symm, h' k hkl⟩
          have c1 := cell_op hI s (by rw [HN.out]; omega)
          have m1 := hNb.get (j := s) (by rw [hml]; omega)
          rw [h50] at c0
          rw [f1] at m0
          rw [f2] at m1
          have hcase : (o = -1 ∧ opA cs s = 48) ∨ (o = -1 ∧ opA cs s = 51) ∨ ∃ x : Nat, o = x ∧ s < x ∧ x < i ∧ opA cs x = 49 ∧ opA cs s = 48 := by
            rcases hC.els with c | ⟨x, x1, x2, x3, x4, _, x5⟩
            · rcases hC.opn with d | d
              · exact .inl ⟨c, d⟩
              · exact .inr (.inl ⟨c, d⟩)
            · exact .inr (.inr ⟨x, x1, x2, x3, x4, x5⟩)
          clear hF f1 f2 hC h50 h52
          rcases hcase with ⟨rfl, q1⟩ | ⟨rfl, q1⟩ | ⟨x, rfl, x2, x3, x4, q1⟩
          · rw [q1] at c1
            rw [if_pos rfl] at m1
            have HGi2 := hid6 (HGi.out (s + 1) (.inl ⟨rfl, rfl⟩))
            have t1 : ¬ ((s : Int) < -1) := by omega
            have t2 : ¬ ((n : Int) ≤ s) := by omega
            have t3 : ¬ ((s : Int) < 0) := by omega
            have t4 : ¬ ((i : Int) ≤ s) := by omega
            clear HGi f3 q1 hI hNb hml
            go_wp2
            have bi1 := hid6 bi
            have hwr : Hid (w2.heap.size ≤ wr.heap.size) := hid6 bi.size
            obtain ⟨w3, hw3⟩ : ∃ w3, w3 = wr := ⟨_, rfl⟩
            rw [← hw3] at bi1 hwr ⊢
            clear bi c0 m0 c1 m1 hw3
            go_loopw [9, 10] (fun v kv wr => ∃ k : Nat, kv = .int .i64 k ∧ s + 1 ≤ k ∧ k ≤ i ∧ Hid (wr.ownsRow w3.heap.size 36 2 v (inS cs (s + 1) k).length (cellsI (inS cs (s + 1) k))) ∧ Below w3.heap.size w3 wr) (fun _ kv _ => i - (intOf kv).toNat)
            case atStart => exact ⟨s + 1, by go_num, Nat.le_refl _, by omega, hid6 (by rw [inS_start]; exact World.ownsRow_nil _ _ _ _), Below.refl _ _⟩
            case round =>
              obtain ⟨k, rfl, hk1, hk2, hrow, hb⟩ := hrel
              obtain ⟨av, ac, e0, hac, _⟩ := row_form hrow.out
              subst e0
              have B4 := hid6 (bi1.out.trans (hb.mono hwr.out))
              by_cases hki : k < i
              · obtain ⟨A, hA1, hA2, hA3, hA4⟩ := HCell.out _ k B4.out (by omega)
                obtain ⟨q4, q5⟩ := HIn.out (s + 1) k hk1 (by omega)
                have hil := inS_len cs (s + 1) k
                rw [← hA2] at q4 q5
                obtain ⟨A1, A2⟩ := A
                simp only at hA2 hA3 hA4 q4 q5
                have Q4 := hid6 q4
                have Q5 := hid6 fun h => q5 h _ hA1
                clear hA1 hA2 q4 q5
                by_cases h52 : A1 = 52
                · subst h52
                  go_wp2
                  exact ⟨⟨k + 1, by go_num, by omega, by omega, hid6 (by rw [Q4.out rfl]; exact hrow.out), hb⟩, by simp [intOf]; omega⟩
                · have r1 := hid6 (World.ownsRow.alloc hrow.out (.cells #[.int .i64 A1, .int .i64 A2] 36))
                  have hbs := hb.size
                  have hb1 := hid6 (hb.alloc hb.size (.cells #[.int .i64 A1, .int .i64 A2] 36))
                  go_wp2_with (first
                    | (at_builtin; refine wpList_appN _ rfl _ _ 22 rfl elemN_ins w3.heap.size _ (inS cs (s + 1) k).length (cellsI (inS cs (s + 1) k)) rfl r1.out _ rfl 1 [.int .i64 A1, .int .i64 A2] (.inr ⟨⟨_, 0, none⟩, 1, rfl, cells_new6 _ [.int .i64 A1, .int .i64 A2] 36 _ rfl⟩) rfl (by simp [Value.oneCell']) (by unfold maxLen; omega) (by omega) (by simp; omega) ?_; intro v' w6 hr6 hs6)
                    | fail)
                  refine ⟨⟨k + 1, by go_num, by omega, by omega, hid6 ?_, hb1.out.trans (hs6.below (by simp; omega) fun g e => (r1.out.lt g e).1)⟩, by simp [intOf]; omega⟩
                  rw [Q5.out h52, List.length_append, show cellsI (inS cs (s + 1) k ++ [(A1, A2)]) = cellsI (inS cs (s + 1) k) ++ [.int .i64 A1, .int .i64 A2] by simp [cellsI]]
                  exact hr6
              · have hki : k = i := by omega
                subst hki
                have hMt := hid6 (HMi.out (s + 1) _ av ac _ HGi2.out rfl hac (ins_row hrow.out (Below.refl _ _)))
                have hil := inS_len cs (s + 1) k
                generalize (inS cs (s + 1) k).length = l at hMt hrow hac hil
                clear hrow
                go_wp2_with (first
                  | (go_at_call 11; refine hMt.out.mono ?_; clear hMt; rintro e w5 ⟨v5, rfl, b5⟩)
                  | (go_at_call 16; refine (num6_any _ _).mono ?_; rintro e w9 ⟨rfl, w9e⟩; rw [w9e]; clear w9e)
                  | fail)
                exact ⟨⟨k + 1, by go_num, by omega, B4.out.trans (b5.mono B4.out.size)⟩, by simp [intOf]; omega⟩
          · rw [q1] at c1
            rw [if_pos rfl] at m1
            have HGi2 := hid6 (HGi.out (s + 1) (.inl ⟨rfl, rfl⟩))
            have t1 : ¬ ((s : Int) < -1) := by omega
            have t2 : ¬ ((n : Int) ≤ s) := by omega
            have t3 : ¬ ((s : Int) < 0) := by omega
            have t4 : ¬ ((i : Int) ≤ s) := by omega
            clear HGi f3 q1 hI hNb hml
            go_wp2
            have bi1 := hid6 bi
            have hwr : Hid (w2.heap.size ≤ wr.heap.size) := hid6 bi.size
            obtain ⟨w3, hw3⟩ : ∃ w3, w3 = wr := ⟨_, rfl⟩
            rw [← hw3] at bi1 hwr ⊢
            clear bi c0 m0 c1 m1 hw3
            go_loopw [9, 10] (fun v kv wr => ∃ k : Nat, kv = .int .i64 k ∧ s + 1 ≤ k ∧ k ≤ i ∧ Hid (wr.ownsRow w3.heap.size 36 2 v (inS cs (s + 1) k).length (cellsI (inS cs (s + 1) k))) ∧ Below w3.heap.size w3 wr) (fun _ kv _ => i - (intOf kv).toNat)
            case atStart => exact ⟨s + 1, by go_num, Nat.le_refl _, by omega, hid6 (by rw [inS_start]; exact World.ownsRow_nil _ _ _ _), Below.refl _ _⟩
            case round =>
              obtain ⟨k, rfl, hk1, hk2, hrow, hb⟩ := hrel
              obtain ⟨av, ac, e0, hac, _⟩ := row_form hrow.out
              subst e0
              have B4 := hid6 (bi1.out.trans (hb.mono hwr.out))
              by_cases hki : k < i
              · obtain ⟨A, hA1, hA2, hA3, hA4⟩ := HCell.out _ k B4.out (by omega)
                obtain ⟨q4, q5⟩ := HIn.out (s + 1) k hk1 (by omega)
                have hil := inS_len cs (s + 1) k
                rw [← hA2] at q4 q5
                obtain ⟨A1, A2⟩ := A
                simp only at hA2 hA3 hA4 q4 q5
                have Q4 := hid6 q4
                have Q5 := hid6 fun h => q5 h _ hA1
                clear hA1 hA2 q4 q5
                by_cases h52 : A1 = 52
                · subst h52
                  go_wp2
                  exact ⟨⟨k + 1, by go_num, by omega, by omega, hid6 (by rw [Q4.out rfl]; exact hrow.out), hb⟩, by simp [intOf]; omega⟩
                · have r1 := hid6 (World.ownsRow.alloc hrow.out (.cells #[.int .i64 A1, .int .i64 A2] 36))
                  have hbs := hb.size
                  have hb1 := hid6 (hb.alloc hb.size (.cells #[.int .i64 A1, .int .i64 A2] 36))
                  go_wp2_with (first
                    | (at_builtin; refine wpList_appN _ rfl _ _ 22 rfl elemN_ins w3.heap.size _ (inS cs (s + 1) k).length (cellsI (inS cs (s + 1) k)) rfl r1.out _ rfl 1 [.int .i64 A1, .int .i64 A2] (.inr ⟨⟨_, 0, none⟩, 1, rfl, cells_new6 _ [.int .i64 A1, .int .i64 A2] 36 _ rfl⟩) rfl (by simp [Value.oneCell']) (by unfold maxLen; omega) (by omega) (by simp; omega) ?_; intro v' w6 hr6 hs6)
                    | fail)
                  refine ⟨⟨k + 1, by go_num, by omega, by omega, hid6 ?_, hb1.out.trans (hs6.below (by simp; omega) fun g e => (r1.out.lt g e).1)⟩, by simp [intOf]; omega⟩
                  rw [Q5.out h52, List.length_append, show cellsI (inS cs (s + 1) k ++ [(A1, A2)]) = cellsI (inS cs (s + 1) k) ++ [.int .i64 A1, .int .i64 A2] by simp [cellsI]]
                  exact hr6
              · have hki : k = i := by omega
                subst hki
                have hMt := hid6 (HMi.out (s + 1) _ av ac _ HGi2.out rfl hac (ins_row hrow.out (Below.refl _ _)))
                have hil := inS_len cs (s + 1) k
                generalize (inS cs (s + 1) k).length = l at hMt hrow hac hil
                clear hrow
                go_wp2_with (first
                  | (go_at_call 11; refine hMt.out.mono ?_; clear hMt; rintro e w5 ⟨v5, rfl, b5⟩)
                  | (go_at_call 16; refine (num6_any _ _).mono ?_; rintro e w9 ⟨rfl, w9e⟩; rw [w9e]; clear w9e)
                  | fail)
                exact ⟨⟨k + 1, by go_num, by omega, B4.out.trans (b5.mono B4.out.size)⟩, by simp [intOf]; omega⟩
          · rw [q1] at c1
            rw [if_neg (by omega)] at m1
            have c2 := cell_op hI x (by rw [HN.out]; omega)
            have m2 := hNb.get (j := x) (by rw [hml]; omega)
            rw [x4] at c2
            rw [f3 x rfl] at m2
            have HGi2 := hid6 (HGi.out (x + 1) (.inr ⟨x, rfl, rfl⟩))
            have t1 : ¬ ((s : Int) < -1) := by omega
            have t2 : ¬ ((n : Int) ≤ s) := by omega
            have t3 : ¬ ((s : Int) < 0) := by omega
            have t4 : ¬ ((i : Int) ≤ s) := by omega
            have t5 : ((x : Int) == (i : Int)) = false := by simp; omega
            have t6 : ((x : Int) != (i : Int)) = true := by simp; omega
            clear HGi f3 q1 hI hNb hml x4
            go_wp2
            have bi1 := hid6 bi
            have hwr : Hid (w2.heap.size ≤ wr.heap.size) := hid6 bi.size
            obtain ⟨w3, hw3⟩ : ∃ w3, w3 = wr := ⟨_, rfl⟩
            rw [← hw3] at bi1 hwr ⊢
            clear bi c0 m0 c1 m1 c2 m2 hw3
            go_loopw [9, 10] (fun v kv wr => ∃ k : Nat, kv = .int .i64 k ∧ x + 1 ≤ k ∧ k ≤ i ∧ Hid (wr.ownsRow w3.heap.size 36 2 v (inS cs (x + 1) k).length (cellsI (inS cs (x + 1) k))) ∧ Below w3.heap.size w3 wr) (fun _ kv _ => i - (intOf kv).toNat)
            case atStart => exact ⟨x + 1, by go_num, Nat.le_refl _, by omega, hid6 (by rw [inS_start]; exact World.ownsRow_nil _ _ _ _), Below.refl _ _⟩
            case round =>
              obtain ⟨k, rfl, hk1, hk2, hrow, hb⟩ := hrel
              obtain ⟨av, ac, e0, hac, _⟩ := row_form hrow.out
              subst e0
              have B4 := hid6 (bi1.out.trans (hb.mono hwr.out))
              by_cases hki : k < i
              · obtain ⟨A, hA1, hA2, hA3, hA4⟩ := HCell.out _ k B4.out (by omega)
                obtain ⟨q4, q5⟩ := HIn.out (x + 1) k hk1 (by omega)
                have hil := inS_len cs (x + 1) k
                rw [← hA2] at q4 q5
                obtain ⟨A1, A2⟩ := A
                simp only at hA2 hA3 hA4 q4 q5
                have Q4 := hid6 q4
                have Q5 := hid6 fun h => q5 h _ hA1
                clear hA1 hA2 q4 q5
                by_cases h52 : A1 = 52
                · subst h52
                  go_wp2
                  exact ⟨⟨k + 1, by go_num, by omega, by omega, hid6 (by rw [Q4.out rfl]; exact hrow.out), hb⟩, by simp [intOf]; omega⟩
                · have r1 := hid6 (World.ownsRow.alloc hrow.out (.cells #[.int .i64 A1, .int .i64 A2] 36))
                  have hbs := hb.size
                  have hb1 := hid6 (hb.alloc hb.size (.cells #[.int .i64 A1, .int .i64 A2] 36))
                  go_wp2_with (first
                    | (at_builtin; refine wpList_appN _ rfl _ _ 22 rfl elemN_ins w3.heap.size _ (inS cs (x + 1) k).length (cellsI (inS cs (x + 1) k)) rfl r1.out _ rfl 1 [.int .i64 A1, .int .i64 A2] (.inr ⟨⟨_, 0, none⟩, 1, rfl, cells_new6 _ [.int .i64 A1, .int .i64 A2] 36 _ rfl⟩) rfl (by simp [Value.oneCell']) (by unfold maxLen; omega) (by omega) (by simp; omega) ?_; intro v' w6 hr6 hs6)
                    | fail)
                  refine ⟨⟨k + 1, by go_num, by omega, by omega, hid6 ?_, hb1.out.trans (hs6.below (by simp; omega) fun g e => (r1.out.lt g e).1)⟩, by simp [intOf]; omega⟩
                  rw [Q5.out h52, List.length_append, show cellsI (inS cs (x + 1) k ++ [(A1, A2)]) = cellsI (inS cs (x + 1) k) ++ [.int .i64 A1, .int .i64 A2] by simp [cellsI]]
                  exact hr6
              · have hki : k = i := by omega
                subst hki
                have hMt := hid6 (HMi.out (x + 1) _ av ac _ HGi2.out rfl hac (ins_row hrow.out (Below.refl _ _)))
                have hil := inS_len cs (x + 1) k
                generalize (inS cs (x + 1) k).length = l at hMt hrow hac hil
                clear hrow
                go_wp2_with (first
                  | (go_at_call 11; refine hMt.out.mono ?_; clear hMt; rintro e w5 ⟨v5, rfl, b5⟩)
                  | (go_at_call 16; refine (num6_any _ _).mono ?_; rintro e w9 ⟨rfl, w9e⟩; rw [w9e]; clear w9e)
                  | fail)
                exact ⟨⟨k + 1, by go_num, by omega, B4.out.trans (b5.mono B4.out.size)⟩, by simp [intOf]; omega⟩
        · have hr := pair_rng HG.out (j := i) (by rw [HN.out]; exact hin)
          rw [HN.out] at hr
          obtain ⟨r1, r2⟩ := hr
          generalize gI (matchS cs) i = y at m0 r1 r2
          have t3 : (opA cs i == 52) = false := by simpa using h52
          have t4 : (opA cs i != 50) = true := by simpa using h50
          have t1 : ¬ (y < -1) := by omega
          have t2 : ¬ ((n : Int) ≤ y) := by omega
          generalize opA cs i = oo at c0 t3 t4
          clear hI hNb hml h52 h50
          go_wp2
          exact ⟨⟨i + 1, by go_num, by omega, bi⟩, by simp [intOf]; omega⟩
      have hin : i = n := by omega
      subst hin
      go_wp2_with (first | (go_at_call 9; refine (knows6_any _).mono ?_; rintro e w8 ⟨rfl, b8⟩) | fail)
      go_ret
      exact ⟨rfl, (B2.out.trans (bi.mono B2.out.size)).trans (b8.mono (B2.out.trans (bi.mono B2.out.size)).size)⟩
end Go.Proofs.Ytnlcokcpcfbdaaa
