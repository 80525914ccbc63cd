/- Layer 16: JournalLasts: opened. -/
import Derived.Test.YthmjejmignangaaGreatDoorJLc
import Derived.Deep.RegionHeld3
import Derived.Deep.QuietTactic
import Derived.BigQuiet
namespace Go.Proofs.YthmjejmignangaaGreatDoor
open Go.RowKit
theorem op_own4 {W U W4 : World} {a : Nat} {v4 : Value} (hU : Below W.heap.size W U) (h : Step U (.slice (some ⟨W.heap.size, a, none⟩) 0 0) W4 v4) : ∀ g, v4.ownBlock = some g → W.heap.size ≤ g := fun g e => by
  rcases h.2 with q | ⟨x, q, hx⟩
  · rw [q] at e
    simp [Value.ownBlock] at e
    omega
  · rw [e] at q
    injection q with q
    have := hU.size
    omega
theorem op_ne {W W4 W6 : World} {v4 v6 : Value} {rb : Nat} (h4 : Below W.heap.size W W4) (hr : rb < W.heap.size) (h : ∀ g, v4.ownBlock = some g → W.heap.size ≤ g) (hs : Step W4 v4 W6 v6) : ∀ q, v6.ownBlock = some q → q ≠ rb := fun q hq => by
  rcases hs.2 with e | ⟨x, e, hx⟩
  · rw [hq] at e
    have := h q e.symm
    omega
  · rw [hq] at e
    injection e with e
    have := h4.size
    omega
theorem below_drewN16 (W : World) : ∀ n, Below W.heap.size W (W.drewN n) := fun n => below_drewN (Below.refl _ W) n
set_option maxRecDepth 100000 in
set_option maxHeartbeats 4000000 in
theorem opened16 {w : World} {rb db E : Nat} {vs vm : Value} {sure lm rs : List Bt} {V : World} (h : RC w none rb db E vs vm sure lm rs V) (hE : E ≤ 1000000) (m : Nat) (hm : m ≤ lm.length) (hrs : rs = sure ++ lm.take m) (hl : lm.length ≤ 1000000) :
    Calls Tryz.prog 21 #[.pointer (some ⟨rb, 0, none⟩)] V fun e W => e = .returned (.bool true) ∧ Hid (∃ jb vs', RJ w none rb db jb (E + 1) false (-1) vs' (.slice none 0 0) rs [] [] W) := by
  obtain ⟨K0, d0, jv0, -, -, -, -, hR0⟩ := h.ex
  obtain ⟨sa, sc, es, hs1, hs2, _⟩ := row_form hR0.s.1
  obtain ⟨ma, mc, em, hm1, hm2, _⟩ := row_form hR0.m.1
  subst es em
  obtain ⟨⟨x0, _, _, _⟩, _, xl⟩ := hR0.at_
  obtain ⟨sn, hsn⟩ : ∃ n, n = sure.length := ⟨_, rfl⟩
  obtain ⟨mn, hmn⟩ : ∃ n, n = lm.length := ⟨_, rfl⟩
  obtain ⟨rn, hrn⟩ : ∃ n, n = rs.length := ⟨_, rfl⟩
  have hrl : rn = sn + m := by rw [hrn, hrs, hsn]; simp; omega
  rw [← hmn] at hm hl
  have HOp := hidb (h.opens hE)
  rw [← hsn, ← hmn, ← hrn] at HOp
  rw [← hsn] at hs1 
  rw [← hmn] at hm1
  -- what is told of the opened state
  have HB : Hid (∀ W jb a, Hid (∃ K lb g d jv, Jst w K jb lb db g d W ∧ RB w none rb db K (fun k => k = lb ∨ k = jb) jv (.slice sa sn sc) (.slice ma mn mc) sure lm W ∧ d.off = false ∧ d.fuse = -1 ∧ JD d g rs [] ∧ g.ep ≤ E + 1 ∧ RecW K a rs W) → (W.cell? ⟨rb, 2, none⟩ = some (.slice sa sn sc) ∧ W.cell? ⟨rb, 3, none⟩ = some (.slice ma mn mc) ∧ rb < W.heap.size) ∧ (∀ n, Calls Tryz.prog 16 #[.pointer (some ⟨jb, 0, none⟩)] (W.drewN n) fun e w' => e = .returned (.int .i64 (rn : Nat)) ∧ w' = W.drewN n)) := hidb fun W jb a hh => by
    obtain ⟨K, lb, g, d, jv, j1, j2, j3, j4, j5, j6, j7⟩ := hh.out
    obtain ⟨⟨_, _, y2, y3⟩, _, yl⟩ := j2.at_
    refine ⟨⟨y2, y3, yl⟩, fun n => ?_⟩
    have hz : Below W.heap.size W (W.drewN n) := below_drewN16 W n
    have := j5.cnt
    rw [List.append_nil, ← hrn] at this
    rw [← this]
    exact jlen_any16 (j1.below hz).2.1
  have hrA : sn ≤ rn := by omega
  have hrB : rn ≤ sn + mn := by omega
  have HE := hidb (And.intro hsn (And.intro hmn (And.intro hrn hrs)))
  clear hR0 h hsn hmn hrn hrs hrl
  go_enter Tryz.func21, Tryz.ntmps21
  go_upto_region 2 with (first
    | (go_at_call 12; refine HOp.out.mono ?_; clear HOp; rintro e W1 ⟨jb, a1, c1, rfl, hr6, H1⟩; obtain ⟨⟨s2, s3, sl⟩, hL⟩ := HB.out _ _ _ H1; have HLn := hidb hL; clear HB hL)
    | fail)
  have d1 : decide ((rn : Int) < (sn : Int)) = false := decide_eq_false (by omega)
  have wsm : IntKind.i64.wrap ((sn : Int) + (mn : Int)) = (sn : Int) + (mn : Int) := by rw [IntKind.wrap_i64]; omega
  have d2 : decide ((sn : Int) + (mn : Int) < (rn : Int)) = false := decide_eq_false (by omega)
  go_quiet (first
    | (go_at_call 13; exact Calls.quiet_of_same (num_any16 _ _))
    | (go_at_call 16; exact Calls.quiet_of_same (HLn.out _)))
  have H2 : Hid (∃ K lb g d jv, Jst w K jb lb db g d (W1.drewN nq) ∧ RB w none rb db K (fun k => k = lb ∨ k = jb) jv (.slice sa sn sc) (.slice ma mn mc) sure lm (W1.drewN nq) ∧ d.off = false ∧ d.fuse = -1 ∧ JD d g rs [] ∧ g.ep ≤ E + 1 ∧ RecW K a1 rs (W1.drewN nq)) := hidb (by
    obtain ⟨K, lb, g, d, jv, j1, j2, j3, j4, j5, j6, j7⟩ := H1.out
    have hz := below_drewN16 W1 nq
    exact ⟨K, lb, g, d, jv, j1.below hz, j2.below hz, j3, j4, j5, j6, j7.below hz⟩)
  generalize W1.drewN nq = W2 at H2 ⊢
  clear H1 HLn s2 s3 sl d1 d2 wsm
  have HU : Hid ((∀ W, Below W2.heap.size W2 W → W.cell? ⟨rb, 2, none⟩ = some (.slice sa sn sc) ∧ W.cell? ⟨rb, 3, none⟩ = some (.slice ma mn mc) ∧ rb < W.heap.size) ∧ (W2.drew.alloc (.cells #[] 9)).ownsRow w.heap.size 9 1 (.slice (some ⟨W2.drew.heap.size, 0, none⟩) 0 0) 0 [] ∧ (∀ W, Below W2.heap.size W2 W → Lies W (.slice sa sn sc) sn (svl sure) ∧ Lies W (.slice ma mn mc) mn (svl lm) ∧ w.heap.size ≤ W.heap.size) ∧ Below W2.heap.size W2 (W2.drew.alloc (.cells #[] 9)) ∧ (svl sure).length = sn * 1 ∧ (svl lm).length = mn * 1) := hidb (by
    obtain ⟨e1, e2, e3, e4⟩ := HE.out
    obtain ⟨K, lb, g, d, jv, j1, j2, j3⟩ := H2.out
    have hz : Below W2.heap.size W2 W2.drew := (Below.refl _ W2).drew
    refine ⟨fun W hW => ?_, row_lit0 W2.drew _ _ _ j1.2.2.size, fun W hW => ?_, hz.alloc hz.size _, by rw [svl_len, e1], by rw [svl_len, e2]⟩
    · obtain ⟨⟨_, _, y2, y3⟩, _, yl⟩ := (j2.below hW).at_
      exact ⟨y2, y3, yl⟩
    · exact ⟨lies_rowS e1.symm (j2.below hW).s.1, lies_rowS e2.symm (j2.below hW).m.1, Nat.le_trans j1.2.2.size hW.size⟩)
  go_upto_region 4 with fail
  have hz0 : Below W2.heap.size W2 W2.drew := (Below.refl _ W2).drew
  have sA := HU.out.1 _ hz0
  have sB := HU.out.1 _ HU.out.2.2.2.1
  obtain ⟨lA, -, zA⟩ := HU.out.2.2.1 _ HU.out.2.2.2.1
  have rA := HU.out.2.1
  have nA := HU.out.2.2.2.2.1
  have nB := HU.out.2.2.2.2.2
  have O1 := hidb (svl_one sure)
  have O2 := hidb (svl_one lm)
  go_region_held3 (fun W => W.cell? ⟨rb, 2, none⟩ = some (.slice sa sn sc) ∧ W.cell? ⟨rb, 3, none⟩ = some (.slice ma mn mc) ∧ rb < W.heap.size) (first | exact sA | exact sB | exact sC | exact sD | go_keep) (first
    | (refine step_appN _ rfl (.tmp 57) (.tmp 61) 54 rfl elemS16 w.heap.size (.slice (some ⟨W2.heap.size, 0, none⟩) 0 0) 0 [] rfl rA _ rfl sn (svl sure) lA nA O1.out (by unfold maxLen; omega) (by omega) zA ?_; intro v4 W4 hr4 st4; have b4 : Below W2.heap.size W2 W4 := HU.out.2.2.2.1.trans (st4.below (Below.size HU.out.2.2.2.1) fun g e => by simp [Value.ownBlock] at e; omega); have sC := HU.out.1 _ b4; obtain ⟨-, lC, zC⟩ := HU.out.2.2.1 _ b4; rw [Nat.zero_add, List.nil_append] at hr4; clear rA lA)
    | (refine step_appN _ rfl (.tmp 62) (.tmp 66) 54 rfl elemS16 w.heap.size v4 sn (svl sure) rfl hr4 _ rfl mn (svl lm) lC nB O2.out (by unfold maxLen; omega) (by omega) zC ?_; intro v6 W6 hr6 st6; have b6 : Below W2.heap.size W2 W6 := b4.trans ((st6.below b4.size fun g e => op_own4 HU.out.2.2.2.1 st4 g e)); have sD := HU.out.1 _ b6; obtain ⟨va, vc, y6, hvc1, hvc2, -⟩ := row_form hr6; subst y6; have R6 := hidb hr6; have B6 := hidb b6; have HNe : Hid (∀ q, (Value.slice va (sn + mn) vc).ownBlock = some q → q ≠ rb) := hidb (op_ne b4 (HU.out.1 _ (Below.refl _ W2)).2.2 (op_own4 HU.out.2.2.2.1 st4) st6); clear hr4 lC hr6 b6 b4)
    | fail)
  have H6 : Hid (∃ K lb g d jv, Jst w K jb lb db g d W6 ∧ RB w none rb db K (fun k => k = lb ∨ k = jb) jv (.slice sa sn sc) (.slice ma mn mc) sure lm W6 ∧ d.off = false ∧ d.fuse = -1 ∧ JD d g rs [] ∧ g.ep ≤ E + 1 ∧ RecW K a1 rs W6) := hidb (by
    obtain ⟨K, lb, g, d, jv, j1, j2, j3, j4, j5, j6, j7⟩ := H2.out
    exact ⟨K, lb, g, d, jv, j1.below B6.out, j2.below B6.out, j3, j4, j5, j6, j7.below B6.out⟩)
  clear H2 HU B6 sA sB sC sD zA zC nA nB O1 O2 hz0 st4 st6
  have HM : Hid (∀ W, Below W6.heap.size W6 W → (∀ k, k < rn → ∃ g h xa r xc, a1 = some ⟨g, 0, none⟩ ∧ va = some ⟨h, 0, none⟩ ∧ W.cell? ⟨g, k, none⟩ = some (.slice xa r xc) ∧ ∃ b : Bt, W.cell? ⟨h, k, none⟩ = some (.string ⟨b.toArray⟩) ∧ (convert 29 9 (.slice xa r xc)).run Tryz.prog W = .ok (.string ⟨b.toArray⟩) W)) := hidb fun W hW k hk => by
    obtain ⟨e1, e2, e3, e4⟩ := HE.out
    obtain ⟨K, lb, g, d, jv, j1, j2, j3, j4, j5, j6, j7⟩ := H6.out
    obtain ⟨r, hr⟩ : ∃ r, rs[k]? = some r := ⟨rs[k]'(by omega), List.getElem?_eq_getElem _⟩
    obtain ⟨g', xa, xc, y1, y2, y3⟩ := (j7.below hW).bs hr
    obtain ⟨a', c', e', _, _, h4⟩ := row_form (row_below2 R6.out hW)
    injection e' with z1 z2 z3
    subst z1
    rcases h4 with ⟨_, h0, _⟩ | ⟨q, eq, _, _, hc⟩
    · omega
    · refine ⟨g', q, xa, r.length, xc, y1, eq, y2, r, hc k _ ?_, run_str y3 xc⟩
      rw [e4] at hr
      have hsv : svl sure ++ svl lm = svl (sure ++ lm) := (List.map_append ..).symm
      rw [hsv, List.getElem?_map]
      have : (sure ++ lm)[k]? = some r := by
        by_cases hks : k < sure.length
        · rw [List.getElem?_append_left hks] at hr ⊢; exact hr
        · rw [List.getElem?_append_right (by omega)] at hr ⊢
          rw [List.getElem?_take] at hr
          split at hr
          · exact hr
          · cases hr
      rw [this]; rfl
  have HX : Hid (∀ wr, Below W6.heap.size W6 wr → (∃ jv, wr.cell? ⟨rb, 1, none⟩ = some jv) ∧ wr.frozen? ⟨rb, 1, none⟩ = false ∧ rb < wr.heap.size ∧ ((wr.setCell ⟨rb, 1, none⟩ (.pointer (some ⟨jb, 0, none⟩))).alloc (.cells #[] 9)).ownsRow w.heap.size 9 1 (.slice (some ⟨wr.heap.size, 0, none⟩) 0 0) 0 [] ∧ Lies ((wr.setCell ⟨rb, 1, none⟩ (.pointer (some ⟨jb, 0, none⟩))).alloc (.cells #[] 9)) (.slice va rn vc) rn (svl rs) ∧ w.heap.size ≤ ((wr.setCell ⟨rb, 1, none⟩ (.pointer (some ⟨jb, 0, none⟩))).alloc (.cells #[] 9)).heap.size ∧ Hid (∀ v5 W5, W5.ownsRow w.heap.size 9 1 v5 rn (svl rs) → Step ((wr.setCell ⟨rb, 1, none⟩ (.pointer (some ⟨jb, 0, none⟩))).alloc (.cells #[] 9)) (.slice (some ⟨wr.heap.size, 0, none⟩) 0 0) W5 v5 → ((∃ x, W5.cell? ⟨rb, 2, none⟩ = some x) ∧ W5.frozen? ⟨rb, 2, none⟩ = false ∧ rb < W5.heap.size ∧ (∃ x, (W5.setCell ⟨rb, 2, none⟩ v5).cell? ⟨rb, 3, none⟩ = some x) ∧ (W5.setCell ⟨rb, 2, none⟩ v5).frozen? ⟨rb, 3, none⟩ = false) ∧ Hid (RJ w none rb db jb (E + 1) false (-1) v5 (.slice none 0 0) rs [] [] ((W5.setCell ⟨rb, 2, none⟩ v5).setCell ⟨rb, 3, none⟩ (.slice none 0 0))))) := hidb fun wr hW => by
    obtain ⟨e1, e2, e3, e4⟩ := HE.out
    obtain ⟨K, lb, g, d, jv, j1, j2, j3, j4, j5, j6, j7⟩ := H6.out
    have j2' := j2.below hW
    obtain ⟨⟨_, y1, y2, y3⟩, yf, yl⟩ := j2'.at_
    have hwz : w.heap.size ≤ wr.heap.size := Nat.le_trans j1.2.2.size hW.size
    have hlit := row_lit0 (wr.setCell ⟨rb, 1, none⟩ (.pointer (some ⟨jb, 0, none⟩))) 9 1 w.heap.size (by rw [World.size_setCell]; exact hwz)
    rw [World.size_setCell] at hlit
    refine ⟨⟨jv, y1⟩, yf 1, yl, hlit, ?_, by rw [World.size_alloc, World.size_setCell]; omega, hidb fun v5 W5 h5 hs => ?_⟩
    · have hrow : ((wr.setCell ⟨rb, 1, none⟩ (.pointer (some ⟨jb, 0, none⟩))).alloc (.cells #[] 9)).ownsRow w.heap.size 9 1 (.slice va (sn + mn) vc) (sn + mn) (svl sure ++ svl lm) := by
        refine row_below2 (row_keep (row_below2 R6.out hW) fun q hq => Below.heap_setCell _ _ _ _ ?_) ((Below.refl _ _).alloc (Nat.le_refl _) _)
        show q ≠ rb
        exact HNe.out q hq
      obtain ⟨a', c', e', _, _, h4⟩ := row_form hrow
      injection e' with z1 z2 z3
      subst z1
      rcases h4 with ⟨x1, h0, _⟩ | ⟨q, eq, _, _, hc⟩
      · refine .inl ⟨vc, ?_, by omega, ?_⟩
        · rw [x1]; congr 1; omega
        · have : rs.length = 0 := by omega
          rw [List.eq_nil_of_length_eq_zero this]; rfl
      · refine .inr ⟨⟨q, 0, none⟩, vc, by rw [eq], fun j u hu => ?_⟩
        rw [Addr.add_lit, Nat.zero_add]
        refine hc j u ?_
        have hsv : svl sure ++ svl lm = svl (sure ++ lm) := (List.map_append ..).symm
        rw [hsv, List.getElem?_map]
        rw [List.getElem?_map] at hu
        rw [e4] at hu
        cases hj : (sure ++ lm.take m)[j]? with
        | none => rw [hj] at hu; cases hu
        | some r =>
          rw [hj] at hu
          have : (sure ++ lm)[j]? = some r := by
            by_cases hks : j < sure.length
            · rw [List.getElem?_append_left hks] at hj ⊢; exact hj
            · rw [List.getElem?_append_right (by omega)] at hj ⊢
              rw [List.getElem?_take] at hj
              split at hj
              · exact hj
              · cases hj
          rw [this]
          exact hu
    · have hF := rj_final (E := E + 1) j1 j2 j3 j4 j5 (by omega) hW (by rw [← e3]; exact h5) hs
      obtain ⟨x1, x2⟩ := hF
      have x3 := box_set x1 2 v5
      exact ⟨⟨⟨_, Lib.cell_of_heap x1 2⟩, Lib.frozen_of_heap x1 2, lt_of_block x1, ⟨_, Lib.cell_of_heap x3 3⟩, Lib.frozen_of_heap x3 3⟩, hidb x2⟩
  have HL : (svl rs).length = rn * 1 := by rw [svl_len, HE.out.2.2.1]
  have HL2 := hidb HL
  have O3 := hidb (svl_one rs)
  clear HL H6 HE
  go_upto_region 6 with fail
  go_loopw [7] (fun iv wr => ∃ k : Nat, iv = .int .i64 k ∧ k ≤ rn ∧ Hid (Below W6.heap.size W6 wr)) (fun iv _ => rn - (intOf iv).toNat)
  case atStart => exact ⟨0, rfl, Nat.zero_le _, hidb (Below.refl _ _)⟩
  case round =>
    obtain ⟨k, rfl, hk, HB⟩ := hrel
    by_cases hkm : k < rn
    · have hkm2 : (k : Int) < (rn : Int) := by omega
      obtain ⟨g, h, xa', r, xc', rfl, rfl, c1', b, c2, v1⟩ := HM.out wr HB.out k hkm
      obtain ⟨g', h', xa2, r2, xc2, e1, e2, d1, b2, d2, u1⟩ := HM.out wr.drew HB.out.drew k hkm
      cases e1
      cases e2
      have q1 : (Value.slice xa2 r2 xc2) = .slice xa' r xc' := by have := d1.symm.trans (show wr.drew.cell? ⟨g, k, none⟩ = some (.slice xa' r xc') from c1'); injection this
      injection q1 with q3 q4 q5
      subst q3 q4 q5
      have q2 : (Value.string ⟨b2.toArray⟩) = .string ⟨b.toArray⟩ := by have := d2.symm.trans (show wr.drew.cell? ⟨h, k, none⟩ = some (.string ⟨b.toArray⟩) from c2); injection this
      have c1x : wr.drew.cell? ⟨g, k, none⟩ = some (.slice xa2 r2 xc2) := c1'
      have c2x : wr.drew.cell? ⟨h, k, none⟩ = some (.string ⟨b.toArray⟩) := c2
      have hkall : (k : Int) < ((sn + mn : Nat) : Int) := by omega
      have hkall2 : k < sn + mn := by omega
      rw [q2] at u1
      clear d1 d2 q2
      go_upto_region 8 with fail
      go_region_held (fun W => W.cell? ⟨g, k, none⟩ = some (.slice xa2 r2 xc2) ∧ W.cell? ⟨h, k, none⟩ = some (.string ⟨b.toArray⟩) ∧ (convert 29 9 (.slice xa2 r2 xc2)).run Tryz.prog W = .ok (.string ⟨b.toArray⟩) W) (first | exact ⟨c1x, c2x, u1⟩ | go_keep) (fail)
      all_goals
        go_wp2_with fail
        exact ⟨⟨k + 1, by simp, by omega, hidb HB.out.drew⟩, by simp [intOf]; omega⟩
    · obtain rfl : k = rn := by omega
      obtain ⟨⟨jv, y1⟩, y2, y3, y4, y5, y6, y7⟩ := HX.out wr HB.out
      have hkvc : (k : Int) ≤ (vc : Int) := by omega
      have hkvc2 : k ≤ vc := by omega
      clear HX HM HB
      go_wp2_with (first
        | (at_builtin; refine wpList_appN _ rfl _ _ 54 rfl elemS16 w.heap.size (.slice (some ⟨wr.heap.size, 0, none⟩) 0 0) 0 [] rfl y4 _ rfl k (svl rs) y5 HL2.out O3.out (by unfold maxLen; omega) (by omega) y6 ?_; intro v5 w5 hr5 hs5; rw [Nat.zero_add, List.nil_append] at hr5; obtain ⟨a5, c5, e5, -⟩ := row_form hr5; subst e5; obtain ⟨⟨⟨p1, p2⟩, p3, p4, ⟨p5, p6⟩, p7⟩, HFin⟩ := y7.out _ w5 hr5 hs5; clear hr5 hs5 y7 y5 y4)
        | fail)
      go_ret
      exact ⟨rfl, hidb ⟨_, _, HFin.out⟩⟩
end Go.Proofs.YthmjejmignangaaGreatDoor
