/- The law VerifyAgain. -/
import Derived.Test.YtfnpngbcnmglfaaGreatZK
import Derived.Test.YtfnpngbcnmglfaaGreatZL
namespace Go.Proofs.YtfnpngbcnmglfaaGreat
open Go.RowKit
set_option maxRecDepth 100000 in
set_option maxHeartbeats 4000000 in
theorem again10_any (a : Option Addr) (m c : Nat) (bs : List UInt8) (w : World) (hl : bs.length = m) (hm : m ≤ 140737488351232) (hB : Bs w a bs) :
    Calls Tryz.prog 6 #[.slice a m c] w fun e w' => e = .returned (.bool true) ∧ Below w.heap.size w w' := by
  have HKn : Hid (∀ W, Below w.heap.size w W → Calls Tryz.prog 15 #[] W fun e W1 => e = .returned (.bool true) ∧ Hid (Below w.heap.size w W1)) := hid9 fun W hb => (knows10_any W).mono fun e W1 ⟨h1, h2⟩ => ⟨h1, hid9 (hb.trans (h2.mono hb.size))⟩
  have HLe : Hid (Calls Tryz.prog 9 #[.slice a m c] w fun e W1 => ∃ la lc, e = .returned (.slice (some ⟨la, 0, none⟩) m lc) ∧ Hid (Bs W1 (some ⟨la, 0, none⟩) bs ∧ Below w.heap.size w W1)) := hid9 ((lent10_any a m c bs w hl hm hB).mono fun e W1 ⟨la, lc, h1, h2, h3⟩ => ⟨la, lc, h1, hid9 ⟨h2, h3⟩⟩)
  by_cases hoe : chE bs = 0
  · have hge : getE4 bs = 0 := Decidable.byContradiction fun h => by rw [chE, if_neg h] at hoe; exact h hoe
    obtain ⟨hri, hsc⟩ := get_put hge
    have HCk : Hid (∀ la lc W, Bs W (some ⟨la, 0, none⟩) bs ∧ Below w.heap.size w W → Calls Tryz.prog 10 #[.slice (some ⟨la, 0, none⟩) m lc] W fun e W2 => ∃ p0 cl r0 p1 fl r1 tv p3 r3 p4 r4 p5 r5 g, e = .returned (.tuple #[.agg #[.slice p0 cl r0, .slice p1 fl r1, .int .i64 tv, .slice p3 fl r3, .slice p4 fl r4, .slice p5 fl r5, .slice (some ⟨g, 0, none⟩) fl fl], .int .i64 0]) ∧ ((W2.alloc (.cells #[.slice p0 cl r0, .slice p1 fl r1, .int .i64 tv, .slice p3 fl r3, .slice p4 fl r4, .slice p5 fl r5, .slice (some ⟨g, 0, none⟩) fl fl] 30)).cell? ⟨W2.heap.size, 0, none⟩ = some (.slice p0 cl r0) ∧ (W2.alloc (.cells #[.slice p0 cl r0, .slice p1 fl r1, .int .i64 tv, .slice p3 fl r3, .slice p4 fl r4, .slice p5 fl r5, .slice (some ⟨g, 0, none⟩) fl fl] 30)).cell? ⟨W2.heap.size, 1, none⟩ = some (.slice p1 fl r1)) ∧ Hid (ScIs (W2.alloc (.cells #[.slice p0 cl r0, .slice p1 fl r1, .int .i64 tv, .slice p3 fl r3, .slice p4 fl r4, .slice p5 fl r5, .slice (some ⟨g, 0, none⟩) fl fl] 30)).cell? (getS bs) (.slice p0 cl r0) (.slice p1 fl r1) ∧ Below w.heap.size w (W2.alloc (.cells #[.slice p0 cl r0, .slice p1 fl r1, .int .i64 tv, .slice p3 fl r3, .slice p4 fl r4, .slice p5 fl r5, .slice (some ⟨g, 0, none⟩) fl fl] 30)))) := hid9 fun la lc W ⟨h1, h2⟩ => (check_any _ m lc bs hl W h1 (by omega)).mono fun e W2 ⟨h4, h5⟩ => by
      rcases h5 with ⟨h6, h7⟩ | ⟨h6, v0, v1, sa, sc, da, dc, oa, oc, g, d, o, h7, hR⟩
      · exact absurd hoe h6
      · obtain ⟨base, _, hO⟩ := hR.own
        have hSc := own_is hO
        obtain ⟨⟨p0, r0, z0, _⟩, ⟨p1, r1, z1, _⟩⟩ := hSc
        subst z0; subst z1
        have hSc := own_is hO
        refine ⟨p0, _, r0, p1, _, r1, _, sa, sc, da, dc, oa, oc, g, h7, ?_⟩
        have kw : Below w.heap.size w W2 := h2.trans (h4.mono h2.size)
        generalize hx : Obj.cells _ 30 = X
        obtain ⟨W3, hW3⟩ : ∃ W3, W3 = W2.alloc X := ⟨_, rfl⟩
        have b3 : Below W2.heap.size W2 W3 := by rw [hW3]; exact (Below.refl _ _).alloc (Nat.le_refl _) _
        have e4 : W3.heap[W2.heap.size]? = some X := by rw [hW3]; exact heap_alloc_new W2 _
        rw [← hx] at e4
        rw [← hW3]
        exact ⟨⟨Lib.cell_of_heap e4 0, Lib.cell_of_heap e4 1⟩, hid9 ⟨hSc.keep (below_keep b3), kw.trans (b3.mono kw.size)⟩⟩
    have HPu : Hid (∀ p0 cl r0 p1 fl r1 W, ScIs W.cell? (getS bs) (.slice p0 cl r0) (.slice p1 fl r1) ∧ Below w.heap.size w W → Calls Tryz.prog 27 #[.agg #[.slice p0 cl r0, .slice p1 fl r1]] W fun e W2 => ∃ b, e = .returned (.tuple #[.slice (some b) m m, .int .i64 0]) ∧ ((convert 22 9 (.slice (some b) m m)).run Tryz.prog W2 = .ok (.string ⟨bs.toArray⟩) W2 ∧ (convert 22 9 (.slice a m c)).run Tryz.prog W2 = .ok (.string ⟨bs.toArray⟩) W2) ∧ Hid (Below w.heap.size w W2)) := hid9 fun p0 cl r0 p1 fl r1 W ⟨h1, h2⟩ => (put4_any (getS bs) _ _ W h1 (gets_fits bs)).mono fun e W2 ⟨h3, h4⟩ => by
      rcases h4 with ⟨h5, _⟩ | ⟨_, b, h6, h7⟩
      · rw [hri] at h5; cases h5
      · rw [hsc, hl] at h6
        rw [hsc] at h7
        have kw : Below w.heap.size w W2 := h2.trans (h3.mono h2.size)
        have c1 := run_str h7 m
        have c2 := run_str (hB.keep (below_keep kw)) c
        rw [hl] at c1 c2
        exact ⟨b, h6, ⟨c1, c2⟩, hid9 kw⟩
    clear hB hl hri hsc hge hoe
    go_enter Tryz.func6, Tryz.ntmps6
    go_wp2_with (first
      | (go_at_call 9; refine HLe.out.mono ?_; clear HLe; rintro e W1 ⟨la, lc, rfl, HS⟩)
      | (go_at_call 10; refine (HCk.out _ _ _ HS.out).mono ?_; clear HCk HS; rintro e W2 ⟨p0, cl, r0, p1, fl, r1, tv, p3, r3, p4, r4, p5, r5, g, rfl, ⟨x0, x1⟩, HA⟩)
      | (go_at_call 13; refine (num10_any _ _).mono ?_; rintro e W9 ⟨rfl, w9e⟩; rw [w9e]; clear w9e)
      | (go_at_call 27; refine (HPu.out _ _ _ _ _ _ _ HA.out).mono ?_; clear HPu HA x0 x1; rintro e W3 ⟨b, rfl, ⟨c1, c2⟩, HA⟩)
      | (go_at_call 15; refine (HKn.out _ HA.out).mono ?_; clear HKn HA; rintro e W7 ⟨rfl, HB⟩)
      | fail)
    all_goals (go_ret; exact ⟨rfl, HB.out⟩)
  · have HCk : Hid (∀ la lc W, Bs W (some ⟨la, 0, none⟩) bs ∧ Below w.heap.size w W → Calls Tryz.prog 10 #[.slice (some ⟨la, 0, none⟩) m lc] W fun e W2 => e = .returned (.tuple #[.agg #[.slice none 0 0, .slice none 0 0, .int .i64 0, .slice none 0 0, .slice none 0 0, .slice none 0 0, .slice none 0 0], .int .i64 (chE bs)]) ∧ Hid (Below w.heap.size w (W2.alloc (.cells #[.slice none 0 0, .slice none 0 0, .int .i64 0, .slice none 0 0, .slice none 0 0, .slice none 0 0, .slice none 0 0] 30)))) := hid9 fun la lc W ⟨h1, h2⟩ => (check_any _ m lc bs hl W h1 (by omega)).mono fun e W2 ⟨h4, h5⟩ => by
      rcases h5 with ⟨h6, h7⟩ | ⟨h6, _⟩
      · have kw : Below w.heap.size w W2 := h2.trans (h4.mono h2.size)
        exact ⟨h7, hid9 (kw.alloc kw.size _)⟩
      · exact absurd h6 hoe
    have hne : (chE bs != 0) = true := by simpa using hoe
    clear hB hl
    generalize chE bs = oe at *
    go_enter Tryz.func6, Tryz.ntmps6
    go_wp2_with (first
      | (go_at_call 9; refine HLe.out.mono ?_; clear HLe; rintro e W1 ⟨la, lc, rfl, HS⟩)
      | (go_at_call 10; refine (HCk.out _ _ _ HS.out).mono ?_; clear HCk HS; rintro e W2 ⟨rfl, HA⟩)
      | (go_at_call 13; refine (num10_any _ _).mono ?_; rintro e W9 ⟨rfl, w9e⟩; rw [w9e]; clear w9e)
      | (go_at_call 15; refine (HKn.out _ HA.out).mono ?_; clear HKn HA; rintro e W7 ⟨rfl, HB⟩)
      | fail)
    all_goals (go_ret; exact ⟨rfl, HB.out⟩)
end Go.Proofs.YtfnpngbcnmglfaaGreat
