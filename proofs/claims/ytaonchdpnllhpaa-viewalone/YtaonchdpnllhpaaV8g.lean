/- Layer 18: a turn: relog. -/
import Derived.Test.YtaonchdpnllhpaaV8f
import Derived.Deep.RegionHeld3
namespace Go.Proofs.Ytaonchdpnllhpaa
open Go.RowKit
theorem below_drew18 (w : World) : Below w.heap.size w w.drew := (Below.refl _ w).drew
set_option maxRecDepth 100000 in
set_option maxHeartbeats 2000000 in
theorem relog_any18 {tb pb base bl m ln lc st k kc : Nat} {a0 la ka : Option Addr} {ac : Nat} {x : Pt} {nv sv dv mv : Value} {xs ls es : List Value} (w : World) (hP : PtAt pb x (.slice la ln lc) sv dv mv w) (h : TnAt tb pb (.slice a0 m ac) nv w) (hr : w.ownsRow base 85 5 (.slice a0 m ac) m xs) (hL : w.ownsRow bl 56 2 (.slice la ln lc) ln ls) (hb : base ≤ w.heap.size) (hbl : bl ≤ w.heap.size) (hm : m ≤ 900000) (hE : ∀ W, Chg w W (fun k => k = tb ∨ k = pb ∨ (Value.slice a0 m ac).ownBlock = some k) → Lies W (.slice ka k kc) k es) (hl : es.length = k * 2) (h1 : ∀ u ∈ es, u.oneCell' = true) (hk : k ≤ 65536) (hst : st ≤ ln) (hln : ln ≤ 65536) : Calls Try.prog 32 #[.pointer (some ⟨tb, 0, none⟩), .int .i64 st, .slice ka k kc] w (fun e w' => e = .returned (.tuple #[]) ∧ RelogYes tb pb base bl x sv dv mv (.slice a0 m ac) (.slice la ln lc) (m + 1) (st + k) k xs (ls.take (st * 2) ++ es) es st nv w w') := by
  have hlc : ln ≤ lc := by
    obtain ⟨a', c', e, q, -⟩ := row_form hL
    injection e with _ _ e
    omega
  have HC := hid (clone18_any ka k kc es w (hE w (Chg.refl _ _)) hl h1 hk)
  -- behind the copy: what save does, and what it leaves
  have HS : Hid (∀ W1 a3 c3, Below w.heap.size w W1 → W1.ownsRow w.heap.size 56 2 (.slice a3 k c3) k es → Calls Try.prog 46 #[.pointer (some ⟨tb, 0, none⟩), .slice (some ⟨W1.heap.size, 0, none⟩) 1 1] (W1.alloc (Obj.cells #[.int .i64 2, .int .i64 0, .int .i64 0, .int .i64 st, .slice a3 k c3] 85)) (fun e W5 => e = .returned (.tuple #[]) ∧ ∃ a cc, RM tb pb base bl x la ln lc sv dv mv (.slice a0 m ac) (.slice a (m + 1) cc) (.slice a3 k c3) (m + 1) k (xs ++ [.int .i64 2, .int .i64 0, .int .i64 0, .int .i64 st, .slice a3 k c3]) ls es nv w W5)) := hid fun W1 a3 c3 b1 r1 =>
    (save_one18 W1 (hP.below b1) (h.below b1) (row_below2 hr b1) (Nat.le_trans hb b1.size) hm (by intro u hu; simp at hu; rcases hu with rfl | rfl | rfl | rfl | rfl <;> rfl) _ rfl).mono fun e W5 hS => ⟨hS.1, RM.made hP h hr hL b1 r1 hS.2⟩
  have HL : Hid (∀ W s5 v1 xs', RM tb pb base bl x la ln lc sv dv mv (.slice a0 m ac) s5 v1 (m + 1) k xs' ls es nv w W → (W.cell? ⟨tb, 0, none⟩ = some (.pointer (some ⟨pb, 0, none⟩)) ∧ W.cell? ⟨pb, 3, none⟩ = some (.slice la ln lc) ∧ tb < W.heap.size ∧ pb < W.heap.size) ∧ W.ownsRow bl 56 2 (.slice la st lc) st (ls.take (st * 2)) ∧ Lies W (.slice ka k kc) k es ∧ bl ≤ W.heap.size) := hid fun W s5 v1 xs' hM => by
    obtain ⟨⟨c0, -⟩, tl, -⟩ := hM.t.rd
    obtain ⟨⟨-, -, -, c3, -⟩, -, pl, -⟩ := hM.p.rd
    exact ⟨⟨c0, c3, tl, pl⟩, row_cut hM.l st hst, hE W hM.g, Nat.le_trans hbl hM.g.size⟩
  have H1 := hid h1
  have hs' : st ≤ lc := by omega
  clear hE h1 hP h hr hL
  go_enter Try.func32, Try.ntmps32
  go_upto_region 1 with (first
    | (go_at_call 26; refine HC.out.mono ?_; clear HC; rintro e W1 ⟨⟨v1, rfl, r1⟩, b1⟩; obtain ⟨a3, c3, e3, -⟩ := row_form r1; subst e3; have HS1 := hid (HS.out W1 a3 c3 b1 r1); clear HS r1 b1)
    | (go_at_call 46; refine HS1.out.mono ?_; clear HS1; rintro e W5 ⟨rfl, a, cc, hM⟩)
    | fail)
  have hM1 := hM.below (below_drew18 W5)
  obtain ⟨sA, rA, lA, zA⟩ := HL.out _ _ _ _ hM1
  have HM := hid hM1
  have HX := hid hM
  clear hM hM1
  obtain ⟨⟨y0, y1, y2, y3⟩, -⟩ := HL.out _ _ _ _ HX.out
  obtain ⟨x0, x1, x2, x3⟩ := sA
  go_region_law (first
    | (refine step_appN _ rfl (.tmp 26) (.tmp 27) 27 rfl elemN_ent bl (.slice la st lc) st (ls.take (st * 2)) rfl rA _ rfl k es lA hl H1.out (by unfold maxLen; omega) (by omega) zA ?_; intro v6 W6 hr6 st6; obtain ⟨a6, c6, e6, -⟩ := row_form hr6; subst e6; obtain ⟨⟨d0, d1, d2, d3, d4⟩, dR⟩ := HM.out.done hr6 st6; have HR := hid dR; clear hr6 st6 rA lA dR)
    | fail)
  all_goals
    go_end0
    exact ⟨rfl, HR.out⟩
end Go.Proofs.Ytaonchdpnllhpaa
