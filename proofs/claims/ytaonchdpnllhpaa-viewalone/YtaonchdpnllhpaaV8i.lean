/- Layer 18: a turn: prepare. -/
import Derived.Test.YtaonchdpnllhpaaV8h
namespace Go.Proofs.Ytaonchdpnllhpaa
open Go.RowKit
/-- What lies behind the first ones of a row. -/
theorem lies_cut18 {W : World} {bl ln lc op : Nat} {e : TypeId} {la : Option Addr} {ls : List Value} (h : W.ownsRow bl e 2 (.slice la ln lc) ln ls) (hop : op ≤ ln) : Lies W (.slice (if lc = op then la else Option.map (fun x => x.add (op * 2)) la) (ln - op) (lc - op)) (ln - op) (ls.drop (op * 2)) := by
  have hlen := h.1
  obtain ⟨a', c', e', hnc, -, hr⟩ := row_form h
  injection e' with e1 e2 e3
  subst e1 e3
  rcases hr with ⟨rfl, h0, hc0⟩ | ⟨g, rfl, hg, hl, hc⟩
  · have : ls.drop (op * 2) = [] := List.eq_nil_of_length_eq_zero (by simp; omega)
    refine .inl ⟨lc - op, ?_, by omega, this⟩
    have : ln - op = 0 := by omega
    rw [this]
    split <;> rfl
  · by_cases hq : lc = op
    · have : ls.drop (op * 2) = [] := List.eq_nil_of_length_eq_zero (by simp; omega)
      rw [if_pos hq, this]
      exact .inr ⟨_, _, rfl, fun j u hu => by simp at hu⟩
    · rw [if_neg hq]
      refine .inr ⟨_, _, rfl, fun j u hu => ?_⟩
      rw [List.getElem?_drop] at hu
      show W.cell? ((Addr.add ⟨g, 0, none⟩ (op * 2)).add j) = some u
      rw [Addr.add_lit, Addr.add_lit, Nat.zero_add]
      exact hc _ _ hu
set_option maxRecDepth 100000 in
set_option maxHeartbeats 1000000 in
theorem prepare_any18 {tb pb base bl m ln lc op q : Nat} {a0 la ta : Option Addr} {ac tc : Nat} {x : Pt} {nv sv dv mv : Value} {xs ls : List Value} {L : List Nat} (w : World) (hP : PtAt pb x (.slice la ln lc) sv dv mv w) (h : TnAt tb pb nv (.slice a0 m ac) w) (hr : w.ownsRow base 41 8 (.slice a0 m ac) m xs) (hL : w.ownsRow bl 56 2 (.slice la ln lc) ln ls) (hb : base ≤ w.heap.size) (hm : m ≤ 100000) (hq : q ≤ 7) (hLq : L.length = q) (hT : ∀ W, Chg w W (fun k => k = tb ∨ (Value.slice a0 m ac).ownBlock = some k) → ∀ j, j < q → ∃ b o, ta = some ⟨b, o, none⟩ ∧ W.cell? ⟨b, o + j, none⟩ = some (.int .i64 (L.getD j 0 : Nat)) ∧ b < W.heap.size) (h1 : ∀ u ∈ ls, u.oneCell' = true) (hop : op ≤ ln) (hln : ln ≤ 65536) : Calls Try.prog 33 #[.pointer (some ⟨tb, 0, none⟩), .int .i64 op, .slice ta q tc] w (fun e w' => e = .returned (.tuple #[]) ∧ TellEnd tb pb base x nv (.slice la ln lc) sv dv mv (.slice a0 m ac) (m + q) xs w w') := by
  have hlc : ln ≤ lc := by
    obtain ⟨a', c', e, q, -⟩ := row_form hL
    injection e with _ _ e
    omega
  have hbd := below_drew18 w
  have HTl : Hid (Calls Try.prog 47 #[.pointer (some ⟨tb, 0, none⟩), .agg #[.int .i64 1, .int .i64 0, .int .i64 0, .int .i64 0, .int .i64 op, .int .i64 x.cm, .int .i64 0, .slice (if lc = op then la else Option.map (fun x => x.add (op * 2)) la) (ln - op) (lc - op)], .slice ta q tc] w.drew (fun e w' => e = .returned (.tuple #[]) ∧ TellEnd tb pb base x nv (.slice la ln lc) sv dv mv (.slice a0 m ac) (m + q) xs w w')) := hid (by
    have hC : ∀ W, Chg w.drew W (fun k => k = tb ∨ (Value.slice a0 m ac).ownBlock = some k) → Chg w W (fun k => k = tb ∨ (Value.slice a0 m ac).ownBlock = some k) := fun W hW => (Chg.drew w _).trans hW fun _ _ e => e
    refine (tell_any18 (es := ls.drop (op * 2)) (L := L) w.drew (hP.below hbd) (h.below hbd) (row_below2 hr hbd) hb hm hq hLq (fun W hW => hT W (hC W hW)) (fun W hW => ?_) (by have := hL.1; simp; omega) (fun u hu => h1 u (List.mem_of_mem_drop hu)) (by omega)).mono fun e w' hE => ⟨hE.1, ?_⟩
    · refine lies_cut18 (row_chg18 hL (hC W hW) fun g hg hs => ?_) hop
      rcases hs with rfl | hs
      · exact row_apart18 hL h (by decide) hg
      · exact rows_apart18 hL hr (by decide) g hg hs
    · obtain ⟨a, c, ys, ⟨t, p, r, g, n⟩⟩ := hE.2
      exact ⟨a, c, ys, hid ⟨t, p, r, hC _ g, n⟩⟩)
  obtain ⟨⟨c0, c1, -⟩, tl, tf⟩ := h.rd
  obtain ⟨⟨-, -, p2, p3, -⟩, -, pl, pf⟩ := hP.rd
  clear pf tf h hP hr hL hT h1 hbd
  go_enter Try.func33, Try.ntmps33
  have z0 : w.drew.cell? ⟨tb, 0, none⟩ = some (.pointer (some ⟨pb, 0, none⟩)) ∧ w.drew.cell? ⟨pb, 2, none⟩ = some (.int .i64 x.cm) ∧ w.drew.cell? ⟨pb, 3, none⟩ = some (.slice la ln lc) ∧ tb < w.drew.heap.size ∧ pb < w.drew.heap.size := ⟨c0, p2, p3, tl, pl⟩
  have HS : Hid (∀ w5, TellEnd tb pb base x nv (.slice la ln lc) sv dv mv (.slice a0 m ac) (m + q) xs w w5 → w5.cell? ⟨tb, 0, none⟩ = some (.pointer (some ⟨pb, 0, none⟩)) ∧ w5.cell? ⟨pb, 2, none⟩ = some (.int .i64 x.cm) ∧ w5.cell? ⟨pb, 3, none⟩ = some (.slice la ln lc) ∧ tb < w5.heap.size ∧ pb < w5.heap.size) := hid fun w5 ⟨a, c, ys, ⟨t, p, r, g, n⟩⟩ => by
    obtain ⟨⟨d0, -⟩, d1, -⟩ := t.rd
    obtain ⟨⟨-, -, d2, d3, -⟩, -, d4, -⟩ := p.rd
    exact ⟨d0, d2, d3, d1, d4⟩
  by_cases hq0 : lc = op
  · rw [if_pos hq0] at HTl
    obtain rfl : ln = op := by omega
    obtain rfl : lc = ln := hq0
    clear hlc hop
    simp only [Nat.sub_self] at HTl
    go_region_held3 (fun W => W.cell? ⟨tb, 0, none⟩ = some (.pointer (some ⟨pb, 0, none⟩)) ∧ W.cell? ⟨pb, 2, none⟩ = some (.int .i64 x.cm) ∧ W.cell? ⟨pb, 3, none⟩ = some (.slice la lc lc) ∧ tb < W.heap.size ∧ pb < W.heap.size) (first | exact z0 | exact z5 | go_keep) (first
      | (go_at_call 47; refine HTl.out.mono ?_; clear HTl; rintro e w5 ⟨rfl, h5⟩; have z5 := HS.out _ h5)
      | fail)
    go_end0
    exact ⟨rfl, h5⟩
  · rw [if_neg hq0] at HTl
    go_region_held3 (fun W => W.cell? ⟨tb, 0, none⟩ = some (.pointer (some ⟨pb, 0, none⟩)) ∧ W.cell? ⟨pb, 2, none⟩ = some (.int .i64 x.cm) ∧ W.cell? ⟨pb, 3, none⟩ = some (.slice la ln lc) ∧ tb < W.heap.size ∧ pb < W.heap.size) (first | exact z0 | exact z5 | go_keep) (first
      | (go_at_call 47; refine HTl.out.mono ?_; clear HTl; rintro e w5 ⟨rfl, h5⟩; have z5 := HS.out _ h5)
      | fail)
    go_end0
    exact ⟨rfl, h5⟩
end Go.Proofs.Ytaonchdpnllhpaa
