/- Layer 18: a turn: save, rise. -/
import Derived.Test.YtaonchdpnllhpaaV8c
namespace Go.Proofs.Ytaonchdpnllhpaa
open Go.RowKit
theorem elemN_rec18 : ElemN Try.prog 32 85 5 56 := by
  obtain ⟨i0, hi, hz0, hz1, hz2⟩ := info_parts (show (Try.prog.info? 85).map (fun i => (i.zero, i.size, i.bytes)) = some (some (.agg #[.int .i64 0, .int .i64 0, .int .i64 0, .int .i64 0, .slice none 0 0]), 5, 56) by kernel_rfl)
  exact ⟨Try.underlying32, ⟨i0, _, hi, hz0, hz1, hz2, rfl⟩, by decide⟩
/-- A turn's box. -/
def TnAt (tb pb : Nat) (sv dv : Value) (W : World) : Prop := W.heap[tb]? = some (.cells #[.pointer (some ⟨pb, 0, none⟩), sv, dv] 74 (0, 0))
theorem TnAt.rd {tb pb : Nat} {sv dv : Value} {W : World} (h : TnAt tb pb sv dv W) : (W.cell? ⟨tb, 0, none⟩ = some (.pointer (some ⟨pb, 0, none⟩)) ∧ W.cell? ⟨tb, 1, none⟩ = some sv ∧ W.cell? ⟨tb, 2, none⟩ = some dv) ∧ tb < W.heap.size ∧ ∀ k, W.frozen? ⟨tb, k, none⟩ = false :=
  ⟨⟨Lib.cell_of_heap h 0, Lib.cell_of_heap h 1, Lib.cell_of_heap h 2⟩, (Array.getElem?_eq_some_iff.1 h).1, fun k => Lib.frozen_of_heap h k⟩
theorem TnAt.below {tb pb : Nat} {sv dv : Value} {W W' : World} (h : TnAt tb pb sv dv W) (b : Below W.heap.size W W') : TnAt tb pb sv dv W' := (b.block tb (Array.getElem?_eq_some_iff.1 h).1).trans h
/-- What save has done: the row was appended to, and stored. -/
def SaveEnd (tb base : Nat) (sv : Value) (m : Nat) (xs : List Value) (w : World) (e : Ending) (w' : World) : Prop := e = .returned (.tuple #[]) ∧ ∃ a c W5, Hid (w' = W5.setCell ⟨tb, 1, none⟩ (.slice a m c) ∧ W5.ownsRow base 85 5 (.slice a m c) m xs ∧ Step w sv W5 (.slice a m c))
set_option maxRecDepth 100000 in
theorem save_any18 {tb pb base m k : Nat} {a0 a : Option Addr} {c0 c : Nat} {dv : Value} {xs news : List Value} (w : World) (h : TnAt tb pb (.slice a0 m c0) dv w) (hr : w.ownsRow base 85 5 (.slice a0 m c0) m xs) (hne : (Value.slice a0 m c0).ownBlock ≠ some tb) (hb : base ≤ w.heap.size) (hl : Lies w (.slice a k c) k news) (hn : news.length = k * 5) (h1 : ∀ u ∈ news, u.oneCell' = true) (hs : m + k ≤ 1000000) :
    Calls Try.prog 46 #[.pointer (some ⟨tb, 0, none⟩), .slice a k c] w (SaveEnd tb base (.slice a0 m c0) (m + k) (xs ++ news) w) := by
  obtain ⟨⟨-, c1, -⟩, tl, -⟩ := h.rd
  have HT : Hid (∀ W5 v5, Step w (.slice a0 m c0) W5 v5 → W5.cell? ⟨tb, 1, none⟩ = some (.slice a0 m c0) ∧ W5.frozen? ⟨tb, 1, none⟩ = false ∧ tb < W5.heap.size) := hid fun W5 v5 hs => by
    have h5 : TnAt tb pb (.slice a0 m c0) dv W5 := (hs.1.block tb tl fun e => hne e.symm).trans h
    obtain ⟨⟨-, q1, -⟩, q2, q3⟩ := h5.rd
    exact ⟨q1, q3 1, q2⟩
  have H1 := hid h1
  clear h hne h1
  go_enter Try.func46, Try.ntmps46
  go_wp2_with (first
    | (at_builtin; refine wpList_appN _ rfl _ _ 32 rfl elemN_rec18 base (.slice a0 m c0) m xs rfl hr _ rfl k news hl hn H1.out (by unfold maxLen; omega) (by omega) hb ?_; intro v5 w5 hr5 hs5; obtain ⟨a5, c5, e5, -⟩ := row_form hr5; subst e5; obtain ⟨p1, p2, p3⟩ := HT.out _ _ hs5; have HR := hid (And.intro hr5 hs5); clear hr5 hs5 HT hr hl)
    | fail)
  go_end0
  exact ⟨rfl, a5, c5, w5, hid ⟨rfl, HR.out.1, HR.out.2⟩⟩
end Go.Proofs.Ytaonchdpnllhpaa
