/- Layer 18: a replica's part: Primary, primary, leads, others, matched. -/
import Derived.Test.YtaonchdpnllhpaaMD
import Derived.Test.YtaonchdpnllhpaaShelfc
import Derived.Deep.Cut
import Derived.Deep.QuietTactic
import Derived.BigQuiet
namespace Go.Proofs.Ytaonchdpnllhpaa
open Go.RowKit
/-- A part: its numbers; what its slices are stands beside it. -/
structure Pt where
  vw : Int
  la : Int
  cm : Int
  sent : Bool
  id : Nat
  n : Nat
  normal : Bool
  joins : Bool
  count : Int
def Pt.cells (x : Pt) (lv sv dv mv : Value) : Array Value := #[.int .i64 x.vw, .int .i64 x.la, .int .i64 x.cm, lv, sv, dv, .bool x.sent, .int .i64 x.id, .int .i64 x.n, .bool x.normal, .bool x.joins, .int .i64 x.count, mv]
def PtAt (pb : Nat) (x : Pt) (lv sv dv mv : Value) (W : World) : Prop := W.heap[pb]? = some (.cells (x.cells lv sv dv mv) 72 (0, 0))
theorem PtAt.rd {pb : Nat} {x : Pt} {lv sv dv mv : Value} {W : World} (h : PtAt pb x lv sv dv mv W) : (W.cell? ⟨pb, 0, none⟩ = some (.int .i64 x.vw) ∧ W.cell? ⟨pb, 1, none⟩ = some (.int .i64 x.la) ∧ W.cell? ⟨pb, 2, none⟩ = some (.int .i64 x.cm) ∧ W.cell? ⟨pb, 3, none⟩ = some lv ∧ W.cell? ⟨pb, 4, none⟩ = some sv ∧ W.cell? ⟨pb, 5, none⟩ = some dv ∧ W.cell? ⟨pb, 6, none⟩ = some (.bool x.sent)) ∧ (W.cell? ⟨pb, 7, none⟩ = some (.int .i64 x.id) ∧ W.cell? ⟨pb, 8, none⟩ = some (.int .i64 x.n) ∧ W.cell? ⟨pb, 9, none⟩ = some (.bool x.normal) ∧ W.cell? ⟨pb, 10, none⟩ = some (.bool x.joins) ∧ W.cell? ⟨pb, 11, none⟩ = some (.int .i64 x.count) ∧ W.cell? ⟨pb, 12, none⟩ = some mv) ∧ pb < W.heap.size ∧ ∀ k, W.frozen? ⟨pb, k, none⟩ = false :=
  ⟨⟨Lib.cell_of_heap h 0, Lib.cell_of_heap h 1, Lib.cell_of_heap h 2, Lib.cell_of_heap h 3, Lib.cell_of_heap h 4, Lib.cell_of_heap h 5, Lib.cell_of_heap h 6⟩, ⟨Lib.cell_of_heap h 7, Lib.cell_of_heap h 8, Lib.cell_of_heap h 9, Lib.cell_of_heap h 10, Lib.cell_of_heap h 11, Lib.cell_of_heap h 12⟩, (Array.getElem?_eq_some_iff.1 h).1, fun k => Lib.frozen_of_heap h k⟩
theorem PtAt.below {pb : Nat} {x : Pt} {lv sv dv mv : Value} {W W' : World} (h : PtAt pb x lv sv dv mv W) (b : Below W.heap.size W W') : PtAt pb x lv sv dv mv W' := (b.block pb (Array.getElem?_eq_some_iff.1 h).1).trans h
/-- The primary of a view that is none below 0. -/
theorem primary_any18 (v n : Nat) (hn : 1 ≤ n) (hv : v ≤ 9223372036854775807) (hn2 : n ≤ 9223372036854775807) (w : World) : Calls Try.prog 19 #[.int .i64 v, .int .i64 n] w fun e w' => e = .returned (.int .i64 ((v % n : Nat) : Int)) ∧ w' = w := by
  have h1 : Int.tmod (v : Int) (n : Int) = ((v % n : Nat) : Int) := by rw [Int.tmod_eq_emod_of_nonneg (by omega)]; rfl
  have hz : ¬ (n : Int) = 0 := by omega
  have h3 : v % n < n := Nat.mod_lt _ (by omega)
  go_enter Try.func19, Try.ntmps19
  go_wp2_with fail
  go_ret
  exact ⟨rfl, rfl⟩
theorem pprimary_any18 {pb : Nat} {x : Pt} {lv sv dv mv : Value} (v : Nat) (hv : x.vw = v) (hv2 : v ≤ 9223372036854775807) (hn : 1 ≤ x.n) (hn2 : x.n ≤ 7) (w : World) (h : PtAt pb x lv sv dv mv w) : Calls Try.prog 31 #[.pointer (some ⟨pb, 0, none⟩)] w fun e w' => e = .returned (.int .i64 ((v % x.n : Nat) : Int)) ∧ ∃ m, w' = w.drewN m := by
  obtain ⟨⟨c0, -⟩, ⟨-, c8, -⟩, hl, -⟩ := h.rd
  rw [hv] at c0
  have HP := hid fun W => primary_any18 v x.n hn hv2 (by omega) W
  clear h hv
  generalize x.n = n at *
  go_enter Try.func31, Try.ntmps31
  go_upto_region 1 with fail
  go_quiet (first | (go_at_call 19; exact Calls.quiet_of_same (HP.out _)))
  go_wp2_with fail
  go_ret
  exact ⟨rfl, _, rfl⟩
/-- It leads. -/
def Pt.leads (x : Pt) (v : Nat) : Bool := x.normal && decide (v % x.n = x.id)
theorem leads_any18 {pb : Nat} {x : Pt} {lv sv dv mv : Value} (v : Nat) (hv : x.vw = v) (hv2 : v ≤ 9223372036854775807) (hn : 1 ≤ x.n) (hn2 : x.n ≤ 7) (w : World) (h : PtAt pb x lv sv dv mv w) : Calls Try.prog 21 #[.pointer (some ⟨pb, 0, none⟩)] w fun e w' => e = .returned (.bool (x.leads v)) ∧ ∃ m, w' = w.drewN m := by
  obtain ⟨-, ⟨c7, -, c9, -⟩, hl, -⟩ := h.rd
  have HP : Hid (∀ k, Calls Try.prog 31 #[.pointer (some ⟨pb, 0, none⟩)] (w.drewN k) fun e w' => e = .returned (.int .i64 ((v % x.n : Nat) : Int)) ∧ ∃ m, w' = (w.drewN k).drewN m) := hid fun k => pprimary_any18 v hv hv2 hn hn2 _ (h.below (below_drewN (Below.refl _ _) k))
  clear h hv hv2
  have hL : x.leads v = (x.normal && decide (v % x.n = x.id)) := rfl
  have HL := hid hL
  clear hL
  generalize x.leads v = lv at *
  cases hno : x.normal with
  | false =>
    rw [hno] at c9 HL
    go_enter Try.func21, Try.ntmps21
    go_upto_region 1 with fail
    go_quiet (first | (go_at_call 31; exact Calls.quiet_of (HP.out _)))
    go_wp2_with fail
    go_ret
    exact ⟨by rw [HL.out]; rfl, _, rfl⟩
  | true =>
    rw [hno] at c9 HL
    have hd : decide (((v % x.n : Nat) : Int) = (x.id : Int)) = decide (v % x.n = x.id) := by
      by_cases e : v % x.n = x.id
      · rw [decide_eq_true e]; exact decide_eq_true (by omega)
      · rw [decide_eq_false e]; exact decide_eq_false (by omega)
    have HD := hid hd
    clear hd
    go_enter Try.func21, Try.ntmps21
    go_upto_region 1 with fail
    go_quiet (first | (go_at_call 31; exact Calls.quiet_of (HP.out _)))
    go_wp2_with fail
    go_ret
    have he : ((v : Int) % (x.n : Int) == (x.id : Int)) = decide (v % x.n = x.id) := by
      rw [← HD.out]
      have : ((v % x.n : Nat) : Int) = (v : Int) % (x.n : Int) := by omega
      rw [this]
      rfl
    exact ⟨by rw [HL.out, Bool.true_and]; exact congrArg (fun b => Ending.returned (.bool b)) he, _, rfl⟩
end Go.Proofs.Ytaonchdpnllhpaa
