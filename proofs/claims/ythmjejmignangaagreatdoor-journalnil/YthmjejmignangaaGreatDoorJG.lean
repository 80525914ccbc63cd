/- Layer 16: a part; what its looks answer. -/
import Derived.Test.YthmjejmignangaaGreatDoorEC
namespace Go.Proofs.YthmjejmignangaaGreatDoor
open Go.RowKit
/-- A part: epoch, number, count, index, bytes. -/
structure Prt where
  (e n c i : Int)
  b : Bt
  deriving DecidableEq
def Prt.cs (p : Prt) : List Value := [.int .i64 p.e, .int .i64 p.n, .int .i64 p.c, .int .i64 p.i, sv p.b]
def Prt.v (p : Prt) : Value := .agg #[.int .i64 p.e, .int .i64 p.n, .int .i64 p.c, .int .i64 p.i, sv p.b]
def noPrt : Prt := ⟨0, 0, 0, 0, []⟩
/-- Numbers of two bytes. -/
def Prt.sm (p : Prt) : Prop := (-9223372036854775808 ≤ p.e ∧ p.e ≤ 9223372036854775807) ∧ (-9223372036854775808 ≤ p.n ∧ p.n ≤ 9223372036854775807) ∧ (0 ≤ p.c ∧ p.c ≤ 65535) ∧ (0 ≤ p.i ∧ p.i ≤ 65535) ∧ p.b.length ≤ 9223372036854775807
def stmpB (n : Int) : Bool := decide (1 ≤ n) && decide (n ≤ 4611686018427387904)
def Prt.last (p : Prt) : Bool := decide (p.i = p.c - 1)
def Prt.may (p : Prt) : Bool := stmpB p.e && (stmpB p.n && (!decide (4096 < p.c) && (!decide (p.c ≤ p.i) && (if p.last then decide (0 < p.b.length) || decide (p.i = 0) else decide (p.b.length = 43)))))
def Prt.fol (p a : Prt) : Bool := if a.last then decide (p.i = 0) && (decide (p.n = a.n + 1) && decide (a.e ≤ p.e)) else decide (p.i = a.i + 1) && (decide (p.e = a.e) && (decide (p.n = a.n) && decide (p.c = a.c)))
theorem stamp_any (n : Int) (w : World) : Calls Tryz.prog 62 #[.int .i64 n] w fun e w' => e = .returned (.bool (stmpB n)) ∧ w' = w := by
  by_cases h : 1 ≤ n
  · have hs : stmpB n = decide (n ≤ 4611686018427387904) := by simp [stmpB, h]
    rw [hs]
    go_enter Tryz.func62, Tryz.ntmps62
    go_wp2_with fail
    go_ret
    exact ⟨rfl, rfl⟩
  · have hs : stmpB n = false := by simp [stmpB, h]
    rw [hs]
    go_enter Tryz.func62, Tryz.ntmps62
    go_wp2_with fail
    go_ret
    exact ⟨rfl, rfl⟩
/-- A part in a box. -/
theorem part_box (W : World) (p : Prt) : (W.alloc (.cells #[.int .i64 p.e, .int .i64 p.n, .int .i64 p.c, .int .i64 p.i, sv p.b] 71)).heap[W.heap.size]? = some (.cells #[.int .i64 p.e, .int .i64 p.n, .int .i64 p.c, .int .i64 p.i, sv p.b] 71 (0, 0)) := heap_alloc_new W _
theorem last_any (p : Prt) (hs : p.sm) (w : World) : Calls Tryz.prog 51 #[.agg #[.int .i64 p.e, .int .i64 p.n, .int .i64 p.c, .int .i64 p.i, sv p.b]] w fun e w' => e = .returned (.bool p.last) ∧ Below w.heap.size w w' := by
  have HL : Hid (p.last = decide (p.i = p.c - 1)) := hidb rfl
  obtain ⟨e, n, c, i, b⟩ := p
  obtain ⟨_, _, h1, _⟩ := hs
  simp only at h1 HL
  go_enter Tryz.func51, Tryz.ntmps51
  go_wp2_with fail
  go_ret
  rw [HL.out]
  exact ⟨by first | rfl | simp, (Below.refl _ w).alloc (Nat.le_refl _) _⟩
theorem part_cells {W : World} {q : Nat} {p : Prt} (h : W.heap[q]? = some (.cells #[.int .i64 p.e, .int .i64 p.n, .int .i64 p.c, .int .i64 p.i, sv p.b] 71 (0, 0))) : W.cell? ⟨q, 0, none⟩ = some (.int .i64 p.e) ∧ W.cell? ⟨q, 1, none⟩ = some (.int .i64 p.n) ∧ W.cell? ⟨q, 2, none⟩ = some (.int .i64 p.c) ∧ W.cell? ⟨q, 3, none⟩ = some (.int .i64 p.i) ∧ W.cell? ⟨q, 4, none⟩ = some (sv p.b) ∧ q < W.heap.size :=
  ⟨Lib.cell_of_heap h 0, Lib.cell_of_heap h 1, Lib.cell_of_heap h 2, Lib.cell_of_heap h 3, Lib.cell_of_heap h 4, heap_ltb h⟩
theorem eq_stmp (e n c e' n' c' : Int) (w : World) : (Op.equalIn 10000 69 (.agg #[.int .i64 e, .int .i64 n, .int .i64 c]) (.agg #[.int .i64 e', .int .i64 n', .int .i64 c'])).run Tryz.prog w = .ok (decide (e = e') && (decide (n = n') && decide (c = c'))) w := by
  have hS : Tryz.prog.underlying 69 = some (.struct (Tryz.prog.fieldsOf 69)) := by kernel_rfl
  rw [show (10000 : Nat) = 9999 + 1 from rfl, run_equalIn_agg w 9999 69 _ _ hS (by kernel_rfl)]
  simp only [Program.fieldsOf, Tryz.underlying69]
  go_simp
  by_cases h1 : e = e' <;> by_cases h2 : n = n' <;> by_cases h3 : c = c' <;> simp [h1, h2, h3]
attribute [local go_sem high] eq_stmp
set_option maxHeartbeats 1000000 in
set_option maxRecDepth 100000 in
theorem fol_any (p a : Prt) (hp : p.sm) (ha : a.sm) (han : a.n ≤ 4611686018427387904) (w : World) : Calls Tryz.prog 50 #[.agg #[.int .i64 p.e, .int .i64 p.n, .int .i64 p.c, .int .i64 p.i, sv p.b], .agg #[.int .i64 a.e, .int .i64 a.n, .int .i64 a.c, .int .i64 a.i, sv a.b]] w fun e w' => e = .returned (.bool (p.fol a)) ∧ Below w.heap.size w w' := by
  have HL := hidb (last_any a ha)
  have HF : Hid (p.fol a = if a.last then decide (p.i = 0) && (decide (p.n = a.n + 1) && decide (a.e ≤ p.e)) else decide (p.i = a.i + 1) && (decide (p.e = a.e) && (decide (p.n = a.n) && decide (p.c = a.c)))) := hidb rfl
  have HB : Hid (∀ W, Below ((w.alloc (.cells #[.int .i64 p.e, .int .i64 p.n, .int .i64 p.c, .int .i64 p.i, sv p.b] 71)).alloc (.cells #[.int .i64 a.e, .int .i64 a.n, .int .i64 a.c, .int .i64 a.i, sv a.b] 71)).heap.size ((w.alloc (.cells #[.int .i64 p.e, .int .i64 p.n, .int .i64 p.c, .int .i64 p.i, sv p.b] 71)).alloc (.cells #[.int .i64 a.e, .int .i64 a.n, .int .i64 a.c, .int .i64 a.i, sv a.b] 71)) W → W.heap[w.heap.size]? = some (.cells #[.int .i64 p.e, .int .i64 p.n, .int .i64 p.c, .int .i64 p.i, sv p.b] 71 (0, 0)) ∧ W.heap[w.heap.size + 1]? = some (.cells #[.int .i64 a.e, .int .i64 a.n, .int .i64 a.c, .int .i64 a.i, sv a.b] 71 (0, 0)) ∧ Below w.heap.size w W) := hidb fun W hb => by
    have b1 := part_box w p
    have b2 := part_box (w.alloc (.cells #[.int .i64 p.e, .int .i64 p.n, .int .i64 p.c, .int .i64 p.i, sv p.b] 71)) a
    have k2 := (Below.heap_alloc (w.alloc (.cells #[.int .i64 p.e, .int .i64 p.n, .int .i64 p.c, .int .i64 p.i, sv p.b] 71)) (.cells #[.int .i64 a.e, .int .i64 a.n, .int .i64 a.c, .int .i64 a.i, sv a.b] 71) w.heap.size (by simp)).trans b1
    rw [World.size_alloc] at b2
    have hw : Below w.heap.size w ((w.alloc (.cells #[.int .i64 p.e, .int .i64 p.n, .int .i64 p.c, .int .i64 p.i, sv p.b] 71)).alloc (.cells #[.int .i64 a.e, .int .i64 a.n, .int .i64 a.c, .int .i64 a.i, sv a.b] 71)) := ((Below.refl _ w).alloc (Nat.le_refl _) _).alloc (by simp) _
    exact ⟨(hb.block _ (heap_ltb k2)).trans k2, (hb.block _ (heap_ltb b2)).trans b2, hw.trans (hb.mono hw.size)⟩
  obtain ⟨pe, pn, pc, pi, pb⟩ := p
  obtain ⟨ae, an, ac, ai, ab⟩ := a
  obtain ⟨_, _, h1, _⟩ := hp
  obtain ⟨_, g0, _, g1, _⟩ := ha
  simp only at h1 g0 g1 HL HF HB han
  generalize (Prt.mk ae an ac ai ab).last = lst at HL HF
  have hw1 : IntKind.i64.wrap (an + 1) = an + 1 := by rw [IntKind.wrap_i64]; omega
  have hw2 : IntKind.i64.wrap (ai + 1) = ai + 1 := by rw [IntKind.wrap_i64]; omega
  cases lst with
  | true =>
    simp only [if_true] at HF
    go_enter Tryz.func50, Tryz.ntmps50
    go_wp2_with (first
      | (go_at_call 51; refine (HL.out _).mono ?_; clear HL; rintro e w1 ⟨rfl, hb⟩; obtain ⟨q1, q2, q3⟩ := HB.out w1 hb; obtain ⟨x0, x1, x2, x3, x4, x5⟩ := part_cells (p := ⟨pe, pn, pc, pi, pb⟩) q1; obtain ⟨y0, y1, y2, y3, y4, y5⟩ := part_cells (p := ⟨ae, an, ac, ai, ab⟩) q2; clear HB)
      | fail)
    all_goals (
      go_ret
      rw [HF.out]
      exact ⟨by simp [*], q3⟩)
  | false =>
    simp only [Bool.false_eq_true, if_false] at HF
    go_enter Tryz.func50, Tryz.ntmps50
    go_wp2_with (first
      | (go_at_call 51; refine (HL.out _).mono ?_; clear HL; rintro e w1 ⟨rfl, hb⟩; obtain ⟨q1, q2, q3⟩ := HB.out w1 hb; obtain ⟨x0, x1, x2, x3, x4, x5⟩ := part_cells (p := ⟨pe, pn, pc, pi, pb⟩) q1; obtain ⟨y0, y1, y2, y3, y4, y5⟩ := part_cells (p := ⟨ae, an, ac, ai, ab⟩) q2; clear HB)
      | fail)
    all_goals (
      go_ret
      rw [HF.out]
      exact ⟨by simp [*], q3⟩)
set_option maxHeartbeats 1000000 in
set_option maxRecDepth 100000 in
theorem may_any (p : Prt) (hp : p.sm) (w : World) : Calls Tryz.prog 74 #[.agg #[.int .i64 p.e, .int .i64 p.n, .int .i64 p.c, .int .i64 p.i, sv p.b]] w fun e w' => e = .returned (.bool p.may) ∧ Below w.heap.size w w' := by
  have HS1 := hidb (stamp_any p.e)
  have HS2 := hidb (stamp_any p.n)
  have HM : Hid (p.may = (stmpB p.e && (stmpB p.n && (!decide (4096 < p.c) && (!decide (p.c ≤ p.i) && (if p.last then decide (0 < p.b.length) || decide (p.i = 0) else decide (p.b.length = 43))))))) := hidb rfl
  have hb1 : Below w.heap.size w (w.alloc (.cells #[.int .i64 p.e, .int .i64 p.n, .int .i64 p.c, .int .i64 p.i, sv p.b] 71)) := (Below.refl _ w).alloc (Nat.le_refl _) _
  have HL : Hid (Calls Tryz.prog 51 #[.agg #[.int .i64 p.e, .int .i64 p.n, .int .i64 p.c, .int .i64 p.i, sv p.b]] (w.alloc (.cells #[.int .i64 p.e, .int .i64 p.n, .int .i64 p.c, .int .i64 p.i, sv p.b] 71)) fun e w' => e = .returned (.bool p.last) ∧ w'.heap[w.heap.size]? = some (.cells #[.int .i64 p.e, .int .i64 p.n, .int .i64 p.c, .int .i64 p.i, sv p.b] 71 (0, 0)) ∧ Below w.heap.size w w') := hidb ((last_any p hp _).mono fun e w' ⟨e1, b⟩ => ⟨e1, (b.block _ (heap_ltb (part_box w p))).trans (part_box w p), hb1.trans (b.mono hb1.size)⟩)
  obtain ⟨pe, pn, pc, pi, pb⟩ := p
  obtain ⟨_, _, h1, h2, h3⟩ := hp
  simp only at h1 h2 h3 HS1 HS2 HM HL hb1
  generalize (Prt.mk pe pn pc pi pb).last = lst at HL HM
  generalize stmpB pe = s1 at HS1 HM
  generalize stmpB pn = s2 at HS2 HM
  have HB1 := hidb hb1
  clear hb1 h1 h2
  have HP : Hid ((pb = [] ∧ decide ((0 : Int) < (pb.length : Int)) = false ∧ decide (0 < pb.length) = false) ∨ (decide ((0 : Int) < (pb.length : Int)) = true ∧ decide (0 < pb.length) = true)) := hidb (by
    cases pb with
    | nil => exact .inl ⟨rfl, rfl, rfl⟩
    | cons x l => exact .inr ⟨by simp, by simp⟩)
  have hq : ((pb.length : Int) == 43) = decide (pb.length = 43) := by
    by_cases h : pb.length = 43
    · simp [h]
    · have : ¬ (pb.length : Int) = 43 := by omega
      simp [h, this]
  have hz : (pi == 0) = decide (pi = 0) := rfl
  by_cases hc : 4096 < pc
  · have hc2 : decide (4096 < pc) = true := by simp [hc]
    clear HP HL
    cases s1 <;> cases s2
    all_goals (
      go_enter Tryz.func74, Tryz.ntmps74
      go_wp2_with (first
        | (go_at_call 62; refine (HS1.out _).mono ?_; clear HS1; rintro e w1 ⟨rfl, rfl⟩)
        | (go_at_call 62; refine (HS2.out _).mono ?_; clear HS2; rintro e w1 ⟨rfl, rfl⟩)
        | fail)
      go_ret
      rw [HM.out]
      exact ⟨by simp [hc2], HB1.out⟩)
  · have hc2 : decide (4096 < pc) = false := by simp [hc]
    by_cases hi : pc ≤ pi
    · have hi2 : decide (pc ≤ pi) = true := by simp [hi]
      clear HP HL
      cases s1 <;> cases s2
      all_goals (
        go_enter Tryz.func74, Tryz.ntmps74
        go_wp2_with (first
          | (go_at_call 62; refine (HS1.out _).mono ?_; clear HS1; rintro e w1 ⟨rfl, rfl⟩)
          | (go_at_call 62; refine (HS2.out _).mono ?_; clear HS2; rintro e w1 ⟨rfl, rfl⟩)
          | fail)
        go_ret
        rw [HM.out]
        exact ⟨by simp [hi2], HB1.out⟩)
    · have hi2 : decide (pc ≤ pi) = false := by simp [hi]
      cases s1 with
      | false =>
        clear HP HL
        go_enter Tryz.func74, Tryz.ntmps74
        go_wp2_with (first
          | (go_at_call 62; refine (HS1.out _).mono ?_; clear HS1; rintro e w1 ⟨rfl, rfl⟩)
          | fail)
        go_ret
        rw [HM.out]
        exact ⟨by simp, HB1.out⟩
      | true =>
        cases s2 with
        | false =>
          clear HP HL
          go_enter Tryz.func74, Tryz.ntmps74
          go_wp2_with (first
            | (go_at_call 62; refine (HS1.out _).mono ?_; clear HS1; rintro e w1 ⟨rfl, rfl⟩)
            | (go_at_call 62; refine (HS2.out _).mono ?_; clear HS2; rintro e w1 ⟨rfl, rfl⟩)
            | fail)
          go_ret
          rw [HM.out]
          exact ⟨by simp, HB1.out⟩
        | true =>
          cases lst with
          | false =>
            clear HP
            go_enter Tryz.func74, Tryz.ntmps74
            go_wp2_with (first
              | (go_at_call 62; refine (HS1.out _).mono ?_; clear HS1; rintro e w1 ⟨rfl, rfl⟩)
              | (go_at_call 62; refine (HS2.out _).mono ?_; clear HS2; rintro e w1 ⟨rfl, rfl⟩)
              | (go_at_call 51; refine HL.out.mono ?_; clear HL; rintro e w1 ⟨rfl, q1, HB3⟩; obtain ⟨x0, x1, x2, x3, x4, x5⟩ := part_cells (p := ⟨pe, pn, pc, pi, pb⟩) q1; simp only at x0 x1 x2 x3 x4)
              | fail)
            go_ret
            rw [HM.out]
            exact ⟨by simp [hc2, hi2], HB3⟩
          | true =>
            rcases HP.out with ⟨rfl, hl1, hl2⟩ | ⟨hl1, hl2⟩
            · go_enter Tryz.func74, Tryz.ntmps74
              go_wp2_with (first
                | (go_at_call 62; refine (HS1.out _).mono ?_; clear HS1; rintro e w1 ⟨rfl, rfl⟩)
                | (go_at_call 62; refine (HS2.out _).mono ?_; clear HS2; rintro e w1 ⟨rfl, rfl⟩)
                | (go_at_call 51; refine HL.out.mono ?_; clear HL; rintro e w1 ⟨rfl, q1, HB3⟩; obtain ⟨x0, x1, x2, x3, x4, x5⟩ := part_cells (p := ⟨pe, pn, pc, pi, []⟩) q1; simp only at x0 x1 x2 x3 x4)
                | fail)
              go_ret
              rw [HM.out]
              exact ⟨by simp [hc2, hi2], HB3⟩
            · go_enter Tryz.func74, Tryz.ntmps74
              go_wp2_with (first
                | (go_at_call 62; refine (HS1.out _).mono ?_; clear HS1; rintro e w1 ⟨rfl, rfl⟩)
                | (go_at_call 62; refine (HS2.out _).mono ?_; clear HS2; rintro e w1 ⟨rfl, rfl⟩)
                | (go_at_call 51; refine HL.out.mono ?_; clear HL; rintro e w1 ⟨rfl, q1, HB3⟩; obtain ⟨x0, x1, x2, x3, x4, x5⟩ := part_cells (p := ⟨pe, pn, pc, pi, pb⟩) q1; simp only at x0 x1 x2 x3 x4)
                | fail)
              go_ret
              rw [HM.out]
              exact ⟨by simp [hc2, hi2, hl2], HB3⟩
end Go.Proofs.YthmjejmignangaaGreatDoor
