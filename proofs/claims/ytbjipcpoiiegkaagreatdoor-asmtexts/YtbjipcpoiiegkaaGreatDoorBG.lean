/- The document's addInstr, add. -/
import Derived.Test.YtbjipcpoiiegkaaGreatDoorBF
import Derived.Test.YtbjipcpoiiegkaaGreatDoorBP
import Derived.Test.YtbjipcpoiiegkaaGreatDoorAX
import Derived.Deep.RegionLaw
import Derived.BigQuiet
namespace Go.Proofs.YtbjipcpoiiegkaaGreatDoor
open Go.RowKit Go.Shelf
/-- One line more was added, or none. -/
def AddEnd (B k : Nat) (r : Option Scr) (W : World) (e : Ending) (w' : World) : Prop := e = .returned (.bool r.isSome) ∧ Below B W w' ∧ ∀ S, r = some S → ∃ cs L v0 v1, S = ⟨cs, L.map (·.1)⟩ ∧ RL B cs L v0 v1 w' ∧ Few (k + 1) cs L
/-- What comes of an instruction's line. -/
def instrS (S : Scr) (l : List UInt8) : Option Scr := if S.funcs = [] then none else (insS l).map fun x => ⟨S.consts, addLast S.funcs x⟩
theorem RL.size {B : Nat} {cs : List (List UInt8)} {L : List (Fn × FV)} {v0 v1 : Value} {W : World} (h : RL B cs L v0 v1 W) : B + 1 ≤ W.heap.size := lt_of_block h.box
set_option maxRecDepth 100000 in
set_option maxHeartbeats 2000000 in
theorem raddInstr_any (B k : Nat) (hk : k ≤ 65537) (line : List UInt8) (hl : line.length ≤ 1048576) (cs : List (List UInt8)) (L : List (Fn × FV)) (v0 v1 : Value) (W : World) (R : RL B cs L v0 v1 W) (few : Few k cs L) :
    Calls Tryz.prog 67 #[.pointer (some ⟨B, 0, none⟩), .string ⟨line.toArray⟩] W (AddEnd B k (instrS ⟨cs, L.map (·.1)⟩ line) W) := by
  have hRd := rread_any line hl W
  have szB := R.size
  have hbad : ∀ W2, Below W.heap.size W W2 → Below B W W2 := fun W2 h => h.mono (by omega)
  cases ho : insS line with
  | none =>
    rw [ho] at hRd
    have HE : Hid (instrS ⟨cs, L.map (·.1)⟩ line = none) := hid (by unfold instrS; rw [ho]; simp)
    go_enter Tryz.func67, Tryz.ntmps67
    go_wp2_with (go_at_call 9; refine hRd.mono ?_; rintro e w3 ⟨rfl, hb3⟩; simp only [Option.getD_none])
    go_ret
    refine ⟨by rw [HE.out]; rfl, (hbad _ hb3).alloc (by have := hb3.size; omega) _, fun S e => by rw [HE.out] at e; cases e⟩
  | some x =>
    rw [ho] at hRd
    obtain ⟨xo, xa⟩ := x
    by_cases hL : L = []
    · subst hL
      have HE : Hid (instrS ⟨cs, []⟩ line = none) := hid (by unfold instrS; simp)
      obtain ⟨a1, c1, e1, _⟩ := row_form R.rf
      subst e1
      simp only [List.length_nil, List.map_nil] at *
      go_enter Tryz.func67, Tryz.ntmps67
      go_wp2_with (go_at_call 9; refine hRd.mono ?_; rintro e w3 ⟨rfl, hb3⟩; simp only [Option.getD_some]; have r3 := R.keep hb3; obtain ⟨p0, p1, z0, z1⟩ := cells2 r3.box; have sz3 : B < w3.heap.size := r3.size)
      go_ret
      refine ⟨by rw [HE.out]; rfl, (hbad _ hb3).alloc (by have := hb3.size; omega) _, fun S e => by rw [HE.out] at e; cases e⟩
    · obtain ⟨L', ⟨f, y⟩, hLc⟩ := List.eq_nil_or_concat L |>.resolve_left hL
      rw [List.concat_eq_append] at hLc
      subst hLc
      have HE : Hid (∀ z : FV, instrS ⟨cs, (L' ++ [(f, y)]).map (·.1)⟩ line = some ⟨cs, (L' ++ [(f.add (xo, xa), z)]).map (·.1)⟩) := hid (fun z => by
        unfold instrS
        rw [if_neg (by simp), ho]
        simp only [Option.map_some]
        rw [addLast_map (z := z)])
      generalize instrS ⟨cs, (L' ++ [(f, y)]).map (·.1)⟩ line = rr at HE ⊢
      clear hL
      have fI := few.i (f, y) (by simp)
      have fL : L'.length + 1 ≤ k := by have := few.f; simpa using this
      obtain ⟨a1, c1, e1, _, _, hc⟩ := row_form R.rf
      rw [show (L' ++ [(f, y)]).length = L'.length + 1 by simp] at e1 hc
      obtain ⟨g, rfl, hgB⟩ : ∃ g, a1 = some ⟨g, 0, none⟩ ∧ B + 1 ≤ g := by
        rcases hc with ⟨_, h0, _⟩ | ⟨g, h, h2, _⟩
        · omega
        · exact ⟨g, h, h2⟩
      clear hc
      subst e1
      have HLast := hid (fun W (h : RL B cs (L' ++ [(f, y)]) v0 (.slice (some ⟨g, 0, none⟩) (L'.length + 1) c1) W) => h.last)
      go_enter Tryz.func67, Tryz.ntmps67
      go_wp2_with (go_at_call 9; refine hRd.mono ?_; rintro e w3 ⟨rfl, hb3⟩; simp only [Option.getD_some]; have r3 := R.keep hb3; obtain ⟨p0, p1, z0, z1⟩ := cells2 r3.box; have sz3 : B < w3.heap.size := r3.size; have bx4 := (Below.refl _ w3).alloc (Nat.le_refl _) (.cells #[.int .i64 xo, .int .i64 xa] 23); have r4 := r3.keep bx4; obtain ⟨l0, l1, l2⟩ := HLast.out _ r3)
      go_quiet (fail)
      go_wp2_with fail
      have hq0 := heap_alloc_new w3 (.cells #[.int .i64 xo, .int .i64 xa] 23)
      have bq := below_draws (Below.refl (w3.alloc (.cells #[.int .i64 xo, .int .i64 xa] 23)).heap.size (w3.alloc (.cells #[.int .i64 xo, .int .i64 xa] 23))) nq
      have b3q := bx4.trans (bq.mono bx4.size)
      generalize (w3.alloc (.cells #[.int .i64 xo, .int .i64 xa] 23)).drewN nq = Wq at *
      have rq := r4.keep bq
      obtain ⟨x0, x1, _, _⟩ := cells2 ((bq.block _ (lt_of_block hq0)).trans hq0)
      have hlx := lt_of_block ((bq.block _ (lt_of_block hq0)).trans hq0)
      obtain ⟨o0, o1, o2⟩ := HLast.out _ rq
      clear l0 l1 l2 p0 p1 z0 z1 hq0
      have bx5 := (Below.refl _ Wq).drew.alloc (Nat.le_refl _) (.cells #[.int .i64 xo, .int .i64 xa] 23)
      have r5 := rq.keep bx5
      have hrc := (r5.each (f, y) (by simp)).2
      have szq := rq.size
      go_region_law (first
        | (refine step_appN _ (by rfl) (.tmp 38) (.tmp 40) 30 (by rfl) elemN_ins (B + 1) y.c f.code.length (cellsI f.code) (by rfl) hrc _ (by rfl) 1 [.int .i64 xo, .int .i64 xa] (.inr ⟨⟨_, 0, none⟩, 1, rfl, cells_new5 _ [.int .i64 xo, .int .i64 xa] 23 _ rfl⟩) rfl (by simp [Value.oneCell']) (by unfold maxLen; omega) (by omega) (by simp; omega) ?_; intro v' w6 hr6 hs6; obtain ⟨i0, i1⟩ := r5.lastStep hs6; obtain ⟨vy, vm, vd, rfl⟩ := row_slice hr6))
      all_goals
        have R6 := r5.instr (x := (xo, xa)) hr6 hs6
        have hb6 := ((hbad _ hb3).trans ((b3q.trans (bx5.mono b3q.size)).mono (by have := hb3.size; omega))).trans ((hs6.below (B := B + 1) (by simp; omega) fun g e => (hrc.lt g e).1).mono (by omega))
        go_wp2_with fail
        go_ret
        refine ⟨by rw [HE.out y]; rfl, hb6.setCell (p := ⟨g, L'.length * 4 + 3, none⟩) (by show B ≤ g; omega) _, fun S e => ?_⟩
        rw [HE.out { y with c := .slice vy vm vd }] at e
        cases e
        exact ⟨cs, _, _, _, rfl, R6, few.instr⟩
end Go.Proofs.YtbjipcpoiiegkaaGreatDoor
