/- The law ValueOrder. -/
import Derived.Test.YtdmmlgajgpmpbaaDoorVD
import Derived.Test.YtdmmlgajgpmpbaaDoorVK
namespace Go.Proofs.YtdmmlgajgpmpbaaDoor
open Go.RowKit Go.Shelf
attribute [local go_sem high] eq_val eq_val0
/-- Three values in three blocks. -/
def Three (w : World) (p : Nat) (x y z : Val) : Prop := (ValAt w p x ∧ ValAt w (p + 1) y) ∧ ValAt w (p + 1 + 1) z
theorem Three.keep {w w' : World} {p : Nat} {x y z : Val} (h : Three w p x y z) (hb : Below w.heap.size w w') : Three w' p x y z := ⟨⟨h.1.1.keep fun _ _ h => cell_below h hb, h.1.2.keep fun _ _ h => cell_below h hb⟩, h.2.keep fun _ _ h => cell_below h hb⟩
theorem three_new (w : World) (x y z : Val) : Three (((w.alloc x.box).alloc y.box).alloc z.box) w.heap.size x y z := by
  refine ⟨⟨((val_new w x).keep (keep_alloc _ _)).keep (keep_alloc _ _), ?_⟩, ?_⟩
  · have := (val_new (w.alloc x.box) y).keep (keep_alloc _ z.box)
    simpa using this
  · have := val_new ((w.alloc x.box).alloc y.box) z
    simpa using this
theorem pair_below {W w6 : World} {n : Nat} {o1 o2 : Obj} (h : Below ((W.alloc o1).alloc o2).heap.size ((W.alloc o1).alloc o2) w6) (hn : n ≤ W.heap.size) : Below n W w6 :=
  (((Below.refl _ W).alloc hn _).alloc (by simp; omega) _).trans (h.mono (by simp; omega))
set_option maxRecDepth 100000 in
set_option maxHeartbeats 1000000 in
theorem order_walk (x y z : Val) (w : World) (hL : Laid w) : Calls Tryd.prog 5 #[x.v, y.v, z.v] w fun e w' => e = .returned (.bool true) ∧ Below w.heap.size w w' := by
  have hxy := fun W => compare_any x y W
  have hyz := fun W => compare_any y z W
  have hxz := fun W => compare_any x z W
  have hyx := fun W => compare_any y x W
  have hr := fun W => rcompare_any x y W
  rw [rcmp_eq] at hr
  rw [cmp_neg] at hyx
  have t1 := cmp_tr1 x y z
  have t2 := cmp_tr2 x y z
  have r1 := cmp_range x y
  have r2 := cmp_range y z
  have r3 := cmp_range x z
  have z1 := cmp_zero x y
  generalize cmpV x y = ab at *
  generalize cmpV y z = bc at *
  generalize cmpV x z = ac at *
  have hS : ∀ W a b, Vs W a [x] → Vs W b [y] → Calls Tryd.prog 16 #[.slice a 1 1, .slice b 1 1] W fun e w' => e = .returned (.bool (ab == 0)) ∧ Below W.heap.size W w' := fun W a b ha hb => (same_gen a b 1 1 1 1 [x] [y] rfl rfl W ha hb (by decide) (by decide)).mono fun e w' ⟨he, k, hk⟩ => ⟨by rw [he, show (ab == 0) = decide (ab = 0) by by_cases h : ab = 0 <;> simp [h], z1]; simp, by rw [hk]; exact below_draws (Below.refl _ _) _⟩
  have hK := fun W hW => knows2_any W hW
  have T0 : Hid (Three (((w.alloc x.box).alloc y.box).alloc z.box) w.heap.size x y z) := hidV (three_new w x y z)
  have hb0 : Hid (Below w.heap.size w (((w.alloc x.box).alloc y.box).alloc z.box)) := hidV <| (((Below.refl _ w).alloc (Nat.le_refl _) _).alloc (by simp) _).alloc (by simp; omega) _
  obtain ⟨xt, xn, xb⟩ := x
  obtain ⟨yt, yn, yb⟩ := y
  obtain ⟨zt, zn, zb⟩ := z
  simp only [Val.v] at *
  clear z1
  have t1' : (decide (0 < ab) || decide (0 < bc) || decide (ac ≤ 0)) = true := by
    rcases t1 with h | h | h
    · simp [show 0 < ab from h]
    · simp [show 0 < bc from h]
    · simp [h]
  have t2' : (decide (ab < 0) || decide (bc < 0) || decide (0 ≤ ac)) = true := by
    rcases t2 with h | h | h
    · simp [h]
    · simp [h]
    · simp [show 0 ≤ ac from h]
  clear t1 t2
  · go_enter Tryd.func5, Tryd.ntmps5
    go_wp2_with (first | (go_at_call 25; first | (refine (hxy _).mono ?_; rintro e w1 ⟨rfl, hb1⟩; have T1 : Hid (Three w1 w.heap.size ⟨xt, xn, xb⟩ ⟨yt, yn, yb⟩ ⟨zt, zn, zb⟩) := hidV (T0.out.keep hb1); obtain ⟨⟨⟨c0, c1, c2⟩, ⟨c3, c4, c5⟩⟩, ⟨c6, c7, c8⟩⟩ := T1.out; clear hxy) | (refine (hyz _).mono ?_; rintro e w2 ⟨rfl, hb2⟩; have T2 : Hid (Three w2 w.heap.size ⟨xt, xn, xb⟩ ⟨yt, yn, yb⟩ ⟨zt, zn, zb⟩) := hidV (T1.out.keep hb2); obtain ⟨⟨⟨d0, d1, d2⟩, ⟨d3, d4, d5⟩⟩, ⟨d6, d7, d8⟩⟩ := T2.out; clear hyz) | (refine (hxz _).mono ?_; rintro e w3 ⟨rfl, hb3⟩; have T3 : Hid (Three w3 w.heap.size ⟨xt, xn, xb⟩ ⟨yt, yn, yb⟩ ⟨zt, zn, zb⟩) := hidV (T2.out.keep hb3); obtain ⟨⟨⟨e0, e1, e2⟩, ⟨e3, e4, e5⟩⟩, ⟨e6, e7, e8⟩⟩ := T3.out; clear hxz) | (refine (hyx _).mono ?_; rintro e w5 ⟨rfl, hb5⟩; have T5 : Hid (Three w5 w.heap.size ⟨xt, xn, xb⟩ ⟨yt, yn, yb⟩ ⟨zt, zn, zb⟩) := hidV (T4.out.keep hb5); obtain ⟨⟨⟨g0, g1, g2⟩, ⟨g3, g4, g5⟩⟩, ⟨g6, g7, g8⟩⟩ := T5.out; have l5 := World.block_lt_of_cell? _ _ g3; simp only at l5; have l6 := World.block_lt_of_cell? _ _ g0; simp only at l6; clear hyx)) | (go_at_call 26; (refine (hr _).mono ?_; rintro e w4 ⟨rfl, hb4⟩; have T4 : Hid (Three w4 w.heap.size ⟨xt, xn, xb⟩ ⟨yt, yn, yb⟩ ⟨zt, zn, zb⟩) := hidV (T3.out.keep hb4); obtain ⟨⟨⟨f0, f1, f2⟩, ⟨f3, f4, f5⟩⟩, ⟨f6, f7, f8⟩⟩ := T4.out; clear hr)) | (go_at_call 16; refine (hS _ _ _ ((vsOne w5 ⟨xt, xn, xb⟩ w5.heap.size rfl).keep ((Below.refl _ _).alloc (Nat.le_refl _) _)) (vsOne (w5.alloc (Val.box ⟨xt, xn, xb⟩)) ⟨yt, yn, yb⟩ (w5.heap.size + 1) (by simp))).mono ?_; rintro e w6 ⟨rfl, hb6⟩; have hbw : Below w.heap.size w w6 := ((((((hb0.out.trans (hb1.mono hb0.out.size)).trans (hb2.mono (Nat.le_trans hb0.out.size hb1.size))).trans (hb3.mono (Nat.le_trans (Nat.le_trans hb0.out.size hb1.size) hb2.size))).trans (hb4.mono (Nat.le_trans (Nat.le_trans (Nat.le_trans hb0.out.size hb1.size) hb2.size) hb3.size))).trans (hb5.mono (Nat.le_trans (Nat.le_trans (Nat.le_trans (Nat.le_trans hb0.out.size hb1.size) hb2.size) hb3.size) hb4.size))).trans (pair_below hb6 (by omega))); have hL6 := hL.keep hbw; clear hS) | (go_at_call 19; refine (hK _ hL6).mono ?_; rintro e w7 ⟨rfl, hb7⟩; clear hK))
    all_goals first | (exfalso; simp_all; done) | (go_ret; exact ⟨by first | rfl | simp_all, hbw.trans (hb7.mono hbw.size)⟩)
end Go.Proofs.YtdmmlgajgpmpbaaDoor
