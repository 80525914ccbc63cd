/- Layer 8: Order and Deep of the law's script. Layer 8: the law's knows. Layer 8: a script in its box, and its copy; what Graph answers, in one form. -/
import Derived.Test.YtikomfbpaimnmaaXO
import Derived.Test.YtikomfbpaimnmaaXS
import Derived.Test.YtikomfbpaimnmaaCB
import Derived.Test.YtikomfbpaimnmaaCS
namespace Go.Proofs.Ytikomfbpaimnmaa
open Go.RowKit
theorem KEnd.keep {w W W' : World} {p fb : Nat} (h : KEnd w W p fb) (b : Below W.heap.size W W') : KEnd w W' p fb := by
  have kk := below_keep b
  exact ⟨kk _ _ h.1, kk _ _ h.2.1, Nat.lt_of_lt_of_le h.2.2.1 b.size, h.2.2.2.1.keep kk, h.2.2.2.2.trans (b.mono h.2.2.2.2.size)⟩
theorem kS_fits : kS.fits := by
  refine ⟨by decide, by decide, fun f hf => ?_, fun x hx => by cases hx⟩
  simp only [kS, List.mem_cons, List.not_mem_nil, or_false] at hf
  rcases hf with rfl | rfl | rfl <;> (unfold Fn.fits; simp)
theorem kS_ord : kS.right = true ∧ ordS 3 (gF kS) = some [2, 1, 0] := by decide +kernel
theorem know_order {w : World} (W : World) (p fb : Nat) (h : KEnd w W p fb) : Calls Try.prog 18 #[.agg #[.slice none 0 0, .slice (some ⟨fb, 0, none⟩) 3 3]] W fun e w2 => ∃ la lc, e = .returned (.tuple #[.slice la 3 lc, .int .i64 0]) ∧ w2.cell? ⟨p, 0, none⟩ = some (.slice none 0 0) ∧ w2.cell? ⟨p, 1, none⟩ = some (.slice (some ⟨fb, 0, none⟩) 3 3) ∧ Hid (KEnd w w2 p fb ∧ NsAt w2.cell? la [2, 1, 0]) := by
  refine (order_any kS _ _ W ⟨⟨none, 0, rfl, .inl rfl⟩, ⟨_, 3, rfl, h.2.2.2.1⟩⟩ kS_fits).mono fun e w2 ⟨h1, h2⟩ => ?_
  have h3 := h.keep h1
  rw [if_pos kS_ord.1, show ordS kS.funcs.length (gF kS) = some [2, 1, 0] from kS_ord.2] at h2
  obtain ⟨la, lc, e1, e2⟩ := h2
  exact ⟨la, lc, e1, h3.1, h3.2.1, hid7 ⟨h3, e2⟩⟩
theorem know_deep {w : World} (W : World) (p fb : Nat) (h : KEnd w W p fb) : Calls Try.prog 20 #[.agg #[.slice none 0 0, .slice (some ⟨fb, 0, none⟩) 3 3]] W fun e w2 => ∃ la lc, e = .returned (.tuple #[.slice la 3 lc, .int .i64 0]) ∧ Hid (Below W.heap.size W w2 ∧ NsAt w2.cell? la [3, 2, 1]) := by
  refine (deep_any kS _ _ W ⟨⟨none, 0, rfl, .inl rfl⟩, ⟨_, 3, rfl, h.2.2.2.1⟩⟩ kS_fits).mono fun e w2 ⟨h1, h2⟩ => ?_
  rw [if_pos kS_ord.1, show ordS kS.funcs.length (gF kS) = some [2, 1, 0] from kS_ord.2, if_neg (by simp)] at h2
  obtain ⟨la, lc, d, e1, e2, e3, _⟩ := h2
  refine ⟨la, lc, e1, hid7 ⟨h1, ?_⟩⟩
  have hd : DeepIs 3 (gF kS) (fun x => 3 - x) := by
    intro x hx
    match x, hx with
    | 0, _ => decide +kernel
    | 1, _ => decide +kernel
    | 2, _ => decide +kernel
  have hu := deep_uniq (graph_inn kS).1 e3 hd
  have : deepL kS d = [3, 2, 1] := by
    show [(d 0 : Int), (d 1 : Int), (d 2 : Int)] = _
    rw [hu 0 (by decide), hu 1 (by decide), hu 2 (by decide)]
    rfl
  rw [← this]
  exact e2
end Go.Proofs.Ytikomfbpaimnmaa
namespace Go.Proofs.Ytikomfbpaimnmaa
open Go.RowKit
theorem know_ints (x y z : Int) (W0 W : World) (la : Option Addr) (lc : Nat) (h : NsAt W0.cell? la [x, y, z]) (hb : Below W0.heap.size W0 W) : Calls Try.prog 13 #[.slice la 3 lc, .slice (some ⟨W.heap.size, 0, none⟩) 3 3] (W.alloc (.cells #[.int .i64 x, .int .i64 y, .int .i64 z] 3)) fun e w' => e = .returned (.bool true) ∧ Hid (Below W.heap.size W w') := by
  have b1 := (Below.refl _ W).alloc (Nat.le_refl _) (.cells #[.int .i64 x, .int .i64 y, .int .i64 z] 3)
  have e1 := heap_alloc_new W (.cells #[.int .i64 x, .int .i64 y, .int .i64 z] 3)
  have h2 : NsAt (W.alloc (.cells #[.int .i64 x, .int .i64 y, .int .i64 z] 3)).cell? (some ⟨W.heap.size, 0, none⟩) [x, y, z] := by
    refine .inr ⟨_, 0, rfl, fun j hj => ?_⟩
    rw [Nat.zero_add, Lib.cell_of_heap e1]
    match j, hj with
    | 0, _ => rfl
    | 1, _ => rfl
    | 2, _ => rfl
  have := lints_any la (some ⟨W.heap.size, 0, none⟩) lc 3 3 3 [x, y, z] [x, y, z] rfl rfl _ ((h.keep (below_keep hb)).keep (below_keep b1)) h2 (by omega) (by omega)
  refine this.mono fun e w' ⟨q1, k, q2⟩ => ⟨by rw [q1]; simp, hid7 ?_⟩
  rw [q2]
  exact b1.trans ⟨rfl, rfl, rfl, Nat.le_refl _, fun _ _ => rfl⟩
set_option maxRecDepth 100000 in
set_option maxHeartbeats 1000000 in
theorem knows8_any (w : World) : Calls Try.prog 17 #[] w fun e w' => e = .returned (.bool true) ∧ Below w.heap.size w w' := by
  have F1 := hid7 (func1_any 1 w)
  have F2 := hid7 fun W => func1_any 2 W
  go_enter Try.func17, Try.ntmps17
  go_wp2_with (first
    | (go_at_call 30; refine F1.out.mono ?_; clear F1; rintro e w1 ⟨b1, rfl, q1, q2, q3⟩; have HQ := hid7 (And.intro q1 (And.intro q2 q3)); have s1 := q3.size; clear q1 q2 q3)
    | (at_builtin; refine wpList_appN _ rfl _ _ 47 rfl elemN_ins w.heap.size _ 1 [.int .i64 53, .int .i64 1] rfl (know_row HQ.out.1 HQ.out.2.1 _ _) _ rfl 1 [.int .i64 53, .int .i64 2] (.inr ⟨⟨_, 0, none⟩, 1, rfl, cells_new8 _ [.int .i64 53, .int .i64 2] 51 _ (by simp)⟩) rfl (by simp [Value.oneCell']) (by unfold maxLen; omega) (by omega) (by simp; omega) ?_; intro v' w6 hr6 hs6; obtain ⟨va6, vc6, e6, _, _⟩ := row_form hr6; subst e6; have hx6 := know_cells (heap_lt HQ.out.2.1) rfl _ hs6; have d0 := Lib.cell_of_heap hx6 0; have d1 := Lib.cell_of_heap hx6 1; have d2 := Lib.cell_of_heap hx6 2; have d3 := Lib.cell_of_heap hx6 3; have d4 := Lib.frozen_of_heap hx6 3; have H6 := hid7 (And.intro hr6 (And.intro hs6 hx6)); clear hr6 hs6 hx6)
    | fail)
  have hI7 : Hid (IsAt (w6.setCell ⟨w1.heap.size, 3, none⟩ (.slice va6 2 vc6)).cell? va6 [(53, 1), (53, 2)] ∧ Below w.heap.size w (w6.setCell ⟨w1.heap.size, 3, none⟩ (.slice va6 2 vc6))) := hid7 (know_code H6.out.1 H6.out.2.1 HQ.out _ rfl)
  have hx7 : (w6.setCell ⟨w1.heap.size, 3, none⟩ (.slice va6 2 vc6)).heap[w1.heap.size]? = some (.cells #[.slice none 0 0, .slice none 0 0, .slice none 0 0, .slice va6 2 vc6] 49 (0, 0)) := heap_setCell_same _ _ _ _ _ _ H6.out.2.2
  generalize w6.setCell ⟨w1.heap.size, 3, none⟩ (.slice va6 2 vc6) = w7 at *
  generalize w1.heap.size = cb at *
  have f0 : w7.cell? ⟨cb, 0, none⟩ = some (.slice none 0 0) := Lib.cell_of_heap hx7 0
  have f1 : w7.cell? ⟨cb, 1, none⟩ = some (.slice none 0 0) := Lib.cell_of_heap hx7 1
  have f2 : w7.cell? ⟨cb, 2, none⟩ = some (.slice none 0 0) := Lib.cell_of_heap hx7 2
  have f3 : w7.cell? ⟨cb, 3, none⟩ = some (.slice va6 2 vc6) := Lib.cell_of_heap hx7 3
  have f4 : cb < w7.heap.size := heap_lt hx7
  clear H6 HQ d0 d1 d2 d3 d4 hx7 s1
  have HF2 : Hid (∀ W, Below w7.heap.size w7 W → Calls Try.prog 30 #[.int .i64 2] W fun e w8 => ∃ b8, e = .returned (.agg #[.slice none 0 0, .slice none 0 0, .slice none 0 0, .slice (some ⟨b8, 0, none⟩) 1 1]) ∧ w8.cell? ⟨cb, 0, none⟩ = some (.slice none 0 0) ∧ w8.cell? ⟨cb, 1, none⟩ = some (.slice none 0 0) ∧ w8.cell? ⟨cb, 2, none⟩ = some (.slice none 0 0) ∧ w8.cell? ⟨cb, 3, none⟩ = some (.slice va6 2 vc6) ∧ cb < w8.heap.size ∧ Hid (IsAt w8.cell? va6 [(53, 1), (53, 2)] ∧ IsAt w8.cell? (some ⟨b8, 0, none⟩) [(53, 2)] ∧ Below w.heap.size w w8) ∧ Hid (Below W.heap.size W w8 ∧ W.heap.size ≤ b8)) := hid7 fun W hW => (F2.out W).mono fun e w8 ⟨b8, h1, h2, h3, h4⟩ => by
    have bb : Below w7.heap.size w7 w8 := hW.trans (h4.mono hW.size)
    have kk := below_keep bb
    refine ⟨b8, h1, kk _ _ f0, kk _ _ f1, kk _ _ f2, kk _ _ f3, Nat.lt_of_lt_of_le f4 bb.size, hid7 ⟨hI7.out.1.keep kk, .inr ⟨b8, 0, rfl, fun j hj => ?_⟩, hI7.out.2.trans (bb.mono hI7.out.2.size)⟩, hid7 ⟨h4, h2⟩⟩
    match j, hj with
    | 0, _ => exact ⟨Lib.cell_of_heap h3 0, Lib.cell_of_heap h3 1⟩
  have HFb : Hid (Calls Try.prog 30 #[.int .i64 2] (w7.drew.alloc (.cells #[.slice none 0 0, .slice none 0 0] 25)) fun e w8 => ∃ b8, e = .returned (.agg #[.slice none 0 0, .slice none 0 0, .slice none 0 0, .slice (some ⟨b8, 0, none⟩) 1 1]) ∧ w8.cell? ⟨cb, 0, none⟩ = some (.slice none 0 0) ∧ w8.cell? ⟨cb, 1, none⟩ = some (.slice none 0 0) ∧ w8.cell? ⟨cb, 2, none⟩ = some (.slice none 0 0) ∧ w8.cell? ⟨cb, 3, none⟩ = some (.slice va6 2 vc6) ∧ cb < w8.heap.size ∧ w8.cell? ⟨w7.heap.size, 0, none⟩ = some (.slice none 0 0) ∧ w8.cell? ⟨w7.heap.size, 1, none⟩ = some (.slice none 0 0) ∧ w8.frozen? ⟨w7.heap.size, 0, none⟩ = false ∧ w8.frozen? ⟨w7.heap.size, 1, none⟩ = false ∧ w7.heap.size < w8.heap.size ∧ Hid (KEnd w (((w8.setCell ⟨w7.heap.size, 0, none⟩ (.slice none 0 0)).setCell ⟨w7.heap.size, 1, none⟩ (.slice (some ⟨w8.heap.size, 0, none⟩) 3 3)).alloc (.cells #[.slice none 0 0, .slice none 0 0, .slice none 0 0, .slice va6 2 vc6, .slice none 0 0, .slice none 0 0, .slice none 0 0, .slice (some ⟨b8, 0, none⟩) 1 1, .slice none 0 0, .slice none 0 0, .slice none 0 0, .slice none 0 0] 49)) w7.heap.size w8.heap.size)) := hid7 ((HF2.out _ (((Below.refl _ _).drew).alloc (Nat.le_refl _) _)).mono fun e w8 ⟨b8, h1, h2, h3, h4, h5, h6, h7, h8⟩ => by
    have hb := (h8.out.1.block w7.heap.size (by simp)).trans (heap_alloc_new w7.drew (.cells #[.slice none 0 0, .slice none 0 0] 25))
    exact ⟨b8, h1, h2, h3, h4, h5, h6, Lib.cell_of_heap hb 0, Lib.cell_of_heap hb 1, Lib.frozen_of_heap hb 0, Lib.frozen_of_heap hb 1, heap_lt hb, hid7 (k_A hI7.out.2.size hI7.out.1 h7.out.1 h7.out.2.1 (by have := h8.out.2; simp at this; omega) h7.out.2.2 hb)⟩)
  clear F2
  go_cut [2] (fun sv wx => ∃ p fb, sv = .pointer (some ⟨p, 0, none⟩) ∧ KEnd w wx p fb)
  case first =>
    go_region_with (first
      | (go_at_call 30; refine (HF2.out w7.drew (Below.refl _ _).drew).mono ?_; clear HF2 HFb; rintro e w8 ⟨b8, rfl, g0, g1, g2, g3, g4, G8, G9⟩)
      | (go_at_call 30; refine HFb.out.mono ?_; clear HF2 HFb; rintro e w8 ⟨b8, rfl, g0, g1, g2, g3, g4, k0, k1, k2, k3, k4, G8⟩)
      | fail)
    all_goals
      go_wp2_with fail
      go_meet
      first
          | exact ⟨_, _, rfl, k_B (vc := vc6) G8.out.1 G8.out.2.1 G8.out.2.2⟩
          | exact ⟨_, _, rfl, k_C (vc := vc6) G8.out.1 G8.out.2.1 G8.out.2.2⟩
          | exact ⟨_, _, rfl, G8.out⟩
  case rest =>
    obtain ⟨p9, fb9, rfl, K9⟩ := hcut
    have c0 := K9.1
    have c1 := K9.2.1
    have HK := hid7 K9
    have HO := hid7 (know_order wc p9 fb9 K9)
    have HDp : Hid (∀ W, KEnd w W p9 fb9 → Calls Try.prog 20 #[.agg #[.slice none 0 0, .slice (some ⟨fb9, 0, none⟩) 3 3]] W fun e w2 => ∃ la lc, e = .returned (.tuple #[.slice la 3 lc, .int .i64 0]) ∧ Hid (Below W.heap.size W w2 ∧ NsAt w2.cell? la [3, 2, 1])) := hid7 fun W h => know_deep W p9 fb9 h
    clear HF2 HFb K9 f0 f1 f2 f3 f4 hI7
    go_wp2_with (first
      | (go_at_call 18; refine HO.out.mono ?_; clear HO; rintro e w2 ⟨la, lc, rfl, o0, o1, K2⟩)
      | (go_at_call 20; refine (HDp.out _ K2.out.1).mono ?_; clear HDp; rintro e w3 ⟨ld, dc, rfl, K3⟩)
      | (go_at_call 12; refine (num8_any 0 _).mono ?_; rintro e w5 ⟨rfl, w5e⟩; rw [w5e]; clear w5e)
      | (go_at_call 13; refine (know_ints 2 1 0 w2 w3 la lc K2.out.2 K3.out.1).mono ?_; rintro e w6 ⟨rfl, K6⟩; have L3 := K3; clear K3)
      | (go_at_call 13; refine (know_ints 3 2 1 w3 w6 ld dc L3.out.2 K6.out).mono ?_; rintro e w7z ⟨rfl, K7⟩)
      | fail)
    go_ret
    exact ⟨rfl, (((K2.out.1.2.2.2.2).trans (L3.out.1.mono K2.out.1.2.2.2.2.size)).trans (K6.out.mono (Nat.le_trans K2.out.1.2.2.2.2.size L3.out.1.size))).trans (K7.out.mono (Nat.le_trans (Nat.le_trans K2.out.1.2.2.2.2.size L3.out.1.size) K6.out.size))⟩
end Go.Proofs.Ytikomfbpaimnmaa
namespace Go.Proofs.Ytikomfbpaimnmaa
open Go.RowKit
/-- The script in its box, a copy of it in another one. -/
structure Bx2 (s : Scr) (V0 V1 u0 u1 : Value) (X : Nat) (w W : World) : Prop where
  b : Below w.heap.size w W
  sb : W.heap[w.heap.size]? = some (.cells #[V0, V1] 25 (0, 0))
  x : W.heap[X]? = some (.cells #[u0, u1] 25 (0, 0))
  c : ScIs W.cell? s u0 u1
theorem Bx2.below {s : Scr} {V0 V1 u0 u1 : Value} {X : Nat} {w W W' : World} (h : Bx2 s V0 V1 u0 u1 X w W) (hb : Below W.heap.size W W') : Bx2 s V0 V1 u0 u1 X w W' :=
  ⟨h.b.trans (hb.mono h.b.size), (hb.block _ (heap_lt h.sb)).trans h.sb, (hb.block _ (heap_lt h.x)).trans h.x, h.c.keep (below_keep hb)⟩
theorem Bx2.sc {s : Scr} {V0 V1 u0 u1 : Value} {X : Nat} {w W : World} (h : Bx2 s V0 V1 u0 u1 X w W) : W.cell? ⟨w.heap.size, 0, none⟩ = some V0 ∧ W.cell? ⟨w.heap.size, 1, none⟩ = some V1 := by
  refine ⟨?_, ?_⟩ <;> rw [Lib.cell_of_heap h.sb] <;> rfl
theorem Bx2.xc {s : Scr} {V0 V1 u0 u1 : Value} {X : Nat} {w W : World} (h : Bx2 s V0 V1 u0 u1 X w W) : W.cell? ⟨X, 0, none⟩ = some u0 ∧ W.cell? ⟨X, 1, none⟩ = some u1 := by
  refine ⟨?_, ?_⟩ <;> rw [Lib.cell_of_heap h.x] <;> rfl
/-- The copy, and its box. -/
theorem clone_box (s : Scr) (V0 V1 : Value) (w : World) (hs : ScIs w.cell? s V0 V1) (hsf : s.fits) : Calls Try.prog 8 #[.agg #[V0, V1]] (w.alloc (.cells #[V0, V1] 25)) fun e w2 => ∃ b0 d0 b1 d1, e = .returned (.agg #[.slice b0 s.consts.length d0, .slice b1 s.funcs.length d1]) ∧ Hid (Bx2 s V0 V1 (.slice b0 s.consts.length d0) (.slice b1 s.funcs.length d1) w2.heap.size w (w2.alloc (.cells #[.slice b0 s.consts.length d0, .slice b1 s.funcs.length d1] 25))) := by
  have b1 := (Below.refl _ w).alloc (Nat.le_refl _) (.cells #[V0, V1] 25)
  refine (rclone_any s V0 V1 _ (hs.keep (below_keep b1)) hsf).mono fun e w2 ⟨u0, u1, h1, h2, h3⟩ => ?_
  obtain ⟨⟨c0, d0, rfl, n0⟩, ⟨c1, d1, rfl, n1⟩⟩ := h2
  have e2 : (w.alloc (.cells #[V0, V1] 25)).heap[w.heap.size]? = some (.cells #[V0, V1] 25 (0, 0)) := heap_alloc_new w _
  have e3 := (h3.block _ (heap_lt e2)).trans e2
  have bA := (Below.refl _ w2).alloc (Nat.le_refl _) (.cells #[.slice c0 s.consts.length d0, .slice c1 s.funcs.length d1] 25)
  have bw := b1.trans (h3.mono b1.size)
  exact ⟨c0, d0, c1, d1, h1, hid7 ⟨bw.trans (bA.mono bw.size), (bA.block _ (heap_lt e3)).trans e3, heap_alloc_new w2 _, ScIs.keep ⟨⟨c0, d0, rfl, n0⟩, ⟨c1, d1, rfl, n1⟩⟩ (below_keep bA)⟩⟩
def grE (s : Scr) : Int := if s.right = true then 0 else 30
def grR (s : Scr) : List (List Int) := if s.right = true then rowsI (graphS s) else []
theorem graph_end {s : Scr} {w w' : World} {e : Ending} (h : GraphEnd s w e w') : ∃ ga gc, e = .returned (.tuple #[.slice ga (grR s).length gc, .int .i64 (grE s)]) ∧ RsAt w'.cell? ga (grR s) ∧ Below w.heap.size w w' := by
  obtain ⟨h1, h2⟩ := h
  by_cases hr : s.right = true
  · rw [if_pos hr] at h1
    obtain ⟨ga, gc, e1, h3⟩ := h1
    exact ⟨ga, gc, by rw [grR, if_pos hr, grE, if_pos hr, graph_len]; exact e1, by rw [grR, if_pos hr]; exact h3, h2⟩
  · rw [if_neg hr] at h1
    exact ⟨none, 0, by rw [grR, if_neg hr, grE, if_neg hr]; exact h1, by rw [grR, if_neg hr]; exact .inl rfl, h2⟩
theorem grR_len (s : Scr) : (grR s).length ≤ 16 ∧ ∀ r ∈ grR s, r.length ≤ 16 := by
  unfold grR
  split
  · rename_i hr
    obtain ⟨r1, _, _⟩ := right_calls hr
    obtain ⟨_, _, i3, _⟩ := graph_inn s
    refine ⟨by rw [graph_len]; exact r1, fun r h => ?_⟩
    obtain ⟨l, hl, rfl⟩ := List.mem_map.1 h
    have := i3 l hl
    simp only [rowI, List.length_map]
    omega
  · simp
theorem reachS_len (s : Scr) (f : Int) : (reachS s f).length ≤ 16 := by
  unfold reachS
  split
  · rename_i h
    obtain ⟨r1, _, _⟩ := right_calls h.1
    exact Nat.le_trans (List.length_filter_le _ _) (by simp; exact r1)
  · simp
end Go.Proofs.Ytikomfbpaimnmaa
