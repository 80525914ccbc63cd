/- The law VerifyMore. -/
import Derived.Test.YtfnpngbcnmglfaaGreatZM
import Derived.Test.YtfnpngbcnmglfaaGreatUM
import Derived.Test.YtfnpngbcnmglfaaGreatCS
import Derived.Deep.RegionLaw
namespace Go.Proofs.YtfnpngbcnmglfaaGreat
open Go.RowKit
/-- The copy, boxed. -/
theorem mo_new10 {sb : Nat} {sc : Array Value} {s : Scr} {w W w3 : World} {e : Ending} (hsb : W.heap[sb]? = some (.cells sc 27 (0, 0))) (hw : Below w.heap.size w W) (h : CloneAll s W e w3) (h1 : 1 ≤ s.funcs.length) : ∃ a0 c0 fb fc xs γ B base, e = .returned (.agg #[.slice a0 s.consts.length c0, .slice (some ⟨fb, 0, none⟩) s.funcs.length fc]) ∧ Mo sb sc s.consts s.funcs base B w3.heap.size (.slice a0 s.consts.length c0) (.slice (some ⟨fb, 0, none⟩) s.funcs.length fc) xs γ w (w3.alloc (.cells #[.slice a0 s.consts.length c0, .slice (some ⟨fb, 0, none⟩) s.funcs.length fc] 27)) ∧ Below W.heap.size W w3 := by
  obtain ⟨u0, u1, xs, γ, B, fb0, he, hb1, hB, hB2, hc, hf, hfl, hr⟩ := h
  obtain ⟨a0, c0, rfl, _, _, _⟩ := row_form hc
  obtain ⟨a1, c1, rfl, _, _, hx⟩ := row_form hf
  rcases hx with ⟨_, h0, _⟩ | ⟨fb, rfl, _, _, _⟩
  · omega
  have bA := (Below.refl _ w3).alloc (Nat.le_refl _) (.cells #[.slice a0 s.consts.length c0, .slice (some ⟨fb, 0, none⟩) s.funcs.length c1] 27)
  have b3 := hw.trans (hb1.mono hw.size)
  exact ⟨a0, c0, fb, c1, xs, γ, B, W.heap.size, he, ⟨b3.alloc b3.size _, hw.size, b3.size, Nat.le_trans hb1.size bA.size, Nat.lt_of_lt_of_le hB2 bA.size, Nat.le_trans hw.size hB, heap_alloc_new w3 _, (bA.block _ (blk_lt ((hb1.block _ (blk_lt hsb)).trans hsb))).trans ((hb1.block _ (blk_lt hsb)).trans hsb), Nat.ne_of_lt (Nat.lt_of_lt_of_le (blk_lt hsb) hb1.size), row_below2 hc bA, row_below2 (row_down hf hfl) bA, hr.keep (kp_below bA fun _ _ => rfl)⟩, hb1⟩
theorem mo_ex10 {sb : Nat} {sc : Array Value} {cs : List (List UInt8)} {fs : List Fn} {tb : Nat} {u0 u1 : Value} {w W V : World} (h : ∃ xs γ B base, Mo sb sc cs fs base B tb u0 u1 xs γ w W) (hb : Below W.heap.size W V) : ∃ xs γ B base, Mo sb sc cs fs base B tb u0 u1 xs γ w V := by
  obtain ⟨xs, γ, B, base, m⟩ := h
  exact ⟨xs, γ, B, base, m.below hb fun _ _ => rfl⟩
theorem ints_same (W : World) (n : Nat) (L : List Int) (a b : Option Addr) (x y : Nat) (hl : L.length = n) (hn : n ≤ 16) (ha : NsAt W.cell? a L) (hb : NsAt W.cell? b L) : Calls Tryz.prog 29 #[.slice a n x, .slice b n y] W fun e w' => e = .returned (.bool true) ∧ Below W.heap.size W w' :=
  (lints_any a b x y n n L L hl hl W ha hb (by omega) (by omega)).mono fun e w' ⟨q1, k2, q2⟩ => ⟨by rw [q1, decide_eq_true rfl], by rw [q2]; exact below_draws2 (Below.refl _ _) _⟩
/-- A report in its box. -/
structure Rp10 (s : Scr) (W : World) (rb : Nat) (p3 : Option Addr) (r3 : Nat) (p5 : Option Addr) (r5 g : Nat) (o : List Nat) : Prop where
  y2 : W.cell? ⟨rb, 2, none⟩ = some (.int .i64 (totS s).2)
  y3 : W.cell? ⟨rb, 3, none⟩ = some (.slice p3 s.funcs.length r3)
  y5 : W.cell? ⟨rb, 5, none⟩ = some (.slice p5 s.funcs.length r5)
  y6 : W.cell? ⟨rb, 6, none⟩ = some (.slice (some ⟨g, 0, none⟩) s.funcs.length s.funcs.length)
  st : NsAt W.cell? p3 (allS s).2
  od : NsAt W.cell? p5 (rowI o)
  rm : NsAt W.cell? (some ⟨g, 0, none⟩) (roomsS s (allS s).2 o)
theorem Rp10.keep {s : Scr} {W W' : World} {rb : Nat} {p3 : Option Addr} {r3 : Nat} {p5 : Option Addr} {r5 g : Nat} {o : List Nat} (h : Rp10 s W rb p3 r3 p5 r5 g o) (hb : Below W.heap.size W W') : Rp10 s W' rb p3 r3 p5 r5 g o := by
  have k := below_keep hb
  exact ⟨k _ _ h.y2, k _ _ h.y3, k _ _ h.y5, k _ _ h.y6, h.st.keep k, h.od.keep k, h.rm.keep k⟩
theorem of_rep (s : Scr) (V0 V1 : Value) (W : World) (hs : ScIs W.cell? s V0 V1) (hsf : s.fits) (hoe : ofE s = 0) : Calls Tryz.prog 18 #[.agg #[V0, V1]] W fun e W2 => ∃ p0 r0 p1 r1 p3 r3 p4 r4 p5 r5 g, e = .returned (.tuple #[.agg #[.slice p0 s.consts.length r0, .slice p1 s.funcs.length r1, .int .i64 (totS s).2, .slice p3 s.funcs.length r3, .slice p4 s.funcs.length r4, .slice p5 s.funcs.length r5, .slice (some ⟨g, 0, none⟩) s.funcs.length s.funcs.length], .int .i64 0]) ∧ ∃ o, (s.right = true ∧ (allS s).1 = 0 ∧ ordS s.funcs.length (gF s) = some o) ∧ Rp10 s (W2.alloc (.cells #[.slice p0 s.consts.length r0, .slice p1 s.funcs.length r1, .int .i64 (totS s).2, .slice p3 s.funcs.length r3, .slice p4 s.funcs.length r4, .slice p5 s.funcs.length r5, .slice (some ⟨g, 0, none⟩) s.funcs.length s.funcs.length] 30)) W2.heap.size p3 r3 p5 r5 g o ∧ Below W.heap.size W (W2.alloc (.cells #[.slice p0 s.consts.length r0, .slice p1 s.funcs.length r1, .int .i64 (totS s).2, .slice p3 s.funcs.length r3, .slice p4 s.funcs.length r4, .slice p5 s.funcs.length r5, .slice (some ⟨g, 0, none⟩) s.funcs.length s.funcs.length] 30)) := by
  refine (of_any s _ _ W hs hsf).mono fun e W2 ⟨h4, h5⟩ => ?_
  rcases h5 with ⟨h6, h7⟩ | ⟨h6, v0, v1, sa, sc, da, dc, oa, oc, g, d, o, h7, hR⟩
  · exact absurd hoe h6
  · obtain ⟨base, _, hO⟩ := hR.own
    obtain ⟨⟨p0, r0, z0, _⟩, ⟨p1, r1, z1, _⟩⟩ := own_is hO
    subst z0; subst z1
    refine ⟨p0, r0, p1, r1, sa, sc, da, dc, oa, oc, g, h7, o, ⟨hR.right, hR.all, hR.ord⟩, ?_⟩
    generalize hx : Obj.cells _ 30 = X
    obtain ⟨W3, hW3⟩ : ∃ W3, W3 = W2.alloc X := ⟨_, rfl⟩
    have b3 : Below W2.heap.size W2 W3 := by rw [hW3]; exact (Below.refl _ _).alloc (Nat.le_refl _) _
    have e4 : W3.heap[W2.heap.size]? = some X := by rw [hW3]; exact heap_alloc_new W2 _
    rw [← hx] at e4
    rw [← hW3]
    exact ⟨⟨Lib.cell_of_heap e4 2, Lib.cell_of_heap e4 3, Lib.cell_of_heap e4 5, Lib.cell_of_heap e4 6, (hR.st.keep b3).1, (hR.od.keep b3).1, (hR.rm.keep b3).1⟩, h4.trans (b3.mono h4.size)⟩
theorem more_rep {s : Scr} {c : List UInt8} (V0 V1 : Value) (W : World) (hs : ScIs W.cell? (moreC s c) V0 V1) (hsf : s.fits) (hc : s.consts.length < 32) (hl : c.length ≤ 256) (hoe : ofE s = 0) {o : List Nat} (hO : s.right = true ∧ (allS s).1 = 0 ∧ ordS s.funcs.length (gF s) = some o) : Calls Tryz.prog 18 #[.agg #[V0, V1]] W fun e W2 => ∃ p0' r0' p1' r1' p3' r3' p4' r4' p5' r5' g', e = .returned (.tuple #[.agg #[.slice p0' (s.consts.length + 1) r0', .slice p1' s.funcs.length r1', .int .i64 (totS s).2, .slice p3' s.funcs.length r3', .slice p4' s.funcs.length r4', .slice p5' s.funcs.length r5', .slice (some ⟨g', 0, none⟩) s.funcs.length s.funcs.length], .int .i64 0]) ∧ Rp10 s (W2.alloc (.cells #[.slice p0' (s.consts.length + 1) r0', .slice p1' s.funcs.length r1', .int .i64 (totS s).2, .slice p3' s.funcs.length r3', .slice p4' s.funcs.length r4', .slice p5' s.funcs.length r5', .slice (some ⟨g', 0, none⟩) s.funcs.length s.funcs.length] 30)) W2.heap.size p3' r3' p5' r5' g' o ∧ Below W.heap.size W (W2.alloc (.cells #[.slice p0' (s.consts.length + 1) r0', .slice p1' s.funcs.length r1', .int .i64 (totS s).2, .slice p3' s.funcs.length r3', .slice p4' s.funcs.length r4', .slice p5' s.funcs.length r5', .slice (some ⟨g', 0, none⟩) s.funcs.length s.funcs.length] 30)) := by
  have h' := moreC_right hO.1 hc hl
  obtain ⟨e1, e2, e3, e4, e5⟩ := moreC_same hO.1 h'
  have ec : (moreC s c).consts.length = s.consts.length + 1 := by simp [moreC]
  refine (of_rep (moreC s c) V0 V1 W hs (moreC_fits hsf hc hl) (by rw [e4]; exact hoe)).mono fun e W2 ⟨p0, r0, p1, r1, p3, r3, p4, r4, p5, r5, g, h1, o', hO', hR, hb⟩ => ?_
  have eo : o' = o := by
    have := hO'.2.2
    rw [e2] at this
    have h2 := hO.2.2
    rw [show (moreC s c).funcs.length = s.funcs.length from rfl, h2] at this
    injection this with this
    exact this.symm
  subst eo
  rw [ec, e3, show (moreC s c).funcs = s.funcs from rfl] at h1 hR hb
  refine ⟨p0, r0, p1, r1, p3, r3, p4, r4, p5, r5, g, h1, ?_, hb⟩
  obtain ⟨y2, y3, y5, y6, st, od, rm⟩ := hR
  rw [e3] at y2
  rw [e1] at st rm
  rw [e5] at rm
  exact ⟨y2, y3, y5, y6, st, od, rm⟩
set_option maxRecDepth 100000 in
set_option maxHeartbeats 4000000 in
theorem more10_any (s : Scr) (c : List UInt8) (V0 V1 : Value) (w : World) (hs : ScIs w.cell? s V0 V1) (hsf : s.fits) (hcl : c.length ≤ 9223372036854775807) :
    Calls Tryz.prog 8 #[.agg #[V0, V1], .string ⟨c.toArray⟩] w fun e w' => e = .returned (.bool true) ∧ Below w.heap.size w w' := by
  obtain ⟨⟨a0, c0, rfl, n0⟩, ⟨a1, c1, rfl, n1⟩⟩ := hs
  have hs : ScIs w.cell? s (.slice a0 s.consts.length c0) (.slice a1 s.funcs.length c1) := ⟨⟨a0, c0, rfl, n0⟩, ⟨a1, c1, rfl, n1⟩⟩
  obtain ⟨w0, hw0⟩ : ∃ w0, w0 = w.alloc (.cells #[.slice a0 s.consts.length c0, .slice a1 s.funcs.length c1] 27) := ⟨_, rfl⟩
  have b0 : Below w.heap.size w w0 := by rw [hw0]; exact (Below.refl _ w).alloc (Nat.le_refl _) _
  have e0 : w0.heap[w.heap.size]? = some (.cells #[.slice a0 s.consts.length c0, .slice a1 s.funcs.length c1] 27 (0, 0)) := by rw [hw0]; exact heap_alloc_new w _
  have HC0 : Hid (Calls Tryz.prog 16 #[.agg #[.slice a0 s.consts.length c0, .slice a1 s.funcs.length c1]] (w.alloc (.cells #[.slice a0 s.consts.length c0, .slice a1 s.funcs.length c1] 27)) fun e W1 => ∃ b0 d0 b1 d1, e = .returned (.agg #[.slice b0 s.consts.length d0, .slice b1 s.funcs.length d1]) ∧ Hid (ScIs W1.cell? s (.slice b0 s.consts.length d0) (.slice b1 s.funcs.length d1) ∧ (Below w.heap.size w W1 ∧ W1.heap[w.heap.size]? = some (.cells #[.slice a0 s.consts.length c0, .slice a1 s.funcs.length c1] 27 (0, 0))))) := hid9 (by
    rw [← hw0]
    refine (rclone_any s _ _ w0 (hs.keep (below_keep b0)) hsf).mono fun e W1 ⟨u0, u1, h1, h2, h3⟩ => ?_
    obtain ⟨⟨x0, y0, q0, m0⟩, ⟨x1, y1, q1, m1⟩⟩ := h2
    subst q0; subst q1
    exact ⟨x0, y0, x1, y1, h1, hid9 ⟨⟨⟨x0, y0, rfl, m0⟩, ⟨x1, y1, rfl, m1⟩⟩, b0.trans (h3.mono b0.size), (h3.block _ (heap_lt e0)).trans e0⟩⟩)
  have HKn : Hid (∀ W, Below w.heap.size w W → Calls Tryz.prog 15 #[] W fun e W1 => e = .returned (.bool true) ∧ Hid (Below w.heap.size w W1)) := hid9 fun W hb => (knows10_any W).mono fun e W1 ⟨h1, h2⟩ => ⟨h1, hid9 (hb.trans (h2.mono hb.size))⟩
  by_cases hoe : ofE s = 0
  · have HOf : Hid (∀ b0 d0 b1 d1 W, ScIs W.cell? s (.slice b0 s.consts.length d0) (.slice b1 s.funcs.length d1) ∧ (Below w.heap.size w W ∧ W.heap[w.heap.size]? = some (.cells #[.slice a0 s.consts.length c0, .slice a1 s.funcs.length c1] 27 (0, 0))) → Calls Tryz.prog 18 #[.agg #[.slice b0 s.consts.length d0, .slice b1 s.funcs.length d1]] W fun e W2 => ∃ p0 r0 p1 r1 p3 r3 p4 r4 p5 r5 g, e = .returned (.tuple #[.agg #[.slice p0 s.consts.length r0, .slice p1 s.funcs.length r1, .int .i64 (totS s).2, .slice p3 s.funcs.length r3, .slice p4 s.funcs.length r4, .slice p5 s.funcs.length r5, .slice (some ⟨g, 0, none⟩) s.funcs.length s.funcs.length], .int .i64 0]) ∧ ((W2.alloc (.cells #[.slice p0 s.consts.length r0, .slice p1 s.funcs.length r1, .int .i64 (totS s).2, .slice p3 s.funcs.length r3, .slice p4 s.funcs.length r4, .slice p5 s.funcs.length r5, .slice (some ⟨g, 0, none⟩) s.funcs.length s.funcs.length] 30)).cell? ⟨w.heap.size, 0, none⟩ = some (.slice a0 s.consts.length c0) ∧ (W2.alloc (.cells #[.slice p0 s.consts.length r0, .slice p1 s.funcs.length r1, .int .i64 (totS s).2, .slice p3 s.funcs.length r3, .slice p4 s.funcs.length r4, .slice p5 s.funcs.length r5, .slice (some ⟨g, 0, none⟩) s.funcs.length s.funcs.length] 30)).cell? ⟨w.heap.size, 1, none⟩ = some (.slice a1 s.funcs.length c1)) ∧ Hid (∃ o, (s.right = true ∧ (allS s).1 = 0 ∧ ordS s.funcs.length (gF s) = some o) ∧ Rp10 s (W2.alloc (.cells #[.slice p0 s.consts.length r0, .slice p1 s.funcs.length r1, .int .i64 (totS s).2, .slice p3 s.funcs.length r3, .slice p4 s.funcs.length r4, .slice p5 s.funcs.length r5, .slice (some ⟨g, 0, none⟩) s.funcs.length s.funcs.length] 30)) W2.heap.size p3 r3 p5 r5 g o ∧ (Below w.heap.size w (W2.alloc (.cells #[.slice p0 s.consts.length r0, .slice p1 s.funcs.length r1, .int .i64 (totS s).2, .slice p3 s.funcs.length r3, .slice p4 s.funcs.length r4, .slice p5 s.funcs.length r5, .slice (some ⟨g, 0, none⟩) s.funcs.length s.funcs.length] 30)) ∧ (W2.alloc (.cells #[.slice p0 s.consts.length r0, .slice p1 s.funcs.length r1, .int .i64 (totS s).2, .slice p3 s.funcs.length r3, .slice p4 s.funcs.length r4, .slice p5 s.funcs.length r5, .slice (some ⟨g, 0, none⟩) s.funcs.length s.funcs.length] 30)).heap[w.heap.size]? = some (.cells #[.slice a0 s.consts.length c0, .slice a1 s.funcs.length c1] 27 (0, 0))))) := hid9 fun b0 d0 b1 d1 W ⟨h1, h2, h3⟩ => (of_rep s _ _ W h1 hsf hoe).mono fun e W2 ⟨p0, r0, p1, r1, p3, r3, p4, r4, p5, r5, g, h4, o, hO, hR, hb⟩ => by
      have e3 := (hb.block _ (heap_lt h3)).trans h3
      exact ⟨p0, r0, p1, r1, p3, r3, p4, r4, p5, r5, g, h4, ⟨Lib.cell_of_heap e3 0, Lib.cell_of_heap e3 1⟩, hid9 ⟨o, hO, hR, h2.trans (hb.mono h2.size), e3⟩⟩
    by_cases hok : s.consts.length < 32 ∧ c.length ≤ 256
    · obtain ⟨h32, h256⟩ := hok
      have HCl : Hid (∀ rb p3 r3 p5 r5 g o W, (s.right = true ∧ (allS s).1 = 0 ∧ ordS s.funcs.length (gF s) = some o) → Rp10 s W rb p3 r3 p5 r5 g o ∧ (Below w.heap.size w W ∧ W.heap[w.heap.size]? = some (.cells #[.slice a0 s.consts.length c0, .slice a1 s.funcs.length c1] 27 (0, 0))) → Calls Tryz.prog 16 #[.agg #[.slice a0 s.consts.length c0, .slice a1 s.funcs.length c1]] W fun e w3 => ∃ a2 c2 fb fc, e = .returned (.agg #[.slice a2 s.consts.length c2, .slice (some ⟨fb, 0, none⟩) s.funcs.length fc]) ∧ Hid (Rp10 s W rb p3 r3 p5 r5 g o ∧ (Below w.heap.size w W ∧ W.heap[w.heap.size]? = some (.cells #[.slice a0 s.consts.length c0, .slice a1 s.funcs.length c1] 27 (0, 0))) ∧ (∃ xs γ B base, Mo w.heap.size #[.slice a0 s.consts.length c0, .slice a1 s.funcs.length c1] s.consts s.funcs base B w3.heap.size (.slice a2 s.consts.length c2) (.slice (some ⟨fb, 0, none⟩) s.funcs.length fc) xs γ W (w3.alloc (.cells #[.slice a2 s.consts.length c2, .slice (some ⟨fb, 0, none⟩) s.funcs.length fc] 27))))) := hid9 fun rb p3 r3 p5 r5 g o W hO ⟨hR, hb, hx⟩ => (rclone_all s _ _ W (hs.keep (below_keep hb)) hsf).mono fun e w3 hh => by
        obtain ⟨a2, c2, fb, fc, xs, γ, B, base, h1, h2, h3⟩ := mo_new10 hx (Below.refl _ W) hh (right_calls hO.1).2.1
        exact ⟨a2, c2, fb, fc, h1, hid9 ⟨hR, ⟨hb, hx⟩, xs, γ, B, base, h2⟩⟩
      have HA : Hid (∀ W3 W tb (a2 : Option Addr) c2 u1, (∃ xs γ B base, Mo w.heap.size #[.slice a0 s.consts.length c0, .slice a1 s.funcs.length c1] s.consts s.funcs base B tb (.slice a2 s.consts.length c2) u1 xs γ W3 W) → ∃ base, W.ownsRow base 9 1 (.slice a2 s.consts.length c2) s.consts.length (cellsS s.consts) ∧ base ≤ W.heap.size ∧ ∀ v' W', W'.ownsRow base 9 1 v' (s.consts.length + 1) (cellsS s.consts ++ [.string ⟨c.toArray⟩]) → Step W (.slice a2 s.consts.length c2) W' v' → ∃ va vc, v' = .slice va (s.consts.length + 1) vc ∧ W'.cell? ⟨tb, 0, none⟩ = some (.slice a2 s.consts.length c2) ∧ W'.cell? ⟨tb, 1, none⟩ = some u1 ∧ W'.frozen? ⟨tb, 0, none⟩ = false ∧ Hid (∃ xs γ B base, Mo w.heap.size #[.slice a0 s.consts.length c0, .slice a1 s.funcs.length c1] (s.consts ++ [c]) s.funcs base B tb (.slice va (s.consts.length + 1) vc) u1 xs γ W3 (W'.setCell ⟨tb, 0, none⟩ (.slice va (s.consts.length + 1) vc)))) := hid9 fun W3 W tb a2 c2 u1 ⟨xs, γ, B, base, m⟩ => ⟨base, m.c, m.siz, fun v' W' hr hs => by
        obtain ⟨va, vc, rfl, _⟩ := row_form hr
        have bx := box_step m.box m.c hs (by decide)
        exact ⟨va, vc, rfl, by rw [Lib.cell_of_heap bx]; rfl, by rw [Lib.cell_of_heap bx]; rfl, Lib.frozen_of_heap bx 0, hid9 ⟨xs, γ, B, base, m.const (x := c) hr hs⟩⟩⟩
      have HO2 : Hid (∀ W3 W rb p3 r3 p5 r5 g o tb va vc u1, (s.right = true ∧ (allS s).1 = 0 ∧ ordS s.funcs.length (gF s) = some o) → Rp10 s W3 rb p3 r3 p5 r5 g o → (Below w.heap.size w W3 ∧ W3.heap[w.heap.size]? = some (.cells #[.slice a0 s.consts.length c0, .slice a1 s.funcs.length c1] 27 (0, 0))) → (∃ xs γ B base, Mo w.heap.size #[.slice a0 s.consts.length c0, .slice a1 s.funcs.length c1] (s.consts ++ [c]) s.funcs base B tb (.slice va (s.consts.length + 1) vc) u1 xs γ W3 W) → Calls Tryz.prog 18 #[.agg #[.slice va (s.consts.length + 1) vc, u1]] W fun e W4 => ∃ p0' r0' p1' r1' p3' r3' p4' r4' p5' r5' g', e = .returned (.tuple #[.agg #[.slice p0' (s.consts.length + 1) r0', .slice p1' s.funcs.length r1', .int .i64 (totS s).2, .slice p3' s.funcs.length r3', .slice p4' s.funcs.length r4', .slice p5' s.funcs.length r5', .slice (some ⟨g', 0, none⟩) s.funcs.length s.funcs.length], .int .i64 0]) ∧ ((W4.alloc (.cells #[.slice p0' (s.consts.length + 1) r0', .slice p1' s.funcs.length r1', .int .i64 (totS s).2, .slice p3' s.funcs.length r3', .slice p4' s.funcs.length r4', .slice p5' s.funcs.length r5', .slice (some ⟨g', 0, none⟩) s.funcs.length s.funcs.length] 30)).cell? ⟨rb, 2, none⟩ = some (.int .i64 (totS s).2) ∧ (W4.alloc (.cells #[.slice p0' (s.consts.length + 1) r0', .slice p1' s.funcs.length r1', .int .i64 (totS s).2, .slice p3' s.funcs.length r3', .slice p4' s.funcs.length r4', .slice p5' s.funcs.length r5', .slice (some ⟨g', 0, none⟩) s.funcs.length s.funcs.length] 30)).cell? ⟨rb, 3, none⟩ = some (.slice p3 s.funcs.length r3) ∧ (W4.alloc (.cells #[.slice p0' (s.consts.length + 1) r0', .slice p1' s.funcs.length r1', .int .i64 (totS s).2, .slice p3' s.funcs.length r3', .slice p4' s.funcs.length r4', .slice p5' s.funcs.length r5', .slice (some ⟨g', 0, none⟩) s.funcs.length s.funcs.length] 30)).cell? ⟨rb, 5, none⟩ = some (.slice p5 s.funcs.length r5) ∧ (W4.alloc (.cells #[.slice p0' (s.consts.length + 1) r0', .slice p1' s.funcs.length r1', .int .i64 (totS s).2, .slice p3' s.funcs.length r3', .slice p4' s.funcs.length r4', .slice p5' s.funcs.length r5', .slice (some ⟨g', 0, none⟩) s.funcs.length s.funcs.length] 30)).cell? ⟨rb, 6, none⟩ = some (.slice (some ⟨g, 0, none⟩) s.funcs.length s.funcs.length)) ∧ ((W4.alloc (.cells #[.slice p0' (s.consts.length + 1) r0', .slice p1' s.funcs.length r1', .int .i64 (totS s).2, .slice p3' s.funcs.length r3', .slice p4' s.funcs.length r4', .slice p5' s.funcs.length r5', .slice (some ⟨g', 0, none⟩) s.funcs.length s.funcs.length] 30)).cell? ⟨W4.heap.size, 2, none⟩ = some (.int .i64 (totS s).2) ∧ (W4.alloc (.cells #[.slice p0' (s.consts.length + 1) r0', .slice p1' s.funcs.length r1', .int .i64 (totS s).2, .slice p3' s.funcs.length r3', .slice p4' s.funcs.length r4', .slice p5' s.funcs.length r5', .slice (some ⟨g', 0, none⟩) s.funcs.length s.funcs.length] 30)).cell? ⟨W4.heap.size, 3, none⟩ = some (.slice p3' s.funcs.length r3') ∧ (W4.alloc (.cells #[.slice p0' (s.consts.length + 1) r0', .slice p1' s.funcs.length r1', .int .i64 (totS s).2, .slice p3' s.funcs.length r3', .slice p4' s.funcs.length r4', .slice p5' s.funcs.length r5', .slice (some ⟨g', 0, none⟩) s.funcs.length s.funcs.length] 30)).cell? ⟨W4.heap.size, 5, none⟩ = some (.slice p5' s.funcs.length r5') ∧ (W4.alloc (.cells #[.slice p0' (s.consts.length + 1) r0', .slice p1' s.funcs.length r1', .int .i64 (totS s).2, .slice p3' s.funcs.length r3', .slice p4' s.funcs.length r4', .slice p5' s.funcs.length r5', .slice (some ⟨g', 0, none⟩) s.funcs.length s.funcs.length] 30)).cell? ⟨W4.heap.size, 6, none⟩ = some (.slice (some ⟨g', 0, none⟩) s.funcs.length s.funcs.length)) ∧ Hid (Calls Tryz.prog 29 #[.slice p3' s.funcs.length r3', .slice p3 s.funcs.length r3] (W4.alloc (.cells #[.slice p0' (s.consts.length + 1) r0', .slice p1' s.funcs.length r1', .int .i64 (totS s).2, .slice p3' s.funcs.length r3', .slice p4' s.funcs.length r4', .slice p5' s.funcs.length r5', .slice (some ⟨g', 0, none⟩) s.funcs.length s.funcs.length] 30)) fun e W5 => e = .returned (.bool true) ∧ (W5.cell? ⟨rb, 6, none⟩ = some (.slice (some ⟨g, 0, none⟩) s.funcs.length s.funcs.length) ∧ W5.cell? ⟨W4.heap.size, 6, none⟩ = some (.slice (some ⟨g', 0, none⟩) s.funcs.length s.funcs.length)) ∧ Hid (Calls Tryz.prog 29 #[.slice (some ⟨g', 0, none⟩) s.funcs.length s.funcs.length, .slice (some ⟨g, 0, none⟩) s.funcs.length s.funcs.length] W5 fun e W6 => e = .returned (.bool true) ∧ (W6.cell? ⟨rb, 5, none⟩ = some (.slice p5 s.funcs.length r5) ∧ W6.cell? ⟨W4.heap.size, 5, none⟩ = some (.slice p5' s.funcs.length r5')) ∧ Hid (Calls Tryz.prog 29 #[.slice p5' s.funcs.length r5', .slice p5 s.funcs.length r5] W6 fun e W7 => e = .returned (.bool true) ∧ Hid (Below w.heap.size w W7))))) := hid9 fun W3 W rb p3 r3 p5 r5 g o tb va vc u1 hO hR ⟨hb, hx⟩ ⟨xs, γ, B, base, m⟩ => (more_rep (c := c) _ _ W m.scr hsf h32 h256 hoe hO).mono fun e W4 ⟨p0', r0', p1', r1', p3', r3', p4', r4', p5', r5', g', h1, hQ, hb4⟩ => by
        have k3 := m.bel.trans (hb4.mono m.bel.size)
        have hR2 := hR.keep k3
        have h16 := (right_calls hO.1).1
        obtain ⟨hSl, _⟩ := all_bounds hO.1 hO.2.1
        have hol : (rowI o).length = s.funcs.length := by rw [rowI, List.length_map]; exact (ord_told (n := s.funcs.length) (g := gF s) hO.2.2).1
        have hrl := rooms_len s (allS s).2 o
        have kw := hb.trans (k3.mono hb.size)
        refine ⟨p0', r0', p1', r1', p3', r3', p4', r4', p5', r5', g', h1, ⟨hR2.y2, hR2.y3, hR2.y5, hR2.y6⟩, ⟨hQ.y2, hQ.y3, hQ.y5, hQ.y6⟩, hid9 ?_⟩
        refine (ints_same _ _ _ _ _ _ _ hSl h16 hQ.st hR2.st).mono fun e W5 ⟨q1, k5⟩ => ?_
        have R5 := hR2.keep k5
        have Q5 := hQ.keep k5
        have w5 := kw.trans (k5.mono kw.size)
        refine ⟨q1, ⟨R5.y6, Q5.y6⟩, hid9 ?_⟩
        refine (ints_same _ _ _ _ _ _ _ hrl h16 Q5.rm R5.rm).mono fun e W6 ⟨q2, k6⟩ => ?_
        have R6 := R5.keep k6
        have Q6 := Q5.keep k6
        have w6 := w5.trans (k6.mono w5.size)
        refine ⟨q2, ⟨R6.y5, Q6.y5⟩, hid9 ?_⟩
        exact (ints_same _ _ _ _ _ _ _ hol h16 Q6.od R6.od).mono fun e W7 ⟨q3, k7⟩ => ⟨q3, hid9 (w6.trans (k7.mono w6.size))⟩
      have HcS := hid9 (cellsS_one s.consts)
      have HSf := hid9 hsf
      clear hs n0 n1 hsf hw0 b0 e0
      have HE := hid9 hoe
      clear hoe
      go_enter Tryz.func8, Tryz.ntmps8
      go_wp2_with (first
        | (go_at_call 16; first | (refine HC0.out.mono ?_; clear HC0; rintro e W1 ⟨b0, d0, b1, d1, rfl, HS⟩) | (refine (HCl.out _ _ _ _ _ _ _ _ HO.out HQ.out).mono ?_; clear HCl; rintro e w3 ⟨a2, c2, fb, fc, rfl, K3⟩; obtain ⟨bs, o5, s5, hA5⟩ := HA.out _ _ _ a2 c2 _ (mo_ex10 K3.out.2.2 ((Below.refl _ _).alloc (Nat.le_refl _) (.cells #[.string ⟨c.toArray⟩] 9))); have O5 := hid9 o5; have A5 := hid9 hA5; clear o5 hA5 HA))
        | (go_at_call 18; refine (HO2.out _ _ _ _ _ _ _ _ _ _ va vc _ HO.out K3.out.1 K3.out.2.1 K6.out).mono ?_; clear HO2 K3 K6 q0 q1 z0; rintro e W4 ⟨p0', r0', p1', r1', p3', r3', p4', r4', p5', r5', g', rfl, ⟨t2, t3, t5, t6⟩, ⟨v2, v3, v5, v6⟩, HI1⟩)
        | (go_at_call 29; first | (refine HI1.out.mono ?_; clear HI1; rintro e W5 ⟨rfl, ⟨k1, k2⟩, HI2⟩) | (refine HI2.out.mono ?_; clear HI2; rintro e W8 ⟨rfl, ⟨k3, k4⟩, HI3⟩) | (refine HI3.out.mono ?_; clear HI3; rintro e W10 ⟨rfl, HBe⟩))
        | (go_at_call 15; refine (HKn.out _ HBe.out).mono ?_; clear HKn; rintro e W7 ⟨rfl, HB⟩)
        | (go_at_call 18; refine (HOf.out _ _ _ _ _ HS.out).mono ?_; clear HOf HS; rintro e W2 ⟨p0, r0, p1, r1, p3, r3, p4, r4, p5, r5, g, rfl, ⟨x0, x1⟩, HQ0⟩; obtain ⟨o, HO0, HQ1⟩ := HQ0.out; have HO := hid9 HO0; have HQ := hid9 HQ1; clear HQ0 HO0 HQ1)
        | (go_at_call 13; refine (num10_any _ _).mono ?_; rintro e W9 ⟨rfl, w9e⟩; rw [w9e]; clear w9e)
        | (at_builtin; (refine wpList_appN _ rfl _ _ 24 rfl elemN_str bs _ s.consts.length (cellsS s.consts) rfl O5.out _ rfl 1 [.string ⟨c.toArray⟩] (.inr ⟨⟨_, 0, none⟩, 1, rfl, cells_new6 _ [.string ⟨c.toArray⟩] 9 _ (World.size_alloc _ _)⟩) rfl (by simp [Value.oneCell']) (by unfold maxLen; omega) (by omega) s5 ?_); intro v6 W6 hr6 hs6; obtain ⟨va, vc, y6, q0, q1, z0, K6⟩ := A5.out v6 W6 hr6 hs6; subst y6; clear hr6 hs6 A5 O5 HQ x0 x1)
        | fail)
      all_goals (go_ret; exact ⟨rfl, HB.out⟩)
    · clear hs n0 n1 hsf hw0 b0 e0
      have hT : (32 : Int) ≤ (s.consts.length : Int) ∨ (256 : Int) < (c.length : Int) := by omega
      have HQ9 : Hid (∀ b0 d0 b1 d1 W, ScIs W.cell? s (.slice b0 s.consts.length d0) (.slice b1 s.funcs.length d1) ∧ (Below w.heap.size w W ∧ W.heap[w.heap.size]? = some (.cells #[.slice a0 s.consts.length c0, .slice a1 s.funcs.length c1] 27 (0, 0))) → Calls Tryz.prog 18 #[.agg #[.slice b0 s.consts.length d0, .slice b1 s.funcs.length d1]] W fun e W2 => ∃ p0 r0 p1 r1 p3 r3 p4 r4 p5 r5 g, e = .returned (.tuple #[.agg #[.slice p0 s.consts.length r0, .slice p1 s.funcs.length r1, .int .i64 (totS s).2, .slice p3 s.funcs.length r3, .slice p4 s.funcs.length r4, .slice p5 s.funcs.length r5, .slice (some ⟨g, 0, none⟩) s.funcs.length s.funcs.length], .int .i64 0]) ∧ ((W2.alloc (.cells #[.slice p0 s.consts.length r0, .slice p1 s.funcs.length r1, .int .i64 (totS s).2, .slice p3 s.funcs.length r3, .slice p4 s.funcs.length r4, .slice p5 s.funcs.length r5, .slice (some ⟨g, 0, none⟩) s.funcs.length s.funcs.length] 30)).cell? ⟨w.heap.size, 0, none⟩ = some (.slice a0 s.consts.length c0) ∧ (W2.alloc (.cells #[.slice p0 s.consts.length r0, .slice p1 s.funcs.length r1, .int .i64 (totS s).2, .slice p3 s.funcs.length r3, .slice p4 s.funcs.length r4, .slice p5 s.funcs.length r5, .slice (some ⟨g, 0, none⟩) s.funcs.length s.funcs.length] 30)).cell? ⟨w.heap.size, 1, none⟩ = some (.slice a1 s.funcs.length c1)) ∧ Hid (Below w.heap.size w (W2.alloc (.cells #[.slice p0 s.consts.length r0, .slice p1 s.funcs.length r1, .int .i64 (totS s).2, .slice p3 s.funcs.length r3, .slice p4 s.funcs.length r4, .slice p5 s.funcs.length r5, .slice (some ⟨g, 0, none⟩) s.funcs.length s.funcs.length] 30)))) := hid9 fun b0 d0 b1 d1 W h => (HOf.out b0 d0 b1 d1 W h).mono fun e W2 ⟨p0, r0, p1, r1, p3, r3, p4, r4, p5, r5, g, h1, h2, h3⟩ => ⟨p0, r0, p1, r1, p3, r3, p4, r4, p5, r5, g, h1, h2, hid9 (by obtain ⟨o, _, _, h4, _⟩ := h3.out; exact h4)⟩
      clear HOf
      by_cases h32 : s.consts.length < 32
      · have h256 : decide ((256 : Int) < (c.length : Int)) = true := by simp; omega
        have h32' : decide ((32 : Int) ≤ (s.consts.length : Int)) = false := by simp; omega
        clear hok hT hoe
        go_enter Tryz.func8, Tryz.ntmps8
        go_wp2_with (first
          | (go_at_call 16; refine HC0.out.mono ?_; clear HC0; rintro e W1 ⟨b0, d0, b1, d1, rfl, HS⟩)
          | (go_at_call 18; refine (HQ9.out _ _ _ _ _ HS.out).mono ?_; clear HQ9 HS; rintro e W2 ⟨p0, r0, p1, r1, p3, r3, p4, r4, p5, r5, g, rfl, ⟨x0, x1⟩, HA⟩)
          | (go_at_call 13; refine (num10_any _ _).mono ?_; rintro e W9 ⟨rfl, w9e⟩; rw [w9e]; clear w9e)
          | (go_at_call 15; refine (HKn.out _ HA.out).mono ?_; clear HKn HA; rintro e W7 ⟨rfl, HB⟩)
          | fail)
        all_goals (go_ret; exact ⟨rfl, HB.out⟩)
      · have h32' : decide ((32 : Int) ≤ (s.consts.length : Int)) = true := by simp; omega
        clear hok hT hoe
        go_enter Tryz.func8, Tryz.ntmps8
        go_wp2_with (first
          | (go_at_call 16; refine HC0.out.mono ?_; clear HC0; rintro e W1 ⟨b0, d0, b1, d1, rfl, HS⟩)
          | (go_at_call 18; refine (HQ9.out _ _ _ _ _ HS.out).mono ?_; clear HQ9 HS; rintro e W2 ⟨p0, r0, p1, r1, p3, r3, p4, r4, p5, r5, g, rfl, ⟨x0, x1⟩, HA⟩)
          | (go_at_call 13; refine (num10_any _ _).mono ?_; rintro e W9 ⟨rfl, w9e⟩; rw [w9e]; clear w9e)
          | (go_at_call 15; refine (HKn.out _ HA.out).mono ?_; clear HKn HA; rintro e W7 ⟨rfl, HB⟩)
          | fail)
        all_goals (go_ret; exact ⟨rfl, HB.out⟩)
  · have HOf : Hid (∀ b0 d0 b1 d1 W, ScIs W.cell? s (.slice b0 s.consts.length d0) (.slice b1 s.funcs.length d1) ∧ (Below w.heap.size w W ∧ W.heap[w.heap.size]? = some (.cells #[.slice a0 s.consts.length c0, .slice a1 s.funcs.length c1] 27 (0, 0))) → Calls Tryz.prog 18 #[.agg #[.slice b0 s.consts.length d0, .slice b1 s.funcs.length d1]] W fun e W2 => e = .returned (.tuple #[.agg #[.slice none 0 0, .slice none 0 0, .int .i64 0, .slice none 0 0, .slice none 0 0, .slice none 0 0, .slice none 0 0], .int .i64 (ofE s)]) ∧ Hid (Below w.heap.size w (W2.alloc (.cells #[.slice none 0 0, .slice none 0 0, .int .i64 0, .slice none 0 0, .slice none 0 0, .slice none 0 0, .slice none 0 0] 30)))) := hid9 fun b0 d0 b1 d1 W ⟨h1, h2, h3⟩ => (of_any s _ _ W h1 hsf).mono fun e W2 ⟨h4, h5⟩ => by
      rcases h5 with ⟨h6, h7⟩ | ⟨h6, _⟩
      · have kw : Below w.heap.size w W2 := h2.trans (h4.mono h2.size)
        exact ⟨h7, hid9 (kw.alloc kw.size _)⟩
      · exact absurd h6 hoe
    have hne : (ofE s != 0) = true := by simpa using hoe
    clear hs n0 n1 hsf hw0 b0 e0
    generalize ofE s = oe at *
    go_enter Tryz.func8, Tryz.ntmps8
    go_wp2_with (first
      | (go_at_call 16; refine HC0.out.mono ?_; clear HC0; rintro e W1 ⟨b0, d0, b1, d1, rfl, HS⟩)
      | (go_at_call 18; refine (HOf.out _ _ _ _ _ HS.out).mono ?_; clear HOf HS; rintro e W2 ⟨rfl, HA⟩)
      | (go_at_call 13; refine (num10_any _ _).mono ?_; rintro e W9 ⟨rfl, w9e⟩; rw [w9e]; clear w9e)
      | (go_at_call 15; refine (HKn.out _ HA.out).mono ?_; clear HKn HA; rintro e W7 ⟨rfl, HB⟩)
      | fail)
    all_goals (go_ret; exact ⟨rfl, HB.out⟩)
end Go.Proofs.YtfnpngbcnmglfaaGreat
