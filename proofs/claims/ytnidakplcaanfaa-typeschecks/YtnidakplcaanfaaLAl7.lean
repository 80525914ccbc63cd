/- The law TypesAll. -/
import Derived.Test.YtnidakplcaanfaaUI
import Derived.Test.YtnidakplcaanfaaTV
import Derived.Test.YtnidakplcaanfaaCS
namespace Go.Proofs.Ytnidakplcaanfaa
open Go.RowKit Go.Shelf
set_option maxRecDepth 100000 in
set_option maxHeartbeats 1000000 in
theorem alike_big (a b : Option Addr) (c d n m : Nat) (ns ms : List Int) (hn : ns.length = n) (hm : ms.length = m) (bn : n ≤ 17592186044416) (bm : m ≤ 17592186044416) (w : World) (ha : NsAt w.cell? a ns) (hb : NsAt w.cell? b ms) :
    Calls Try.prog 18 #[.slice a n c, .slice b m d] w fun e w' => e = .returned (.int .i64 (alikeS ns ms)) ∧ ∃ k, w' = w.drewN k := by
  have hE := eqN_any a b c d n m ns ms hn hm w ha hb (by omega) (by omega)
  have HE := hid7 hE
  clear hE ha hb
  by_cases h1 : n = m
  · subst h1
    by_cases h2 : ns = ms
    · have HA : Hid (alikeS ns ms = 0) := hid7 (by rw [alikeS, if_pos (by omega), if_pos h2])
      have HE2 : Hid (Calls Try.prog 32 #[.slice a n c, .slice b n d] w fun e w' => e = .returned (.bool true) ∧ ∃ k, w' = w.drewN k) := hid7 (by have := HE.out; rw [decide_eq_true h2] at this; exact this)
      clear HE hn hm h2
      go_enter Try.func18, Try.ntmps18
      go_wp2_with (first | (go_at_call 32; refine HE2.out.mono ?_; rintro e w1 ⟨rfl, k, rfl⟩) | fail)
      go_ret
      exact ⟨by rw [HA.out]; rfl, _, rfl⟩
    · have HA : Hid (alikeS ns ms = 33) := hid7 (by rw [alikeS, if_pos (by omega), if_neg h2])
      have HE2 : Hid (Calls Try.prog 32 #[.slice a n c, .slice b n d] w fun e w' => e = .returned (.bool false) ∧ ∃ k, w' = w.drewN k) := hid7 (by have := HE.out; rw [decide_eq_false h2] at this; exact this)
      clear HE hn hm h2
      go_enter Try.func18, Try.ntmps18
      go_wp2_with (first | (go_at_call 32; refine HE2.out.mono ?_; rintro e w1 ⟨rfl, k, rfl⟩) | fail)
      go_ret
      exact ⟨by rw [HA.out]; rfl, _, rfl⟩
  · have HA : Hid (alikeS ns ms = 32) := hid7 (by rw [alikeS, if_neg (by omega)])
    have hne : ((n : Int) != (m : Int)) = true := by simp; omega
    clear HE hn hm
    go_enter Try.func18, Try.ntmps18
    go_wp2
    go_ret
    exact ⟨by rw [HA.out]; rfl, 0, rfl⟩
/-- The boxes of a script and of its copy. -/
structure Bx2 (s : Scr) (V0 V1 u0 u1 : Value) (X : Nat) (w W : World) : Prop where
  b : Below w.heap.size w W
  sb : W.heap[w.heap.size]? = some (.cells #[V0, V1] 25 (0, 0))
  x : W.heap[X]? = some (.cells #[u0, u1] 25 (0, 0))
  c : ScIs W.cell? s u0 u1
theorem Bx2.below {s : Scr} {V0 V1 u0 u1 : Value} {X : Nat} {w W W' : World} (h : Bx2 s V0 V1 u0 u1 X w W) (hb : Below W.heap.size W W') : Bx2 s V0 V1 u0 u1 X w W' :=
  ⟨h.b.trans (hb.mono h.b.size), (hb.block _ (blk_lt h.sb)).trans h.sb, (hb.block _ (blk_lt h.x)).trans h.x, h.c.keep (below_keep hb)⟩
theorem Bx2.sc {s : Scr} {V0 V1 u0 u1 : Value} {X : Nat} {w W : World} (h : Bx2 s V0 V1 u0 u1 X w W) : W.cell? ⟨w.heap.size, 0, none⟩ = some V0 ∧ W.cell? ⟨w.heap.size, 1, none⟩ = some V1 := by
  refine ⟨?_, ?_⟩ <;> rw [Lib.cell_of_heap h.sb] <;> rfl
theorem Bx2.xc {s : Scr} {V0 V1 u0 u1 : Value} {X : Nat} {w W : World} (h : Bx2 s V0 V1 u0 u1 X w W) : W.cell? ⟨X, 0, none⟩ = some u0 ∧ W.cell? ⟨X, 1, none⟩ = some u1 := by
  refine ⟨?_, ?_⟩ <;> rw [Lib.cell_of_heap h.x] <;> rfl
/-- The copy, and its box. -/
theorem clone_box (s : Scr) (V0 V1 : Value) (w : World) (hs : ScIs w.cell? s V0 V1) (hsf : s.fits) : Calls Try.prog 8 #[.agg #[V0, V1]] (w.alloc (.cells #[V0, V1] 25)) fun e w2 => ∃ b0 d0 b1 d1, e = .returned (.agg #[.slice b0 s.consts.length d0, .slice b1 s.funcs.length d1]) ∧ Hid (Bx2 s V0 V1 (.slice b0 s.consts.length d0) (.slice b1 s.funcs.length d1) w2.heap.size w (w2.alloc (.cells #[.slice b0 s.consts.length d0, .slice b1 s.funcs.length d1] 25))) := by
  have b1 := (Below.refl _ w).alloc (Nat.le_refl _) (.cells #[V0, V1] 25)
  refine (rclone_any s V0 V1 _ (hs.keep (below_keep b1)) hsf).mono fun e w2 ⟨u0, u1, h1, h2, h3⟩ => ?_
  obtain ⟨⟨c0, d0, rfl, n0⟩, ⟨c1, d1, rfl, n1⟩⟩ := h2
  have e2 : (w.alloc (.cells #[V0, V1] 25)).heap[w.heap.size]? = some (.cells #[V0, V1] 25 (0, 0)) := heap_alloc_new w _
  have e3 := (h3.block _ (blk_lt e2)).trans e2
  have bA := (Below.refl _ w2).alloc (Nat.le_refl _) (.cells #[.slice c0 s.consts.length d0, .slice c1 s.funcs.length d1] 25)
  have bw := b1.trans (h3.mono b1.size)
  exact ⟨c0, d0, c1, d1, h1, hid7 ⟨bw.trans (bA.mono bw.size), (bA.block _ (blk_lt e3)).trans e3, heap_alloc_new w2 _, ScIs.keep ⟨⟨c0, d0, rfl, n0⟩, ⟨c1, d1, rfl, n1⟩⟩ (below_keep bA)⟩⟩
theorem allFrom_rows (fs : List Fn) : ∀ (m k : Nat) (acc : List Int), (allFrom fs m k acc).2.length ≤ acc.length + m
  | 0, _, acc => by simp [allFrom]
  | m + 1, k, acc => by
    rw [allFrom]
    split
    · refine Nat.le_trans (allFrom_rows fs m (k + 1) _) ?_
      simp
      omega
    · simp
set_option maxRecDepth 100000 in
set_option maxHeartbeats 2000000 in
theorem alls7_any (s : Scr) (V0 V1 : Value) (pa qa : Option Addr) (pl pc ql qc : Nat) (p q : List Int) (w : World) (hs : ScIs w.cell? s V0 V1) (hsf : s.fits) (hI64 : ∀ f ∈ s.funcs, ∀ x ∈ f.code, -9223372036854775808 ≤ x.2 ∧ x.2 ≤ 9223372036854775807) (hpl : p.length = pl) (hql : q.length = ql) (hp : NsAt w.cell? pa p) (hq : NsAt w.cell? qa q) (bp : pl ≤ 17592186044416) (bq : ql ≤ 17592186044416) :
    Calls Try.prog 4 #[.agg #[V0, V1], .slice pa pl pc, .slice qa ql qc] w fun e w' => e = .returned (.bool true) ∧ Below w.heap.size w w' := by
  obtain ⟨⟨a0, c0, rfl, n0⟩, ⟨a1, c1, rfl, n1⟩⟩ := hs
  have hs : ScIs w.cell? s (.slice a0 s.consts.length c0) (.slice a1 s.funcs.length c1) := ⟨⟨a0, c0, rfl, n0⟩, ⟨a1, c1, rfl, n1⟩⟩
  obtain ⟨RA, hRA⟩ : ∃ RA, RA = allS s := ⟨_, rfl⟩
  have hRl : RA.2.length ≤ 17592186044416 := by
    have hf := hsf.2.1
    have := allFrom_rows s.funcs s.funcs.length 0 []
    rw [hRA, allS]
    split
    · simp at this; omega
    · simp
  have HC : Hid (Calls Try.prog 8 #[.agg #[.slice a0 s.consts.length c0, .slice a1 s.funcs.length c1]] (w.alloc (.cells #[.slice a0 s.consts.length c0, .slice a1 s.funcs.length c1] 25)) fun e w2 => ∃ b0 d0 b1 d1, e = .returned (.agg #[.slice b0 s.consts.length d0, .slice b1 s.funcs.length d1]) ∧
      Hid (Calls Try.prog 15 #[.agg #[.slice b0 s.consts.length d0, .slice b1 s.funcs.length d1]] (w2.alloc (.cells #[.slice b0 s.consts.length d0, .slice b1 s.funcs.length d1] 25)) fun e w3 => ∃ a c, e = .returned (.tuple #[.slice a RA.2.length c, .int .i64 RA.1]) ∧ (w3.cell? ⟨w.heap.size, 0, none⟩ = some (.slice a0 s.consts.length c0) ∧ w3.cell? ⟨w.heap.size, 1, none⟩ = some (.slice a1 s.funcs.length c1)) ∧
        Hid (Calls Try.prog 16 #[.agg #[.slice a0 s.consts.length c0, .slice a1 s.funcs.length c1]] w3 fun e w4 => ∃ b d, e = .returned (.tuple #[.slice b RA.2.length d, .int .i64 RA.1]) ∧
          Hid (Calls Try.prog 17 #[.slice a RA.2.length c, .slice b RA.2.length d] w4 fun e w5 => e = .returned (.bool true) ∧
            Hid (Calls Try.prog 18 #[.slice pa pl pc, .slice qa ql qc] w5 fun e w6 => e = .returned (.int .i64 (alikeS p q)) ∧
              Hid (Calls Try.prog 19 #[.slice pa pl pc, .slice qa ql qc] w6 fun e w7 => e = .returned (.int .i64 (alikeS p q)) ∧ (w7.cell? ⟨w.heap.size, 0, none⟩ = some (.slice a0 s.consts.length c0) ∧ w7.cell? ⟨w.heap.size, 1, none⟩ = some (.slice a1 s.funcs.length c1) ∧ w7.cell? ⟨w2.heap.size, 0, none⟩ = some (.slice b0 s.consts.length d0) ∧ w7.cell? ⟨w2.heap.size, 1, none⟩ = some (.slice b1 s.funcs.length d1)) ∧
                Hid (Calls Try.prog 13 #[.agg #[.slice b0 s.consts.length d0, .slice b1 s.funcs.length d1], .agg #[.slice a0 s.consts.length c0, .slice a1 s.funcs.length c1]] w7 fun e w8 => e = .returned (.bool true) ∧ Hid (Below w.heap.size w w8)))))))) := hid7 ((clone_box s _ _ w hs hsf).mono fun e w2 ⟨b0, d0, b1, d1, h1, h2⟩ => ⟨b0, d0, b1, d1, h1, hid7 ((all7_any s _ _ _ h2.out.c hsf).mono fun e w3 ⟨a, c, h3, h4, h5⟩ => by
    have x3 := h2.out.below h5
    rw [← hRA] at h3 h4
    refine ⟨a, c, h3, x3.sc, hid7 ((rall7_any s _ _ w3 (hs.keep (below_keep x3.b)) hsf hI64).mono fun e w4 ⟨b, d, h6, h7, h8⟩ => ?_)⟩
    have x4 := x3.below h8
    rw [← hRA] at h6 h7
    refine ⟨b, d, h6, hid7 ((lints_any a b c d _ _ RA.2 RA.2 rfl rfl w4 (h4.keep (below_keep h8)) h7 hRl hRl).mono fun e w5 ⟨h9, k5, e5⟩ => ?_)⟩
    subst e5
    have x5 := x4.below (below_draws2 (Below.refl _ w4) k5)
    refine ⟨by rw [h9]; simp, hid7 ((alike_big pa qa pc qc pl ql p q hpl hql bp bq _ (hp.keep (below_keep x5.b)) (hq.keep (below_keep x5.b))).mono fun e w6 ⟨h10, k6, e6⟩ => ?_)⟩
    subst e6
    have x6 := x5.below (below_draws2 (Below.refl _ _) k6)
    refine ⟨h10, hid7 ((ralike_any pa qa pc qc pl ql p q hpl hql bp _ (hp.keep (below_keep x6.b)) (hq.keep (below_keep x6.b))).mono fun e w7 ⟨h11, k7, e7⟩ => ?_)⟩
    subst e7
    have x7 := x6.below (below_draws2 (Below.refl _ _) k7)
    refine ⟨h11, ⟨x7.sc.1, x7.sc.2, x7.xc.1, x7.xc.2⟩, hid7 ((rsame_any s s _ _ _ _ _ x7.c (hs.keep (below_keep x7.b)) hsf hsf).mono fun e w8 ⟨h12, h13⟩ => ⟨by rw [h12]; simp, hid7 (x7.b.trans (h13.mono x7.b.size))⟩)⟩)⟩)
  clear hs n0 n1 hsf hI64 hp hq hRA hRl hpl hql
  obtain ⟨er, rows⟩ := RA
  simp only at HC
  generalize rows.length = rl at HC
  generalize alikeS p q = al at HC
  generalize s.funcs.length = fl at HC ⊢
  generalize s.consts.length = cl at HC ⊢
  go_enter Try.func4, Try.ntmps4
  go_wp2_with (first
    | (go_at_call 8; refine HC.out.mono ?_; clear HC; rintro e w2 ⟨b0, d0, b1, d1, rfl, H2⟩)
    | (go_at_call 15; refine H2.out.mono ?_; clear H2; rintro e w3 ⟨a, c, rfl, ⟨s0, s1⟩, H3⟩)
    | (go_at_call 16; refine H3.out.mono ?_; clear H3; rintro e w4 ⟨b, d, rfl, H4⟩)
    | (go_at_call 17; refine H4.out.mono ?_; clear H4; rintro e w5 ⟨rfl, H5⟩)
    | (go_at_call 18; refine H5.out.mono ?_; clear H5; rintro e w6 ⟨rfl, H6⟩)
    | (go_at_call 19; refine H6.out.mono ?_; clear H6; rintro e w7 ⟨rfl, ⟨y0, y1, y2, y3⟩, H7⟩)
    | (go_at_call 13; refine H7.out.mono ?_; clear H7; rintro e w8 ⟨rfl, B8⟩)
    | (go_at_call 12; refine (num7_any _ _).mono ?_; rintro e w9 ⟨rfl, w9e⟩; rw [w9e]; clear w9e)
    | (go_at_call 14; refine (knows7_any _).mono ?_; rintro e w10 ⟨rfl, b10⟩)
    | fail)
  go_ret
  exact ⟨rfl, B8.out.trans (b10.mono B8.out.size)⟩
end Go.Proofs.Ytnidakplcaanfaa
