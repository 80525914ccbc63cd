/- The law TypesMore. -/
import Derived.Test.YtnidakplcaanfaaUM
import Derived.Test.YtnidakplcaanfaaTYm
import Derived.Test.YtnidakplcaanfaaTV
import Derived.Test.YtnidakplcaanfaaCTg
import Derived.Deep.RegionLaw
namespace Go.Proofs.Ytnidakplcaanfaa
open Go.RowKit Go.Shelf
theorem way7m (k : Int) (n : Nat) (h1 : 1 ≤ n) (h2 : n ≤ 1048576) : ∃ j : Nat, (wrap64 (k.tmod (n : Int) + (n : Int))).tmod (n : Int) = j ∧ j < n := by
  have ha : (k.tmod (n : Int)).natAbs = k.natAbs % n := by rw [Int.natAbs_tmod]; simp
  have hb : k.natAbs % n < n := Nat.mod_lt _ (by omega)
  generalize k.tmod (n : Int) = x at *
  have e : wrap64 (x + n) = x + n := by unfold wrap64; omega
  rw [e, Int.tmod_eq_emod_of_nonneg (by omega)]
  have c1 := Int.emod_nonneg (x + n) (by omega : (n : Int) ≠ 0)
  have c2 := Int.emod_lt_of_pos (x + n) (by omega : 0 < (n : Int))
  exact ⟨((x + n) % n).toNat, by omega, by omega⟩
theorem more_fits {s : Scr} (h : s.right = true) {n : Nat} (hn : n < s.funcs.length) (hc : s.consts.length < 32) (hf : s.funcs.length < 16) (hsf : s.fits) : (moreS s n).fits := by
  obtain ⟨h1, h2, h3, h4⟩ := hsf
  refine ⟨by simp [moreS]; omega, by simp [moreS]; omega, fun f hfm => ?_, fun x hx => ?_⟩
  · rcases List.mem_append.1 hfm with q | q
    · rcases List.mem_or_eq_of_mem_set q with q | q
      · exact h3 f q
      · have hg := (right_facts h).2.2 (fnAt s.funcs n) (by rw [← fnAt_get hn]; exact List.getElem_mem _)
        have hf3 := h3 (fnAt s.funcs n) (by rw [← fnAt_get hn]; exact List.getElem_mem _)
        rw [q]
        unfold longer
        split
        · exact ⟨hf3.1, hf3.2.1, by have := hg.s; simp; omega, hf3.2.2.2⟩
        · exact hf3
    · rw [List.mem_singleton] at q
      subst q
      exact ⟨by simp, by simp, by simp, by simp⟩
  · rcases List.mem_append.1 hx with q | q
    · exact h4 x q
    · rw [List.mem_singleton] at q; subst q; simp
/-- The copy, boxed. -/
theorem mo_new {sb : Nat} {sc : Array Value} {s : Scr} {w W w3 : World} {e : Ending} (hsb : W.heap[sb]? = some (.cells sc 25 (0, 0))) (hw : Below w.heap.size w W) (h : CloneAll s W e w3) (h1 : 1 ≤ s.funcs.length) : ∃ a0 c0 fb fc xs γ B base, e = .returned (.agg #[.slice a0 s.consts.length c0, .slice (some ⟨fb, 0, none⟩) s.funcs.length fc]) ∧ Mo sb sc s.consts s.funcs base B w3.heap.size (.slice a0 s.consts.length c0) (.slice (some ⟨fb, 0, none⟩) s.funcs.length fc) xs γ w (w3.alloc (.cells #[.slice a0 s.consts.length c0, .slice (some ⟨fb, 0, none⟩) s.funcs.length fc] 25)) ∧ Below W.heap.size W w3 := by
  obtain ⟨u0, u1, xs, γ, B, fb0, he, hb1, hB, hB2, hc, hf, hfl, hr⟩ := h
  obtain ⟨a0, c0, rfl, _, _, _⟩ := row_form hc
  obtain ⟨a1, c1, rfl, _, _, hx⟩ := row_form hf
  rcases hx with ⟨_, h0, _⟩ | ⟨fb, rfl, _, _, _⟩
  · omega
  have bA := (Below.refl _ w3).alloc (Nat.le_refl _) (.cells #[.slice a0 s.consts.length c0, .slice (some ⟨fb, 0, none⟩) s.funcs.length c1] 25)
  have b3 := hw.trans (hb1.mono hw.size)
  exact ⟨a0, c0, fb, c1, xs, γ, B, W.heap.size, he, ⟨b3.alloc b3.size _, hw.size, b3.size, Nat.le_trans hb1.size bA.size, Nat.lt_of_lt_of_le hB2 bA.size, Nat.le_trans hw.size hB, heap_alloc_new w3 _, (bA.block _ (blk_lt ((hb1.block _ (blk_lt hsb)).trans hsb))).trans ((hb1.block _ (blk_lt hsb)).trans hsb), Nat.ne_of_lt (Nat.lt_of_lt_of_le (blk_lt hsb) hb1.size), row_below2 hc bA, row_below2 (row_down hf hfl) bA, hr.keep (kp_below bA fun _ _ => rfl)⟩, hb1⟩
theorem mo_ex {sb : Nat} {sc : Array Value} {cs : List (List UInt8)} {fs : List Fn} {tb : Nat} {u0 u1 : Value} {w W V : World} (h : ∃ xs γ B base, Mo sb sc cs fs base B tb u0 u1 xs γ w W) (hb : Below W.heap.size W V) : ∃ xs γ B base, Mo sb sc cs fs base B tb u0 u1 xs γ w V := by
  obtain ⟨xs, γ, B, base, m⟩ := h
  exact ⟨xs, γ, B, base, m.below hb fun _ _ => rfl⟩
theorem row_some {W : World} {base n size : Nat} {e : TypeId} {v : Value} {xs : List Value} (h : W.ownsRow base e size v n xs) (hn : 0 < n) : ∃ fb fc, v = .slice (some ⟨fb, 0, none⟩) n fc ∧ ∀ j u, xs[j]? = some u → W.cell? ⟨fb, j, none⟩ = some u := by
  obtain ⟨a, c, rfl, _, _, hx⟩ := row_form h
  rcases hx with ⟨_, h0, _⟩ | ⟨g, rfl, _, _, hc⟩
  · omega
  · exact ⟨g, c, rfl, hc⟩
/-- A function more, and what is read of the n-th one then. -/
theorem mo_func {sb : Nat} {sc : Array Value} {cs : List (List UInt8)} {fs : List Fn} {tb fb fc n g : Nat} {u0 : Value} {w W : World} (hg : g = W.heap.size) (hn : n < fs.length) (h : ∃ xs γ B base, Mo sb sc cs fs base B tb u0 (.slice (some ⟨fb, 0, none⟩) fs.length fc) xs γ w W) :
    ∃ base xs, ((W.alloc (.cells #[.int .i64 2] 3)).alloc (.cells #[.slice (some ⟨g, 0, none⟩) 1 1, .slice none 0 0, .slice none 0 0, .slice none 0 0] 50)).ownsRow base 50 4 (.slice (some ⟨fb, 0, none⟩) fs.length fc) fs.length xs ∧ base ≤ ((W.alloc (.cells #[.int .i64 2] 3)).alloc (.cells #[.slice (some ⟨g, 0, none⟩) 1 1, .slice none 0 0, .slice none 0 0, .slice none 0 0] 50)).heap.size ∧
      ∀ v' W', W'.ownsRow base 50 4 v' (fs.length + 1) (xs ++ [.slice (some ⟨g, 0, none⟩) 1 1, .slice none 0 0, .slice none 0 0, .slice none 0 0]) → Step ((W.alloc (.cells #[.int .i64 2] 3)).alloc (.cells #[.slice (some ⟨g, 0, none⟩) 1 1, .slice none 0 0, .slice none 0 0, .slice none 0 0] 50)) (.slice (some ⟨fb, 0, none⟩) fs.length fc) W' v' →
        ∃ fb' fc' pa pc la lc, v' = .slice (some ⟨fb', 0, none⟩) (fs.length + 1) fc' ∧ W'.cell? ⟨tb, 0, none⟩ = some u0 ∧ W'.cell? ⟨tb, 1, none⟩ = some (.slice (some ⟨fb, 0, none⟩) fs.length fc) ∧ W'.frozen? ⟨tb, 1, none⟩ = false ∧ (W'.setCell ⟨tb, 1, none⟩ (.slice (some ⟨fb', 0, none⟩) (fs.length + 1) fc')).cell? ⟨tb, 1, none⟩ = some (.slice (some ⟨fb', 0, none⟩) (fs.length + 1) fc') ∧ (W'.setCell ⟨tb, 1, none⟩ (.slice (some ⟨fb', 0, none⟩) (fs.length + 1) fc')).cell? ⟨tb, 0, none⟩ = some u0 ∧ (W'.setCell ⟨tb, 1, none⟩ (.slice (some ⟨fb', 0, none⟩) (fs.length + 1) fc')).cell? ⟨fb', n * 4, none⟩ = some (.slice pa fs[n].p.length pc) ∧ (W'.setCell ⟨tb, 1, none⟩ (.slice (some ⟨fb', 0, none⟩) (fs.length + 1) fc')).cell? ⟨fb', n * 4 + 2, none⟩ = some (.slice la fs[n].l.length lc) ∧
          Hid (∃ xs γ B base, Mo sb sc cs (fs ++ [⟨[2], [], [], []⟩]) base B tb u0 (.slice (some ⟨fb', 0, none⟩) (fs.length + 1) fc') xs γ w (W'.setCell ⟨tb, 1, none⟩ (.slice (some ⟨fb', 0, none⟩) (fs.length + 1) fc')) ∧ xs[n * 4 + 2]? = some (.slice la fs[n].l.length lc)) := by
  subst hg
  obtain ⟨xs, γ, B, base, m⟩ := h
  have b2 : Below W.heap.size W ((W.alloc (.cells #[.int .i64 2] 3)).alloc (.cells #[.slice (some ⟨W.heap.size, 0, none⟩) 1 1, .slice none 0 0, .slice none 0 0, .slice none 0 0] 50)) := ((Below.refl _ W).alloc (Nat.le_refl _) _).alloc (by simp) _
  have m3 := m.below (γ' := tagAt W.heap.size γ (3 * fs.length)) b2 tag_old
  refine ⟨base, xs, m3.f, m3.siz, fun v' W' hr hs => ?_⟩
  obtain ⟨fb', fc', rfl, hcell⟩ := row_some hr (by omega)
  have bx := box_step m3.box m3.f hs (by decide)
  have hgb : ((W.alloc (.cells #[.int .i64 2] 3)).alloc (.cells #[.slice (some ⟨W.heap.size, 0, none⟩) 1 1, .slice none 0 0, .slice none 0 0, .slice none 0 0] 50)).heap[W.heap.size]? = some (.cells #[.int .i64 2] 3 (0, 0)) := by
    rw [Below.heap_alloc _ _ _ (by simp)]
    exact heap_alloc_new W _
  have m4 := m3.func hgb m.Bs (by unfold tagAt; rw [if_neg (by omega)]) hr hs
  obtain ⟨v0, v1, v2, v3, q0, q1, q2, q3, ⟨f0, f1, f2, f3⟩⟩ := m4.r.2 n (by simp; omega)
  rw [List.getElem_append_left hn] at f0 f2
  obtain ⟨pa, pc, rfl, _⟩ := f0
  obtain ⟨la, lc, rfl, _⟩ := f2
  have hf4 := m4.f
  rw [List.length_append, List.length_singleton] at hf4
  obtain ⟨_, _, e4, hcell4⟩ := row_some hf4 (by omega)
  cases e4
  have bx4 := m4.box
  exact ⟨fb', fc', pa, pc, la, lc, rfl, by rw [Lib.cell_of_heap bx]; rfl, by rw [Lib.cell_of_heap bx]; rfl, Lib.frozen_of_heap bx 1, by rw [Lib.cell_of_heap bx4]; rfl, by rw [Lib.cell_of_heap bx4]; rfl, hcell4 _ _ q0, hcell4 _ _ q2, hid7 ⟨_, _, _, _, m4, q2⟩⟩
/-- A local more. -/
theorem mo_local {sb : Nat} {sc : Array Value} {cs : List (List UInt8)} {fs : List Fn} {tb fb fc n : Nat} {u0 : Value} {la : Option Addr} {lc : Nat} {w W : World} (hn : n < fs.length) (h : ∃ xs γ B base, Mo sb sc cs (fs ++ [⟨[2], [], [], []⟩]) base B tb u0 (.slice (some ⟨fb, 0, none⟩) (fs.length + 1) fc) xs γ w W ∧ xs[n * 4 + 2]? = some (.slice la fs[n].l.length lc)) :
    ∃ base, (W.alloc (.cells #[.int .i64 3] 3)).ownsRow base 3 1 (.slice la fs[n].l.length lc) fs[n].l.length (cellsN fs[n].l) ∧ base ≤ (W.alloc (.cells #[.int .i64 3] 3)).heap.size ∧
      ∀ v' W', W'.ownsRow base 3 1 v' (fs[n].l.length + 1) (cellsN fs[n].l ++ [.int .i64 3]) → Step (W.alloc (.cells #[.int .i64 3] 3)) (.slice la fs[n].l.length lc) W' v' → ∃ va vc, v' = .slice va (fs[n].l.length + 1) vc ∧ W'.cell? ⟨tb, 1, none⟩ = some (.slice (some ⟨fb, 0, none⟩) (fs.length + 1) fc) ∧ (∃ old, W'.cell? ⟨fb, n * 4 + 2, none⟩ = some old) ∧ W'.frozen? ⟨fb, n * 4 + 2, none⟩ = false ∧ (W'.setCell ⟨fb, n * 4 + 2, none⟩ (.slice va (fs[n].l.length + 1) vc)).cell? ⟨tb, 0, none⟩ = some u0 ∧ (W'.setCell ⟨fb, n * 4 + 2, none⟩ (.slice va (fs[n].l.length + 1) vc)).cell? ⟨tb, 1, none⟩ = some (.slice (some ⟨fb, 0, none⟩) (fs.length + 1) fc) ∧
        Hid (Below w.heap.size w (W'.setCell ⟨fb, n * 4 + 2, none⟩ (.slice va (fs[n].l.length + 1) vc)) ∧ ScIs (W'.setCell ⟨fb, n * 4 + 2, none⟩ (.slice va (fs[n].l.length + 1) vc)).cell? ⟨cs, fs.set n ⟨fs[n].p, fs[n].r, fs[n].l ++ [3], fs[n].code⟩ ++ [⟨[2], [], [], []⟩]⟩ u0 (.slice (some ⟨fb, 0, none⟩) (fs.length + 1) fc) ∧ (W'.setCell ⟨fb, n * 4 + 2, none⟩ (.slice va (fs[n].l.length + 1) vc)).heap[tb]? = some (.cells #[u0, .slice (some ⟨fb, 0, none⟩) (fs.length + 1) fc] 25 (0, 0)) ∧ (W'.setCell ⟨fb, n * 4 + 2, none⟩ (.slice va (fs[n].l.length + 1) vc)).heap[sb]? = some (.cells sc 25 (0, 0))) := by
  obtain ⟨xs, γ, B, base, m, hx⟩ := h
  have bA := (Below.refl _ W).alloc (Nat.le_refl _) (.cells #[.int .i64 3] 3)
  have m2 := m.below (γ' := γ) bA fun _ _ => rfl
  have hn' : n < (fs ++ [(⟨[2], [], [], []⟩ : Fn)]).length := by simp; omega
  have eN : (fs ++ [(⟨[2], [], [], []⟩ : Fn)])[n] = fs[n] := List.getElem_append_left hn
  obtain ⟨v0, v1, v2, v3, q0, q1, q2, q3, ⟨f0, f1, f2, f3⟩⟩ := m2.r.2 n hn'
  rw [hx] at q2
  cases q2
  rw [eN] at f2
  have hrow := own_row f2
  refine ⟨B + 1, hrow, m2.Bs, fun v' W' hr hs => ?_⟩
  obtain ⟨va, vc, rfl, _⟩ := row_form hr
  have hf2 := m2.f
  rw [List.length_append, List.length_singleton] at hf2
  have hf3 := row_stepM hf2 hrow hs (by decide)
  obtain ⟨_, _, e4, hcell⟩ := row_some hf3 (by omega)
  cases e4
  have hblk : ∃ cur, W'.heap[fb]? = some (.cells cur 50 (0, 0)) := by
    rcases hf3.2 with ⟨e, _⟩ | ⟨g', cap', cur, e, _, hh, _⟩
    · cases e
    · cases e
      exact ⟨cur, hh⟩
  obtain ⟨cur, hcur⟩ := hblk
  have bx := box_step m2.box hrow hs (by decide)
  have hne : tb ≠ fb := fun e => by rw [e, hcur] at bx; cases bx
  have bx' : (W'.setCell ⟨fb, n * 4 + 2, none⟩ (.slice va (fs[n].l.length + 1) vc)).heap[tb]? = some (.cells #[u0, .slice (some ⟨fb, 0, none⟩) (fs.length + 1) fc] 25 (0, 0)) := by rw [Below.heap_setCell _ _ _ _ hne]; exact bx
  have m3 : Mo sb sc cs (fs ++ [(⟨[2], [], [], []⟩ : Fn)]) base B tb u0 (.slice (some ⟨fb, 0, none⟩) (fs ++ [(⟨[2], [], [], []⟩ : Fn)]).length fc) xs γ w (W.alloc (.cells #[.int .i64 3] 3)) := by
    rw [List.length_append, List.length_singleton]
    exact m2
  have hL := m3.local hn' hx (x := 3) (W' := W') (v' := .slice va (fs[n].l.length + 1) vc) (by rw [eN]; exact hr) hs
  rw [List.length_append, List.length_singleton, eN, List.set_append_left _ _ hn] at hL
  exact ⟨va, vc, rfl, by rw [Lib.cell_of_heap bx]; rfl, ⟨_, hcell _ _ hx⟩, Lib.frozen_of_heap hcur _, by rw [Lib.cell_of_heap bx']; rfl, by rw [Lib.cell_of_heap bx']; rfl, hid7 ⟨hL.2.1, hL.1, bx', hL.2.2⟩⟩
set_option maxRecDepth 100000 in
set_option maxHeartbeats 4000000 in
theorem more7_any (s : Scr) (V0 V1 : Value) (x : Int) (w : World) (hs : ScIs w.cell? s V0 V1) (hsf : s.fits) (hI64 : ∀ f ∈ s.funcs, ∀ x ∈ f.code, -9223372036854775808 ≤ x.2 ∧ x.2 ≤ 9223372036854775807) :
    Calls Try.prog 7 #[.agg #[V0, V1], .int .i64 x] w fun e w' => e = .returned (.bool true) ∧ Below w.heap.size w w' := by
  obtain ⟨⟨a0, c0, rfl, n0⟩, ⟨a1, c1, rfl, n1⟩⟩ := hs
  have b1 := (Below.refl _ w).alloc (Nat.le_refl _) (.cells #[.slice a0 s.consts.length c0, .slice a1 s.funcs.length c1] 25)
  have hsk : ∀ W, Below w.heap.size w W → ScIs W.cell? s (.slice a0 s.consts.length c0) (.slice a1 s.funcs.length c1) := fun W hb => ⟨⟨a0, c0, rfl, n0.keep fun x v h => (hb.cell (World.block_lt_of_cell? w x h)).trans h⟩, ⟨a1, c1, rfl, n1.keep fun x v h => (hb.cell (World.block_lt_of_cell? w x h)).trans h⟩⟩
  have HR : Hid (Calls Try.prog 20 #[.agg #[.slice a0 s.consts.length c0, .slice a1 s.funcs.length c1]] (w.alloc (.cells #[.slice a0 s.consts.length c0, .slice a1 s.funcs.length c1] 25)) fun e w1 => e = .returned (.bool s.right) ∧ w1.cell? ⟨w.heap.size, 0, none⟩ = some (.slice a0 s.consts.length c0) ∧ w1.cell? ⟨w.heap.size, 1, none⟩ = some (.slice a1 s.funcs.length c1) ∧ Hid (Below w.heap.size w w1) ∧ Hid (w1.heap[w.heap.size]? = some (.cells #[.slice a0 s.consts.length c0, .slice a1 s.funcs.length c1] 25 (0, 0)))) := hid7 ((rright4_any s _ _ _ (hsk _ b1) hsf hI64).mono fun e w1 ⟨h1, h2⟩ => by
    have e2 : (w.alloc (.cells #[.slice a0 s.consts.length c0, .slice a1 s.funcs.length c1] 25)).heap[w.heap.size]? = some (.cells #[.slice a0 s.consts.length c0, .slice a1 s.funcs.length c1] 25 (0, 0)) := heap_alloc_new w _
    have e3 := (h2.block _ (blk_lt e2)).trans e2
    exact ⟨h1, by simp [World.cell?, e3], by simp [World.cell?, e3], hid7 (b1.trans (h2.mono b1.size)), hid7 e3⟩)
  have hfl := hsf.2.1
  have hcl := hsf.1
  by_cases hr : s.right = true
  · rw [hr] at HR
    by_cases hc32 : (32 : Int) ≤ s.consts.length
    · clear hsk n0 n1 b1 hsf hI64 hr
      generalize s.funcs.length = fl at HR hfl ⊢
      generalize s.consts.length = cl at HR hc32 hcl ⊢
      go_enter Try.func7, Try.ntmps7
      go_wp2_with (first | (go_at_call 20; refine HR.out.mono ?_; clear HR; rintro e w1 ⟨rfl, d0, d1, B1, e1⟩) | (go_at_call 14; refine (knows7_any _).mono ?_; rintro e w8 ⟨rfl, b8⟩) | fail)
      go_ret
      exact ⟨rfl, B1.out.trans (b8.mono B1.out.size)⟩
    by_cases hf16 : (16 : Int) ≤ s.funcs.length
    · clear hsk n0 n1 b1 hsf hI64 hr
      generalize s.funcs.length = fl at HR hfl hf16 ⊢
      generalize s.consts.length = cl at HR hc32 hcl ⊢
      go_enter Try.func7, Try.ntmps7
      go_wp2_with (first | (go_at_call 20; refine HR.out.mono ?_; clear HR; rintro e w1 ⟨rfl, d0, d1, B1, e1⟩) | (go_at_call 14; refine (knows7_any _).mono ?_; rintro e w8 ⟨rfl, b8⟩) | fail)
      go_ret
      exact ⟨rfl, B1.out.trans (b8.mono B1.out.size)⟩
    · obtain ⟨f1, f2, _⟩ := right_facts hr
      obtain ⟨n, hn, hnl⟩ := way7m x s.funcs.length (by omega) (by omega)
      obtain ⟨RR, hRR⟩ : ∃ RR, RR = checkS s n := ⟨_, rfl⟩
      have hRR2 : RR = checkS (moreS s n) n := by rw [more_check hr hnl (by omega) (by omega)]; exact hRR
      have hrows : (∀ r ∈ RR.2, r.length ≤ 100000) ∧ RR.2.length ≤ 100000 := by
        rw [hRR, checkS, if_pos hr, if_pos (by omega)]
        obtain ⟨q1, q2⟩ := stacks_rows s.funcs (fnAt s.funcs n)
        have hc := ((right_facts hr).2.2 (fnAt s.funcs n) (by rw [← fnAt_get hnl]; exact List.getElem_mem _)).c
        exact ⟨fun r hr => Nat.le_trans (q1 r hr) (by omega), by omega⟩
      -- from the second copy on
      have H2 : Hid (∀ V u0 u1 tb, Below w.heap.size w V → ScIs V.cell? (moreS s n) u0 u1 → V.heap[tb]? = some (.cells #[u0, u1] 25 (0, 0)) → Calls Try.prog 8 #[.agg #[.slice a0 s.consts.length c0, .slice a1 s.funcs.length c1]] V fun e w5 => ∃ p0 p1, e = .returned (.agg #[p0, p1]) ∧
          Hid (Calls Try.prog 9 #[.agg #[p0, p1], .int .i64 n] w5 fun e w6 => ∃ a c, e = .returned (.tuple #[.slice a RR.2.length c, .int .i64 RR.1]) ∧ w6.cell? ⟨tb, 0, none⟩ = some u0 ∧ w6.cell? ⟨tb, 1, none⟩ = some u1 ∧
            Hid (Calls Try.prog 9 #[.agg #[u0, u1], .int .i64 n] w6 fun e w7 => ∃ b d, e = .returned (.tuple #[.slice b RR.2.length d, .int .i64 RR.1]) ∧
              Hid (Calls Try.prog 11 #[.slice a RR.2.length c, .slice b RR.2.length d] w7 fun e w8 => e = .returned (.bool true) ∧ Hid (Below w.heap.size w w8))))) := hid7 fun V u0 u1 tb hV hu htb => (rclone_any s _ _ V (hsk V hV) hsf).mono fun e w5 ⟨p0, p1, h1, h2, h3⟩ => ⟨p0, p1, h1, hid7 ((check7_any s p0 p1 n w5 h2 hsf).mono fun e w6 ⟨a, c, g1, g2, g3⟩ => by
        rw [← hRR] at g1 g2
        have e6 := (g3.block tb (blk_lt ((h3.block tb (blk_lt htb)).trans htb))).trans ((h3.block tb (blk_lt htb)).trans htb)
        have bV6 : Below V.heap.size V w6 := h3.trans (g3.mono h3.size)
        refine ⟨a, c, g1, by simp [World.cell?, e6], by simp [World.cell?, e6], hid7 ?_⟩
        refine (check7_any (moreS s n) _ _ n w6 (hu.keep (below_keep bV6)) (more_fits hr hnl (by omega) (by omega) hsf)).mono fun e w7 ⟨b, d, f1, f2, f3⟩ => ?_
        rw [← hRR2] at f1 f2
        refine ⟨b, d, f1, hid7 ?_⟩
        refine (lstacks_any RR.2 RR.2 a b c d _ _ rfl rfl hrows.2 hrows.2 hrows.1 hrows.1 w7 (g2.below f3).rs f2.rs).mono fun e w8 ⟨l1, kk, l2⟩ => ?_
        rw [l2]
        have q1 := hV.trans (bV6.mono hV.size)
        exact ⟨by rw [l1]; simp, hid7 (below_draws2 (q1.trans (f3.mono q1.size)) kk)⟩)⟩
      -- the first copy
      have H1 : Hid (∀ W, Below w.heap.size w W → W.heap[w.heap.size]? = some (.cells #[.slice a0 s.consts.length c0, .slice a1 s.funcs.length c1] 25 (0, 0)) → Calls Try.prog 8 #[.agg #[.slice a0 s.consts.length c0, .slice a1 s.funcs.length c1]] W fun e w3 => ∃ a2 c2 fb fc, e = .returned (.agg #[.slice a2 s.consts.length c2, .slice (some ⟨fb, 0, none⟩) s.funcs.length fc]) ∧ Hid (∃ xs γ B base, Mo w.heap.size #[.slice a0 s.consts.length c0, .slice a1 s.funcs.length c1] s.consts s.funcs base B w3.heap.size (.slice a2 s.consts.length c2) (.slice (some ⟨fb, 0, none⟩) s.funcs.length fc) xs γ w (w3.alloc (.cells #[.slice a2 s.consts.length c2, .slice (some ⟨fb, 0, none⟩) s.funcs.length fc] 25)))) := hid7 fun W hW hbx => (rclone_all s _ _ W (hsk W hW) hsf).mono fun e w3 hh => by
        obtain ⟨a2, c2, fb, fc, xs, γ, B, base, h1, h2, h3⟩ := mo_new hbx hW hh (by omega)
        exact ⟨a2, c2, fb, fc, h1, hid7 ⟨xs, γ, B, base, h2⟩⟩
      -- a constant more
      have HA : Hid (∀ W tb (a2 : Option Addr) c2 u1, (∃ xs γ B base, Mo w.heap.size #[.slice a0 s.consts.length c0, .slice a1 s.funcs.length c1] s.consts s.funcs base B tb (.slice a2 s.consts.length c2) u1 xs γ w W) → ∃ base, W.ownsRow base 9 1 (.slice a2 s.consts.length c2) s.consts.length (cellsS s.consts) ∧ base ≤ W.heap.size ∧ ∀ v' W', W'.ownsRow base 9 1 v' (s.consts.length + 1) (cellsS s.consts ++ [.string ⟨#[109, 111, 114, 101]⟩]) → Step W (.slice a2 s.consts.length c2) W' v' → ∃ va vc, v' = .slice va (s.consts.length + 1) vc ∧ W'.cell? ⟨tb, 0, none⟩ = some (.slice a2 s.consts.length c2) ∧ W'.cell? ⟨tb, 1, none⟩ = some u1 ∧ W'.frozen? ⟨tb, 0, none⟩ = false ∧ Hid (∃ xs γ B base, Mo w.heap.size #[.slice a0 s.consts.length c0, .slice a1 s.funcs.length c1] (s.consts ++ [[109, 111, 114, 101]]) s.funcs base B tb (.slice va (s.consts.length + 1) vc) u1 xs γ w (W'.setCell ⟨tb, 0, none⟩ (.slice va (s.consts.length + 1) vc)))) := hid7 fun W tb a2 c2 u1 ⟨xs, γ, B, base, m⟩ => ⟨base, m.c, m.siz, fun v' W' hr hs => by
        obtain ⟨va, vc, rfl, _⟩ := row_form hr
        have bx := box_step m.box m.c hs (by decide)
        exact ⟨va, vc, rfl, by rw [Lib.cell_of_heap bx]; rfl, by rw [Lib.cell_of_heap bx]; rfl, Lib.frozen_of_heap bx 0, hid7 ⟨xs, γ, B, base, m.const (x := [109, 111, 114, 101]) hr hs⟩⟩⟩
      have HB := hid7 fun W tb fb fc g u0 (hg : g = W.heap.size) h => mo_func (sb := w.heap.size) (sc := #[.slice a0 s.consts.length c0, .slice a1 s.funcs.length c1]) (cs := s.consts ++ [[109, 111, 114, 101]]) (fs := s.funcs) (tb := tb) (fb := fb) (fc := fc) (n := n) (g := g) (u0 := u0) (w := w) (W := W) hg hnl h
      have HC := hid7 fun W tb fb fc u0 la lc h => mo_local (sb := w.heap.size) (sc := #[.slice a0 s.consts.length c0, .slice a1 s.funcs.length c1]) (cs := s.consts ++ [[109, 111, 114, 101]]) (fs := s.funcs) (tb := tb) (fb := fb) (fc := fc) (n := n) (u0 := u0) (la := la) (lc := lc) (w := w) (W := W) hnl h
      have HLn : Hid (s.funcs[n].p.length + s.funcs[n].l.length < 16 → moreS s n = ⟨s.consts ++ [[109, 111, 114, 101]], s.funcs.set n ⟨s.funcs[n].p, s.funcs[n].r, s.funcs[n].l ++ [3], s.funcs[n].code⟩ ++ [⟨[2], [], [], []⟩]⟩) := hid7 fun h => by rw [moreS, ← fnAt_get hnl, longer, if_pos h]
      have HLs : Hid (¬ s.funcs[n].p.length + s.funcs[n].l.length < 16 → moreS s n = ⟨s.consts ++ [[109, 111, 114, 101]], s.funcs ++ [⟨[2], [], [], []⟩]⟩) := hid7 fun h => by rw [moreS, ← fnAt_get hnl, longer, if_neg h, List.set_getElem_self]
      have HMs : Hid (∀ W tb fb fc u0 (la : Option Addr) lc, (∃ xs γ B base, Mo w.heap.size #[.slice a0 s.consts.length c0, .slice a1 s.funcs.length c1] (s.consts ++ [[109, 111, 114, 101]]) (s.funcs ++ [⟨[2], [], [], []⟩]) base B tb u0 (.slice (some ⟨fb, 0, none⟩) (s.funcs.length + 1) fc) xs γ w W ∧ xs[n * 4 + 2]? = some (.slice la s.funcs[n].l.length lc)) → ∀ V, Below W.heap.size W V → (∃ xs γ B base, Mo w.heap.size #[.slice a0 s.consts.length c0, .slice a1 s.funcs.length c1] (s.consts ++ [[109, 111, 114, 101]]) (s.funcs ++ [⟨[2], [], [], []⟩]) base B tb u0 (.slice (some ⟨fb, 0, none⟩) (s.funcs.length + 1) fc) xs γ w V ∧ xs[n * 4 + 2]? = some (.slice la s.funcs[n].l.length lc)) ∧ Below w.heap.size w V ∧ ScIs V.cell? ⟨s.consts ++ [[109, 111, 114, 101]], s.funcs ++ [⟨[2], [], [], []⟩]⟩ u0 (.slice (some ⟨fb, 0, none⟩) (s.funcs.length + 1) fc) ∧ V.heap[tb]? = some (.cells #[u0, .slice (some ⟨fb, 0, none⟩) (s.funcs.length + 1) fc] 25 (0, 0)) ∧ V.heap[w.heap.size]? = some (.cells #[.slice a0 s.consts.length c0, .slice a1 s.funcs.length c1] 25 (0, 0))) := hid7 fun W tb fb fc u0 la lc ⟨xs, γ, B, base, m, hx⟩ V hV => by
        have m2 := m.below (γ' := γ) hV fun _ _ => rfl
        exact ⟨⟨xs, γ, B, base, m2, hx⟩, m2.bel, m2.scr, m2.box, m2.sbx⟩
      have hg := (right_facts hr).2.2 s.funcs[n] (List.getElem_mem _)
      have hps := hg.s
      have hcb : s.consts.length < 32 := by omega
      have hfb16 : s.funcs.length < 16 := by omega
      have HcS := hid7 (cellsS_one s.consts)
      clear hsk n0 n1 b1 hsf hI64 hr hRR hRR2 hrows hg hc32 hf16
      obtain ⟨er, rows⟩ := RR
      simp only at H2
      generalize rows.length = rl at H2
      generalize s.funcs[n] = fN at *
      generalize fN.p.length = pl at *
      generalize fN.l.length = ll at *
      generalize s.funcs.length = fl at *
      generalize s.consts.length = cl at *
      by_cases hlong : pl + ll < 16
      · have HL := hid7 (HLn.out hlong)
        have hlt : (pl : Int) < 16 - ll := by omega
        clear HLn HLs
        go_enter Try.func7, Try.ntmps7
        go_wp2_with (first | (go_at_call 20; refine HR.out.mono ?_; clear HR; rintro e w1 ⟨rfl, d0, d1, B1, e1⟩) | fail)
        go_quiet (fail)
        go_wp2_with (first
          | (go_at_call 8; refine (H1.out _ (below_draws2 B1.out _) e1.out).mono ?_; clear H1; rintro e w3 ⟨a2, c2, fb, fc, rfl, K3⟩; obtain ⟨bs, o5, s5, hA5⟩ := HA.out _ _ a2 c2 _ (mo_ex K3.out ((Below.refl _ _).alloc (Nat.le_refl _) (.cells #[.string ⟨#[109, 111, 114, 101]⟩] 9))); have O5 := hid7 o5; have A5 := hid7 hA5; clear o5 hA5 HA)
          | (at_builtin; (refine wpList_appN _ rfl _ _ 22 rfl elemN_str bs _ cl (cellsS s.consts) rfl O5.out _ rfl 1 [.string ⟨#[109, 111, 114, 101]⟩] (.inr ⟨⟨_, 0, none⟩, 1, rfl, cells_new6 _ [.string ⟨#[109, 111, 114, 101]⟩] 9 _ (World.size_alloc _ _)⟩) rfl (by simp [Value.oneCell']) (by unfold maxLen; omega) (by omega) s5 ?_); intro v6 W6 hr6 hs6; obtain ⟨va, vc, y6, q0, q1, z0, K6⟩ := A5.out v6 W6 hr6 hs6; subst y6; clear hr6 hs6 A5 O5; obtain ⟨bs2, xs9, o9, s9, hB9⟩ := HB.out _ _ fb fc W6.heap.size _ (by simp) K6.out; have O9 := hid7 o9; have B9 := hid7 hB9; clear o9 hB9 HB)
          | (at_builtin; (refine wpList_appN _ rfl _ _ 23 rfl elemN_fn bs2 _ fl xs9 rfl O9.out _ rfl 1 [.slice (some ⟨W6.heap.size, 0, none⟩) 1 1, .slice none 0 0, .slice none 0 0, .slice none 0 0] (.inr ⟨⟨_, 0, none⟩, 1, rfl, cells_new6 _ [.slice (some ⟨W6.heap.size, 0, none⟩) 1 1, .slice none 0 0, .slice none 0 0, .slice none 0 0] 50 _ (by simp)⟩) rfl (by simp [Value.oneCell']) (by unfold maxLen; omega) (by omega) s9 ?_); intro v10 W10 hr10 hs10; obtain ⟨fb', fc', pa, pc, la, lc, y10, t0, t1, z1, t2, t3, t4, t5, K10⟩ := B9.out v10 W10 hr10 hs10; subst y10; clear hr10 hs10 B9 O9)
          | fail)
        generalize W10.setCell ⟨w3.heap.size, 1, none⟩ (.slice (some ⟨fb', 0, none⟩) (fl + 1) fc') = W11 at *
        generalize w3.heap.size = tb at *
        clear K3 K6 t0 t1 q0 q1 z0 z1
        have i1 : (n : Int) < (fl : Int) + 1 := by omega
        have i2 : (0 : Int) ≤ n := by omega
        have i3 : IntKind.i64.wrap (16 - (ll : Int)) = 16 - ll := by rw [IntKind.wrap_i64]; omega
        have i4 : decide ((pl : Int) < 16 - ll) = true := decide_eq_true hlt
        go_quiet (fail)
        go_wp2_with fail
        have HD : Hid (∀ V, Below W11.heap.size W11 V → _) := hid7 fun V (hV : Below W11.heap.size W11 V) => HC.out V tb fb' fc' (.slice va (cl + 1) vc) la lc (HMs.out W11 tb fb' fc' (.slice va (cl + 1) vc) la lc K10.out V hV).1
        clear HC
        have d5 : ((W11.drewN (nq + 1)).alloc (.cells #[.int .i64 3] 3)).cell? ⟨fb', n * 4 + 2, none⟩ = some (.slice la ll lc) := below_keep ((below_draws2 (Below.refl _ W11) (nq + 1)).alloc (Nat.le_refl _) _) _ _ t5
        have d2 : ((W11.drewN (nq + 1)).alloc (.cells #[.int .i64 3] 3)).cell? ⟨tb, 1, none⟩ = some (.slice (some ⟨fb', 0, none⟩) (fl + 1) fc') := below_keep ((below_draws2 (Below.refl _ W11) (nq + 1)).alloc (Nat.le_refl _) _) _ _ t2
        have t8 : tb < W11.heap.size := World.block_lt_of_cell? W11 _ t2
        have t9 : fb' < W11.heap.size := World.block_lt_of_cell? W11 _ t5
        go_cut [] (fun wx => wx.cell? ⟨tb, 0, none⟩ = some (.slice va (cl + 1) vc) ∧ wx.cell? ⟨tb, 1, none⟩ = some (.slice (some ⟨fb', 0, none⟩) (fl + 1) fc') ∧ Hid (Below w.heap.size w wx ∧ ScIs wx.cell? (moreS s n) (.slice va (cl + 1) vc) (.slice (some ⟨fb', 0, none⟩) (fl + 1) fc') ∧ wx.heap[tb]? = some (.cells #[.slice va (cl + 1) vc, .slice (some ⟨fb', 0, none⟩) (fl + 1) fc'] 25 (0, 0)) ∧ wx.heap[w.heap.size]? = some (.cells #[.slice a0 cl c0, .slice a1 fl c1] 25 (0, 0))))
        case first =>
          go_region_law (first | (obtain ⟨bs3, o12, s12, hD12⟩ := HD.out (W11.drewN nq).drew ((below_draws2 (Below.refl _ _) _).drew); refine step_appN _ rfl (.tmp 77) (.tmp 78) 35 rfl elemN_int bs3 _ ll (cellsN fN.l) rfl o12 _ rfl 1 [.int .i64 3] (.inr ⟨⟨_, 0, none⟩, 1, rfl, cells_new6 _ [.int .i64 3] 3 _ rfl⟩) rfl (by simp [Value.oneCell']) (by unfold maxLen; omega) (by omega) s12 ?_; intro v13 W13 hr13 hs13; obtain ⟨vb, vd, y13, c12, ⟨old, c13⟩, z13, t6, t7, K13⟩ := hD12 v13 W13 hr13 hs13; subst y13; clear hr13 hs13 o12 s12 hD12) | fail)
          all_goals
            go_wp2_with fail
            go_meet
            rw [HL.out]
            exact ⟨t6, t7, K13⟩
        case rest =>
          obtain ⟨x0, x1, KX⟩ := hcut
          have s0 : wc.cell? ⟨w.heap.size, 0, none⟩ = some (.slice a0 cl c0) := by rw [Lib.cell_of_heap KX.out.2.2.2]; rfl
          have s1 : wc.cell? ⟨w.heap.size, 1, none⟩ = some (.slice a1 fl c1) := by rw [Lib.cell_of_heap KX.out.2.2.2]; rfl
          have X2 := hid7 (H2.out wc _ _ tb KX.out.1 KX.out.2.1 KX.out.2.2.1)
          clear H2
          go_wp2_with (first
            | (go_at_call 8; refine X2.out.mono ?_; clear X2; rintro e w5 ⟨p0, p1, rfl, X5⟩)
            | (go_at_call 9; first
              | (refine X5.out.mono ?_; clear X5; rintro e w6 ⟨ra, rc, rfl, g0, g1, X6⟩)
              | (refine X6.out.mono ?_; clear X6; rintro e w7 ⟨rb, rd, rfl, X7⟩))
            | (go_at_call 11; refine X7.out.mono ?_; clear X7; rintro e w8 ⟨rfl, B8⟩)
            | (go_at_call 12; refine (num7_any _ _).mono ?_; rintro e w9 ⟨rfl, w9e⟩; rw [w9e]; clear w9e)
            | (go_at_call 14; refine (knows7_any _).mono ?_; rintro e w10 ⟨rfl, b10⟩)
            | fail)
          go_ret
          exact ⟨rfl, B8.out.trans (b10.mono B8.out.size)⟩
      · have HL := hid7 (HLs.out hlong)
        have hlt : ¬ (pl : Int) < 16 - ll := by omega
        clear HLn HLs HC
        go_enter Try.func7, Try.ntmps7
        go_wp2_with (first | (go_at_call 20; refine HR.out.mono ?_; clear HR; rintro e w1 ⟨rfl, d0, d1, B1, e1⟩) | fail)
        go_quiet (fail)
        go_wp2_with (first
          | (go_at_call 8; refine (H1.out _ (below_draws2 B1.out _) e1.out).mono ?_; clear H1; rintro e w3 ⟨a2, c2, fb, fc, rfl, K3⟩; obtain ⟨bs, o5, s5, hA5⟩ := HA.out _ _ a2 c2 _ (mo_ex K3.out ((Below.refl _ _).alloc (Nat.le_refl _) (.cells #[.string ⟨#[109, 111, 114, 101]⟩] 9))); have O5 := hid7 o5; have A5 := hid7 hA5; clear o5 hA5 HA)
          | (at_builtin; (refine wpList_appN _ rfl _ _ 22 rfl elemN_str bs _ cl (cellsS s.consts) rfl O5.out _ rfl 1 [.string ⟨#[109, 111, 114, 101]⟩] (.inr ⟨⟨_, 0, none⟩, 1, rfl, cells_new6 _ [.string ⟨#[109, 111, 114, 101]⟩] 9 _ (World.size_alloc _ _)⟩) rfl (by simp [Value.oneCell']) (by unfold maxLen; omega) (by omega) s5 ?_); intro v6 W6 hr6 hs6; obtain ⟨va, vc, y6, q0, q1, z0, K6⟩ := A5.out v6 W6 hr6 hs6; subst y6; clear hr6 hs6 A5 O5; obtain ⟨bs2, xs9, o9, s9, hB9⟩ := HB.out _ _ fb fc W6.heap.size _ (by simp) K6.out; have O9 := hid7 o9; have B9 := hid7 hB9; clear o9 hB9 HB)
          | (at_builtin; (refine wpList_appN _ rfl _ _ 23 rfl elemN_fn bs2 _ fl xs9 rfl O9.out _ rfl 1 [.slice (some ⟨W6.heap.size, 0, none⟩) 1 1, .slice none 0 0, .slice none 0 0, .slice none 0 0] (.inr ⟨⟨_, 0, none⟩, 1, rfl, cells_new6 _ [.slice (some ⟨W6.heap.size, 0, none⟩) 1 1, .slice none 0 0, .slice none 0 0, .slice none 0 0] 50 _ (by simp)⟩) rfl (by simp [Value.oneCell']) (by unfold maxLen; omega) (by omega) s9 ?_); intro v10 W10 hr10 hs10; obtain ⟨fb', fc', pa, pc, la, lc, y10, t0, t1, z1, t2, t3, t4, t5, K10⟩ := B9.out v10 W10 hr10 hs10; subst y10; clear hr10 hs10 B9 O9)
          | fail)
        generalize W10.setCell ⟨w3.heap.size, 1, none⟩ (.slice (some ⟨fb', 0, none⟩) (fl + 1) fc') = W11 at *
        generalize w3.heap.size = tb at *
        clear K3 K6 t0 t1 q0 q1 z0 z1
        have i1 : (n : Int) < (fl : Int) + 1 := by omega
        have i2 : (0 : Int) ≤ n := by omega
        have i3 : IntKind.i64.wrap (16 - (ll : Int)) = 16 - ll := by rw [IntKind.wrap_i64]; omega
        have i4 : decide ((pl : Int) < 16 - ll) = false := decide_eq_false (by omega)
        go_quiet (fail)
        obtain ⟨_, kb, ks, kx, ky⟩ := HMs.out W11 tb fb' fc' (.slice va (cl + 1) vc) la lc K10.out (W11.drewN nq) (below_draws2 (Below.refl _ _) _)
        rw [← HL.out] at ks
        have s0 : (W11.drewN nq).cell? ⟨w.heap.size, 0, none⟩ = some (.slice a0 cl c0) := by rw [Lib.cell_of_heap ky]; rfl
        have s1 : (W11.drewN nq).cell? ⟨w.heap.size, 1, none⟩ = some (.slice a1 fl c1) := by rw [Lib.cell_of_heap ky]; rfl
        have X2 := hid7 (H2.out (W11.drewN nq) _ _ tb kb ks kx)
        clear H2 kb ks kx ky
        go_wp2_with (first
          | (go_at_call 8; refine X2.out.mono ?_; clear X2; rintro e w5 ⟨p0, p1, rfl, X5⟩)
          | (go_at_call 9; first
            | (refine X5.out.mono ?_; clear X5; rintro e w6 ⟨ra, rc, rfl, g0, g1, X6⟩)
            | (refine X6.out.mono ?_; clear X6; rintro e w7 ⟨rb, rd, rfl, X7⟩))
          | (go_at_call 11; refine X7.out.mono ?_; clear X7; rintro e w8 ⟨rfl, B8⟩)
          | (go_at_call 12; refine (num7_any _ _).mono ?_; rintro e w9 ⟨rfl, w9e⟩; rw [w9e]; clear w9e)
          | (go_at_call 14; refine (knows7_any _).mono ?_; rintro e w10 ⟨rfl, b10⟩)
          | fail)
        go_ret
        exact ⟨rfl, B8.out.trans (b10.mono B8.out.size)⟩
  · have hr' : s.right = false := by simpa using hr
    rw [hr'] at HR
    clear hsk n0 n1 b1 hsf hI64 hr hr'
    generalize s.funcs.length = fl at HR hfl ⊢
    generalize s.consts.length = cl at HR hcl ⊢
    go_enter Try.func7, Try.ntmps7
    go_wp2_with (first | (go_at_call 20; refine HR.out.mono ?_; clear HR; rintro e w1 ⟨rfl, d0, d1, B1, e1⟩) | (go_at_call 14; refine (knows7_any _).mono ?_; rintro e w8 ⟨rfl, b8⟩) | fail)
    go_ret
    exact ⟨rfl, B1.out.trans (b8.mono B1.out.size)⟩
end Go.Proofs.Ytnidakplcaanfaa
