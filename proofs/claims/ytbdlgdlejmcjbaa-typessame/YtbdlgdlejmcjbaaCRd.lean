/- code.Right. types.Check of any script. -/
import Derived.Test.YtbdlgdlejmcjbaaON
import Derived.Test.YtbdlgdlejmcjbaaTS
namespace Go.Proofs.Ytbdlgdlejmcjbaa
open Go.RowKit
set_option maxRecDepth 100000 in
set_option maxHeartbeats 2000000 in
theorem right4_any (s : Scr) (V0 V1 : Value) (w : World) (hs : ScIs w.cell? s V0 V1) (hsf : s.fits) : Calls Try.prog 24 #[.agg #[V0, V1]] w fun e w' => e = .returned (.bool s.right) ∧ Below w.heap.size w w' := by
  have hRL : ∀ (f : Fn) v0 v1 v2 v3 (W : World), FnIs W.cell? f v0 v1 v2 v3 → f.fits → Calls Try.prog 46 #[.agg #[v0, v1, v2, v3]] W fun e w' => e = .returned (.bool f.lists) ∧ Below W.heap.size W w' := fun f v0 v1 v2 v3 W h h' => rightLists_any f v0 v1 v2 v3 W h h'
  have hRC : ∀ (f : Fn) v0 v1 v2 v3 (W : World), (∀ a v, w.cell? a = some v → W.cell? a = some v) → FnIs W.cell? f v0 v1 v2 v3 → f.fits → Calls Try.prog 47 #[.agg #[V0, V1], .agg #[v0, v1, v2, v3]] W fun e w' => e = .returned (.bool (f.code.all (insOk s.consts.length s.funcs.length (f.p.length + f.l.length)))) ∧ Below W.heap.size W w' := fun f v0 v1 v2 v3 W hk h h' => rightCode_any s f V0 V1 v0 v1 v2 v3 W (hs.keep hk) h hsf h'
  obtain ⟨⟨A0, C0, rfl, h0⟩, ⟨A1, C1, rfl, h1⟩⟩ := hs
  obtain ⟨z0, z1, z2, z3⟩ := hsf
  obtain ⟨nc, hnc⟩ : ∃ n, n = s.consts.length := ⟨_, rfl⟩
  obtain ⟨nf, hnf⟩ : ∃ n, n = s.funcs.length := ⟨_, rfl⟩
  have HR : Hid (s.right = (decide (nc ≤ 32) && decide (1 ≤ nf) && decide (nf ≤ 16) && s.consts.all (fun c => decide (c.length ≤ 256)) && s.funcs.all (Fn.right nc nf))) := hid (by rw [hnc, hnf]; rfl)
  rw [← hnc] at z0 hRC ⊢
  rw [← hnf] at z1 hRC ⊢
  have HC := hid hnc
  have HF := hid hnf
  clear hnc hnf
  obtain ⟨W2, hW2⟩ : ∃ W2, W2 = w.alloc (.cells #[.slice A0 nc C0, .slice A1 nf C1] 25) := ⟨_, rfl⟩
  have hb2 : Below w.heap.size w W2 := by rw [hW2]; exact (Below.refl _ w).alloc (Nat.le_refl _) _
  have bA : W2.heap[w.heap.size]? = some (.cells #[.slice A0 nc C0, .slice A1 nf C1] 25 (0, 0)) := by rw [hW2]; exact heap_alloc_new w _
  have lA := (Array.getElem?_eq_some_iff.1 bA).1
  have pA0 : W2.cell? ⟨w.heap.size, 0, none⟩ = some (.slice A0 nc C0) := by rw [Lib.cell_of_heap bA]; rfl
  have pA1 : W2.cell? ⟨w.heap.size, 1, none⟩ = some (.slice A1 nf C1) := by rw [Lib.cell_of_heap bA]; rfl
  replace h0 := h0.keep (below_keep hb2)
  replace h1 := h1.keep (below_keep hb2)
  by_cases d0 : nc ≤ 32
  · by_cases d1 : 1 ≤ nf
    · by_cases d2 : nf ≤ 16
      · have HR' : Hid (s.right = (s.consts.all (fun c => decide (c.length ≤ 256)) && s.funcs.all (Fn.right nc nf))) := hid (by rw [HR.out]; simp [d0, d1, d2])
        clear HR
        go_enter Try.func24, Try.ntmps24
        go_wp2_with fail
        rw [← hW2]
        clear hW2
        go_loopw [26] (fun i wr => ∃ k : Nat, k ≤ nc ∧ i = .int .i64 k ∧ Hid (∀ (j : Nat) (h : j < s.consts.length), j < k → decide (s.consts[j].length ≤ 256) = true) ∧ wr = W2) (fun i _ => nc - (intOf i).toNat)
        case atStart => exact ⟨0, Nat.zero_le _, rfl, hid (by omega), rfl⟩
        case round =>
          obtain ⟨k, hk, rfl, hr, hw⟩ := hrel
          replace hw := hw.symm
          subst hw
          by_cases hlt : k < nc
          · rcases h0 with hz | ⟨x0, o0, rfl, hc0⟩
            · have := HC.out; rw [hz] at this; simp at this; omega
            have kl : k < s.consts.length := by have := HC.out; omega
            have q0 := hc0 k kl
            have hzz := z3 s.consts[k] (by simp)
            have HS : Hid (decide (s.consts[k].length ≤ 256) = false → s.right = false) := hid fun h => by rw [HR'.out, all_stop (p := fun (c : List UInt8) => decide (c.length ≤ 256)) kl h]; rfl
            have HT : Hid (decide (s.consts[k].length ≤ 256) = true → ∀ (j : Nat) (h : j < s.consts.length), j < k + 1 → decide (s.consts[j].length ≤ 256) = true) := hid fun h j h1 hjk => by
              rcases Nat.lt_or_ge j k with h3 | h3
              · exact hr.out j h1 h3
              · obtain rfl : j = k := by omega
                exact h
            generalize s.consts[k] = x at q0 HS HT hzz
            clear hc0
            by_cases hx : x.length ≤ 256
            · have HE := hid (HT.out (decide_eq_true hx))
              clear HS HT
              go_wp2_with fail
              exact ⟨⟨k + 1, by omega, by go_num, HE, by first | rfl | trivial⟩, by simp [intOf]; omega⟩
            · have hx' : 256 < x.length := by omega
              have HE := hid (HS.out (decide_eq_false hx))
              clear HS HT
              go_wp2_with fail
              go_ret
              exact ⟨by rw [HE.out]; rfl, hb2⟩
          · have HA : Hid (s.right = s.funcs.all (Fn.right nc nf)) := hid (by
              have : s.consts.all (fun c => decide (c.length ≤ 256)) = true := List.all_eq_true.2 fun z hz => by
                obtain ⟨i, hi, rfl⟩ := List.getElem_of_mem hz
                exact hr.out i hi (by have := HC.out; omega)
              rw [HR'.out, this]
              rfl)
            clear hr HR'
            go_wp2_with fail
            go_loopw [37] (fun i w5 => ∃ k : Nat, k ≤ nf ∧ i = .int .i64 k ∧ Hid (∀ (j : Nat) (h : j < s.funcs.length), j < k → Fn.right nc nf s.funcs[j] = true) ∧ Below W2.heap.size W2 w5) (fun i _ => nf - (intOf i).toNat)
            case atStart => exact ⟨0, Nat.zero_le _, rfl, hid (by omega), Below.refl _ _⟩
            case round =>
              obtain ⟨k, hk, rfl, hr, hbr⟩ := hrel
              have hbw := hb2.trans (hbr.mono hb2.size)
              by_cases hlt : k < nf
              · rcases h1 with hz | ⟨x0, o0, rfl, hc0⟩
                · have := HF.out; rw [hz] at this; simp at this; omega
                have kl : k < s.funcs.length := by have := HF.out; omega
                obtain ⟨v0, v1, v2, v3, q0, q1, q2, q3, hfn⟩ := hc0 k kl
                have ff := z2 s.funcs[k] (by simp)
                have HS : Hid (Fn.right nc nf s.funcs[k] = false → s.right = false) := hid fun h => by rw [HA.out, all_stop kl h]
                have HT : Hid (Fn.right nc nf s.funcs[k] = true → ∀ (j : Nat) (h : j < s.funcs.length), j < k + 1 → Fn.right nc nf s.funcs[j] = true) := hid fun h j h1 hjk => by
                  rcases Nat.lt_or_ge j k with h3 | h3
                  · exact hr.out j h1 h3
                  · obtain rfl : j = k := by omega
                    exact h
                generalize s.funcs[k] = f at hfn HS HT ff
                have hkp := below_keep hbr
                replace q0 := hkp _ _ q0
                replace q1 := hkp _ _ q1
                replace q2 := hkp _ _ q2
                replace q3 := hkp _ _ q3
                replace hfn := hfn.keep hkp
                clear hc0 hkp
                obtain ⟨⟨fa0, fc0, rfl, F0⟩, ⟨fa1, fc1, rfl, F1⟩, ⟨fa2, fc2, rfl, F2⟩, ⟨fa3, fc3, rfl, F3⟩⟩ := hfn
                have HFR : Hid (Fn.right nc nf f = (f.lists && f.code.all (insOk nc nf (f.p.length + f.l.length)))) := hid rfl
                obtain ⟨W4, hW4⟩ : ∃ W4, W4 = wr.alloc (.cells #[.slice fa0 f.p.length fc0, .slice fa1 f.r.length fc1, .slice fa2 f.l.length fc2, .slice fa3 f.code.length fc3] 50) := ⟨_, rfl⟩
                have hb4 : Below wr.heap.size wr W4 := by rw [hW4]; exact (Below.refl _ wr).alloc (Nat.le_refl _) _
                have b4 : W4.heap[wr.heap.size]? = some (.cells #[.slice fa0 f.p.length fc0, .slice fa1 f.r.length fc1, .slice fa2 f.l.length fc2, .slice fa3 f.code.length fc3] 50 (0, 0)) := by rw [hW4]; exact heap_alloc_new wr _
                have l4 := (Array.getElem?_eq_some_iff.1 b4).1
                have bA4 := (hb4.block _ (Nat.lt_of_lt_of_le lA hbr.size)).trans ((hbr.block _ lA).trans bA)
                have hFn4 : FnIs W4.cell? f (.slice fa0 f.p.length fc0) (.slice fa1 f.r.length fc1) (.slice fa2 f.l.length fc2) (.slice fa3 f.code.length fc3) := FnIs.keep ⟨⟨fa0, fc0, rfl, F0⟩, ⟨fa1, fc1, rfl, F1⟩, ⟨fa2, fc2, rfl, F2⟩, ⟨fa3, fc3, rfl, F3⟩⟩ (below_keep hb4)
                have hL := hRL f _ _ _ _ W4 hFn4 ff
                have hbW4 : Below w.heap.size w W4 := hbw.trans (hb4.mono hbw.size)
                have hbR4 : Below W2.heap.size W2 W4 := hbr.trans (hb4.mono hbr.size)
                have hC : ∀ W, Below W4.heap.size W4 W → Calls Try.prog 47 #[.agg #[.slice A0 nc C0, .slice (some ⟨x0, o0, none⟩) nf C1], .agg #[.slice fa0 f.p.length fc0, .slice fa1 f.r.length fc1, .slice fa2 f.l.length fc2, .slice fa3 f.code.length fc3]] W fun e w' => e = .returned (.bool (f.code.all (insOk nc nf (f.p.length + f.l.length)))) ∧ Below W.heap.size W w' := fun W hW => hRC f _ _ _ _ W (below_keep (hbW4.trans (hW.mono hbW4.size))) (hFn4.keep (below_keep hW)) ff
                clear hRC hRL
                generalize f.code.all (insOk nc nf (f.p.length + f.l.length)) = r2 at hC HFR
                generalize f.lists = r1 at hL HFR
                generalize f.p.length = n0 at *
                generalize f.r.length = n1 at *
                generalize f.l.length = n2 at *
                generalize f.code.length = n3 at *
                have hcells : ∀ W, Below W4.heap.size W4 W → (W.cell? ⟨wr.heap.size, 0, none⟩ = some (.slice fa0 n0 fc0) ∧ W.cell? ⟨wr.heap.size, 1, none⟩ = some (.slice fa1 n1 fc1) ∧ W.cell? ⟨wr.heap.size, 2, none⟩ = some (.slice fa2 n2 fc2) ∧ W.cell? ⟨wr.heap.size, 3, none⟩ = some (.slice fa3 n3 fc3)) ∧ W.cell? ⟨w.heap.size, 0, none⟩ = some (.slice A0 nc C0) ∧ W.cell? ⟨w.heap.size, 1, none⟩ = some (.slice (some ⟨x0, o0, none⟩) nf C1) := fun W hW => by
                  have e4 := (hW.block _ l4).trans b4
                  have eA := (hW.block _ (Array.getElem?_eq_some_iff.1 bA4).1).trans bA4
                  exact ⟨⟨by rw [Lib.cell_of_heap e4]; rfl, by rw [Lib.cell_of_heap e4]; rfl, by rw [Lib.cell_of_heap e4]; rfl, by rw [Lib.cell_of_heap e4]; rfl⟩, by rw [Lib.cell_of_heap eA]; rfl, by rw [Lib.cell_of_heap eA]; rfl⟩
                obtain ⟨⟨k0, k1, k2, k3⟩, k4, k5⟩ := hcells W4 (Below.refl _ _)
                go_upto_region 12 with fail
                rw [← hW4]
                clear hW4 q0 q1 q2 q3
                cases r1 with
                | false =>
                  have HE := hid (HS.out (by rw [HFR.out]; rfl))
                  go_wp2_with (go_at_call 46; refine hL.mono ?_; rintro e w6 ⟨rfl, hb6⟩)
                  go_ret
                  exact ⟨by rw [HE.out]; rfl, hbW4.trans (hb6.mono hbW4.size)⟩
                | true =>
                  cases r2 with
                  | false =>
                    have HE := hid (HS.out (by rw [HFR.out]; rfl))
                    go_wp2_with (first | (go_at_call 46; refine hL.mono ?_; rintro e w6 ⟨rfl, hb6⟩; obtain ⟨⟨j0, j1, j2, j3⟩, j4, j5⟩ := hcells w6 hb6) | (go_at_call 47; refine (hC _ hb6).mono ?_; rintro e w7 ⟨rfl, hb7⟩))
                    go_ret
                    exact ⟨by rw [HE.out]; rfl, (hbW4.trans (hb6.mono hbW4.size)).trans (hb7.mono (Nat.le_trans hbW4.size hb6.size))⟩
                  | true =>
                    have HE := hid (HT.out (by rw [HFR.out]; rfl))
                    go_wp2_with (first | (go_at_call 46; refine hL.mono ?_; rintro e w6 ⟨rfl, hb6⟩; obtain ⟨⟨j0, j1, j2, j3⟩, j4, j5⟩ := hcells w6 hb6) | (go_at_call 47; refine (hC _ hb6).mono ?_; rintro e w7 ⟨rfl, hb7⟩))
                    exact ⟨⟨k + 1, by omega, by go_num, HE, (hbR4.trans (hb6.mono hbR4.size)).trans (hb7.mono (Nat.le_trans hbR4.size hb6.size))⟩, by simp [intOf]; omega⟩
              · have HE : Hid (s.right = true) := hid (by
                  rw [HA.out]
                  exact List.all_eq_true.2 fun z hz => by
                    obtain ⟨i, hi, rfl⟩ := List.getElem_of_mem hz
                    exact hr.out i hi (by have := HF.out; omega))
                go_wp2_with fail
                go_ret
                exact ⟨by rw [HE.out]; rfl, hbw⟩
      · have HE : Hid (s.right = false) := hid (by rw [HR.out]; simp [d2])
        go_enter Try.func24, Try.ntmps24
        go_wp2_with fail
        go_ret
        exact ⟨by rw [HE.out]; rfl, by rw [← hW2]; exact hb2⟩
    · have HE : Hid (s.right = false) := hid (by rw [HR.out]; simp [d1])
      have d1' : (nf : Int) < 1 := by omega
      go_enter Try.func24, Try.ntmps24
      go_wp2_with fail
      go_ret
      exact ⟨by rw [HE.out]; rfl, by rw [← hW2]; exact hb2⟩
  · have HE : Hid (s.right = false) := hid (by rw [HR.out]; simp [d0])
    go_enter Try.func24, Try.ntmps24
    go_wp2_with fail
    go_ret
    exact ⟨by rw [HE.out]; rfl, by rw [← hW2]; exact hb2⟩
end Go.Proofs.Ytbdlgdlejmcjbaa
namespace Go.Proofs.Ytbdlgdlejmcjbaa
open Go.RowKit Go.Shelf
structure FnR (fs : List Fn) (g : Fn) : Prop where
  p : g.p.length ≤ 8
  r : g.r.length ≤ 8
  s : g.p.length + g.l.length ≤ 16
  c : g.code.length ≤ 256
  i : ∀ x ∈ g.code, InsR fs (g.p ++ g.l) x
theorem right_facts {s : Scr} (h : s.right = true) : s.funcs.length ≤ 16 ∧ 1 ≤ s.funcs.length ∧ ∀ g ∈ s.funcs, FnR s.funcs g := by
  simp only [Scr.right, Bool.and_eq_true, decide_eq_true_eq, List.all_eq_true] at h
  obtain ⟨⟨⟨⟨_, h1⟩, h2⟩, _⟩, h3⟩ := h
  refine ⟨h2, h1, fun g hg => ?_⟩
  have hg := h3 g hg
  simp only [Fn.right, Fn.lists, Bool.and_eq_true, decide_eq_true_eq, List.all_eq_true] at hg
  obtain ⟨⟨⟨⟨⟨g1, g2⟩, g3⟩, g4⟩, _⟩, g5⟩ := hg
  refine ⟨g1, g2, g3, g4, fun x hx => ?_⟩
  have := g5 x hx
  simp only [insOk, Bool.and_eq_true, decide_eq_true_eq] at this
  obtain ⟨⟨⟨_, _⟩, i3⟩, i4⟩ := this
  rw [InsR, List.length_append]
  refine ⟨fun hn => ?_, fun hn => ?_⟩
  · have e : takesN x.1 = 3 := by rcases hn with hn | hn <;> rw [hn] <;> rfl
    rw [e] at i3 i4
    simp [boundsN] at i3 i4
    omega
  · have e : takesN x.1 = 5 := by rw [hn]; rfl
    rw [e] at i3 i4
    simp [boundsN] at i3 i4
    omega
/-- What Check answers. -/
def checkS (s : Scr) (f : Int) : Int × List (List Int) :=
  if s.right = true then (if 0 ≤ f ∧ f < s.funcs.length then stacksS s.funcs (fnAt s.funcs f) else (1, [])) else (30, [])
theorem fnAt_get {fs : List Fn} {k : Nat} (hk : k < fs.length) : fs[k] = fnAt fs k := by rw [fnAt, Int.toNat_natCast, List.getD_eq_getElem?_getD, List.getElem?_eq_getElem hk]; rfl
theorem right_heads {s : Scr} (h : s.right = true) : HeadsR s.funcs := fun f hf => ⟨((right_facts h).2.2 f hf).p, ((right_facts h).2.2 f hf).r⟩
theorem stacks_right {s : Scr} (h : s.right = true) (k : Nat) (hk : k < s.funcs.length) (fa : Option Addr) (fc : Nat) (w : World) (hF : FsAt w.cell? fa s.funcs) : Calls Try.prog 25 #[.slice fa s.funcs.length fc, .int .i64 k] w (StacksEnd (stacksS s.funcs (fnAt s.funcs k)) w) := by
  obtain ⟨h1, _, h3⟩ := right_facts h
  have hg := h3 (fnAt s.funcs k) (by rw [← fnAt_get hk]; exact List.getElem_mem _)
  exact stacks_any s.funcs fa fc k hk (right_heads h) h1 (fnAt s.funcs k) (fnAt_get hk) hg.s hg.c hg.i w hF
set_option maxRecDepth 100000 in
set_option maxHeartbeats 2000000 in
theorem check7_any (s : Scr) (V0 V1 : Value) (f : Int) (w : World) (hs : ScIs w.cell? s V0 V1) (hsf : s.fits) : Calls Try.prog 9 #[.agg #[V0, V1], .int .i64 f] w (StacksEnd (checkS s f) w) := by
  obtain ⟨⟨a0, c0, rfl, n0⟩, ⟨a1, c1, rfl, n1⟩⟩ := hs
  have b1 := (Below.refl _ w).alloc (Nat.le_refl _) (.cells #[.slice a0 s.consts.length c0, .slice a1 s.funcs.length c1] 25)
  have hk1 : ∀ x v, w.cell? x = some v → (w.alloc (.cells #[.slice a0 s.consts.length c0, .slice a1 s.funcs.length c1] 25)).cell? x = some v := fun x v h => (b1.cell (World.block_lt_of_cell? w x h)).trans h
  have hRt := right4_any s _ _ (w.alloc (.cells #[.slice a0 s.consts.length c0, .slice a1 s.funcs.length c1] 25)) ⟨⟨a0, c0, rfl, n0.keep hk1⟩, ⟨a1, c1, rfl, n1.keep hk1⟩⟩ hsf
  have HR : Hid (Calls Try.prog 24 #[.agg #[.slice a0 s.consts.length c0, .slice a1 s.funcs.length c1]] (w.alloc (.cells #[.slice a0 s.consts.length c0, .slice a1 s.funcs.length c1] 25)) fun e w1 => e = .returned (.bool s.right) ∧ w1.cell? ⟨w.heap.size, 1, none⟩ = some (.slice a1 s.funcs.length c1) ∧ Hid (Below w.heap.size w w1)) := hid7 (hRt.mono fun e w1 ⟨h1, h2⟩ => by
    have e2 : (w.alloc (.cells #[.slice a0 s.consts.length c0, .slice a1 s.funcs.length c1] 25)).heap[w.heap.size]? = some (.cells #[.slice a0 s.consts.length c0, .slice a1 s.funcs.length c1] 25 (0, 0)) := heap_alloc_new w _
    have e3 := (h2.block _ (blk_lt e2)).trans e2
    exact ⟨h1, by simp [World.cell?, e3], hid7 (b1.trans (h2.mono b1.size))⟩)
  have hfl := hsf.2.1
  by_cases hr : s.right = true
  · by_cases hf : 0 ≤ f ∧ f < s.funcs.length
    · obtain ⟨k, rfl⟩ : ∃ k : Nat, f = k := ⟨f.toNat, by omega⟩
      have e1 : checkS s k = stacksS s.funcs (fnAt s.funcs k) := by rw [checkS, if_pos hr, if_pos hf]
      rw [e1]
      have HS : Hid (∀ w1, Below w.heap.size w w1 → Calls Try.prog 25 #[.slice a1 s.funcs.length c1, .int .i64 k] w1 fun e w2 => ∃ v n, e = .returned (.tuple #[v, .int .i64 n]) ∧ Hid (StacksEnd (stacksS s.funcs (fnAt s.funcs k)) w e w2)) := hid7 fun w1 hb => (stacks_right hr k (by omega) a1 c1 w1 (n1.keep fun x v h => (hb.cell (World.block_lt_of_cell? w x h)).trans h)).mono fun e w2 ⟨a, c, h1, h2, h3⟩ => ⟨_, _, h1, hid7 ⟨a, c, h1, h2, hb.trans (h3.mono hb.size)⟩⟩
      have t1 : ¬ ((s.funcs.length : Int) ≤ k) := by omega
      rw [hr] at HR
      clear hRt hk1 n0 n1 b1 hr hf e1
      generalize stacksS s.funcs (fnAt s.funcs k) = RR at HS ⊢
      generalize s.funcs.length = fl at HR HS hfl t1 ⊢
      generalize s.consts.length = cl at HR ⊢
      go_enter Try.func9, Try.ntmps9
      go_wp2_with (first | (go_at_call 24; refine HR.out.mono ?_; clear HR; rintro e w1 ⟨rfl, d1, B1⟩) | (go_at_call 25; refine (HS.out w1 B1.out).mono ?_; clear HS; rintro e w2 ⟨v2, n2, rfl, K2⟩) | fail)
      go_ret2
      exact K2.out
    · have e1 : checkS s f = (1, []) := by rw [checkS, if_pos hr, if_neg hf]
      rw [e1]
      rw [hr] at HR
      have HE : Hid (∀ w1 e, Below w.heap.size w w1 → e = .returned (.tuple #[.slice none 0 0, .int .i64 1]) → StacksEnd (1, []) w e w1) := hid7 fun w1 e hb he => ⟨none, 0, he, .inl rfl, hb⟩
      clear hRt hk1 n0 n1 b1 hr e1
      by_cases h0 : f < 0
      · generalize s.funcs.length = fl at HR hfl ⊢
        generalize s.consts.length = cl at HR ⊢
        go_enter Try.func9, Try.ntmps9
        go_wp2_with (first | (go_at_call 24; refine HR.out.mono ?_; clear HR; rintro e w1 ⟨rfl, d1, B1⟩) | fail)
        go_ret2
        exact HE.out _ _ B1.out rfl
      · have t1 : (s.funcs.length : Int) ≤ f := by omega
        generalize s.funcs.length = fl at HR hfl t1 ⊢
        generalize s.consts.length = cl at HR ⊢
        go_enter Try.func9, Try.ntmps9
        go_wp2_with (first | (go_at_call 24; refine HR.out.mono ?_; clear HR; rintro e w1 ⟨rfl, d1, B1⟩) | fail)
        go_ret2
        exact HE.out _ _ B1.out rfl
  · have hr' : s.right = false := by simpa using hr
    have e1 : checkS s f = (30, []) := by rw [checkS, if_neg hr]
    rw [e1]
    rw [hr'] at HR
    have HE : Hid (∀ w1 e, Below w.heap.size w w1 → e = .returned (.tuple #[.slice none 0 0, .int .i64 30]) → StacksEnd (30, []) w e w1) := hid7 fun w1 e hb he => ⟨none, 0, he, .inl rfl, hb⟩
    clear hRt hk1 n0 n1 b1 hr hr' e1
    generalize s.funcs.length = fl at HR hfl ⊢
    generalize s.consts.length = cl at HR ⊢
    go_enter Try.func9, Try.ntmps9
    go_wp2_with (first | (go_at_call 24; refine HR.out.mono ?_; clear HR; rintro e w1 ⟨rfl, d1, B1⟩) | fail)
    go_ret2
    exact HE.out _ _ B1.out rfl
/-- The longest one. -/
def longS : List (List Int) → Nat → Nat
  | _, 0 => 0
  | R, k + 1 => max (longS R k) (R.getD k []).length
theorem longS_le {R : List (List Int)} {m : Nat} (h : ∀ r ∈ R, r.length ≤ m) : ∀ k, longS R k ≤ m
  | 0 => Nat.zero_le _
  | k + 1 => by
    have := longS_le h k
    rw [longS]
    rw [List.getD_eq_getElem?_getD]
    cases hk : R[k]? with
    | none => simp; omega
    | some r => have := h r (List.mem_of_getElem? hk); simp; omega
set_option maxRecDepth 100000 in
set_option maxHeartbeats 1000000 in
theorem greatest_any (R : List (List Int)) (a : Option Addr) (c n : Nat) (hn : R.length = n) (bn : n ≤ 1000) (bR : ∀ r ∈ R, r.length ≤ 1000) (w : World) (h : SlAt w a R) : Calls Try.prog 31 #[.slice a n c] w fun e w' => e = .returned (.int .i64 (longS R n : Nat)) ∧ w' = w := by
  go_enter Try.func31, Try.ntmps31
  go_wp2
  go_loopw [3, 8] (fun mv iv wr => ∃ k : Nat, mv = .int .i64 (longS R k : Nat) ∧ iv = .int .i64 k ∧ k ≤ n ∧ wr = w) (fun _ iv _ => n - (intOf iv).toNat)
  case atStart => exact ⟨0, rfl, rfl, Nat.zero_le _, rfl⟩
  case round =>
    obtain ⟨k, rfl, rfl, hk, rfl⟩ := hrel
    by_cases hkn : k < n
    · have hle := longS_le bR k
      have HN : Hid (longS R (k + 1) = max (longS R k) (R.getD k []).length) := hid7 rfl
      rcases h with h0 | ⟨b, rfl, hc⟩
      · rw [h0] at hn; simp at hn; omega
      obtain ⟨aj, cj, h1, _⟩ := hc k (by omega)
      have e1 : R[k].length = (R.getD k []).length := by rw [List.getD_eq_getElem?_getD, List.getElem?_eq_getElem (by omega)]; rfl
      have hr : (R.getD k []).length ≤ 1000 := by rw [← e1]; exact bR _ (List.getElem_mem _)
      rw [e1] at h1
      clear hc e1
      generalize (R.getD k []).length = r at h1 HN hr
      generalize longS R k = d at HN hle ⊢
      go_wp2
      refine ⟨⟨k + 1, ?_, by go_num, by omega, by trivial⟩, by simp [intOf]; omega⟩
      rw [HN.out]
      congr 1
      omega
    · have hkn : k = n := by omega
      subst hkn
      clear h
      go_wp2
      go_ret
      exact ⟨rfl, rfl⟩
end Go.Proofs.Ytbdlgdlejmcjbaa
