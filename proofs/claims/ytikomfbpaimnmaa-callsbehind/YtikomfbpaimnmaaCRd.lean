/- code.Right. -/
import Derived.Test.YtikomfbpaimnmaaCRc
namespace Go.Proofs.Ytikomfbpaimnmaa
open Go.RowKit
set_option maxRecDepth 100000 in
set_option maxHeartbeats 2000000 in
theorem right4_any (s : Scr) (V0 V1 : Value) (w : World) (hs : ScIs w.cell? s V0 V1) (hsf : s.fits) : Calls Try.prog 22 #[.agg #[V0, V1]] w fun e w' => e = .returned (.bool s.right) ∧ Below w.heap.size w w' := by
  have hRL : ∀ (f : Fn) v0 v1 v2 v3 (W : World), FnIs W.cell? f v0 v1 v2 v3 → f.fits → Calls Try.prog 33 #[.agg #[v0, v1, v2, v3]] W fun e w' => e = .returned (.bool f.lists) ∧ Below W.heap.size W w' := fun f v0 v1 v2 v3 W h h' => rightLists_any f v0 v1 v2 v3 W h h'
  have hRC : ∀ (f : Fn) v0 v1 v2 v3 (W : World), (∀ a v, w.cell? a = some v → W.cell? a = some v) → FnIs W.cell? f v0 v1 v2 v3 → f.fits → Calls Try.prog 34 #[.agg #[V0, V1], .agg #[v0, v1, v2, v3]] W fun e w' => e = .returned (.bool (f.code.all (insOk s.consts.length s.funcs.length (f.p.length + f.l.length)))) ∧ Below W.heap.size W w' := fun f v0 v1 v2 v3 W hk h h' => rightCode_any s f V0 V1 v0 v1 v2 v3 W (hs.keep hk) h hsf h'
  obtain ⟨⟨A0, C0, rfl, h0⟩, ⟨A1, C1, rfl, h1⟩⟩ := hs
  obtain ⟨z0, z1, z2, z3⟩ := hsf
  obtain ⟨nc, hnc⟩ : ∃ n, n = s.consts.length := ⟨_, rfl⟩
  obtain ⟨nf, hnf⟩ : ∃ n, n = s.funcs.length := ⟨_, rfl⟩
  have HR : Hid (s.right = (decide (nc ≤ 32) && decide (1 ≤ nf) && decide (nf ≤ 16) && s.consts.all (fun c => decide (c.length ≤ 256)) && s.funcs.all (Fn.right nc nf))) := hid (by rw [hnc, hnf]; rfl)
  rw [← hnc] at z0 hRC ⊢
  rw [← hnf] at z1 hRC ⊢
  have HC := hid hnc
  have HF := hid hnf
  clear hnc hnf
  obtain ⟨W2, hW2⟩ : ∃ W2, W2 = w.alloc (.cells #[.slice A0 nc C0, .slice A1 nf C1] 25) := ⟨_, rfl⟩
  have hb2 : Below w.heap.size w W2 := by rw [hW2]; exact (Below.refl _ w).alloc (Nat.le_refl _) _
  have bA : W2.heap[w.heap.size]? = some (.cells #[.slice A0 nc C0, .slice A1 nf C1] 25 (0, 0)) := by rw [hW2]; exact heap_alloc_new w _
  have lA := (Array.getElem?_eq_some_iff.1 bA).1
  have pA0 : W2.cell? ⟨w.heap.size, 0, none⟩ = some (.slice A0 nc C0) := by rw [Lib.cell_of_heap bA]; rfl
  have pA1 : W2.cell? ⟨w.heap.size, 1, none⟩ = some (.slice A1 nf C1) := by rw [Lib.cell_of_heap bA]; rfl
  replace h0 := h0.keep (below_keep hb2)
  replace h1 := h1.keep (below_keep hb2)
  by_cases d0 : nc ≤ 32
  · by_cases d1 : 1 ≤ nf
    · by_cases d2 : nf ≤ 16
      · have HR' : Hid (s.right = (s.consts.all (fun c => decide (c.length ≤ 256)) && s.funcs.all (Fn.right nc nf))) := hid (by rw [HR.out]; simp [d0, d1, d2])
        clear HR
        go_enter Try.func22, Try.ntmps22
        go_wp2_with fail
        rw [← hW2]
        clear hW2
        go_loopw [26] (fun i wr => ∃ k : Nat, k ≤ nc ∧ i = .int .i64 k ∧ Hid (∀ (j : Nat) (h : j < s.consts.length), j < k → decide (s.consts[j].length ≤ 256) = true) ∧ wr = W2) (fun i _ => nc - (intOf i).toNat)
        case atStart => exact ⟨0, Nat.zero_le _, rfl, hid (by omega), rfl⟩
        case round =>
          obtain ⟨k, hk, rfl, hr, hw⟩ := hrel
          replace hw := hw.symm
          subst hw
          by_cases hlt : k < nc
          · rcases h0 with hz | ⟨x0, o0, rfl, hc0⟩
            · have := HC.out; rw [hz] at this; simp at this; omega
            have kl : k < s.consts.length := by have := HC.out; omega
            have q0 := hc0 k kl
            have hzz := z3 s.consts[k] (by simp)
            have HS : Hid (decide (s.consts[k].length ≤ 256) = false → s.right = false) := hid fun h => by rw [HR'.out, all_stop (p := fun (c : List UInt8) => decide (c.length ≤ 256)) kl h]; rfl
            have HT : Hid (decide (s.consts[k].length ≤ 256) = true → ∀ (j : Nat) (h : j < s.consts.length), j < k + 1 → decide (s.consts[j].length ≤ 256) = true) := hid fun h j h1 hjk => by
              rcases Nat.lt_or_ge j k with h3 | h3
              · exact hr.out j h1 h3
              · obtain rfl : j = k := by omega
                exact h
            generalize s.consts[k] = x at q0 HS HT hzz
            clear hc0
            by_cases hx : x.length ≤ 256
            · have HE := hid (HT.out (decide_eq_true hx))
              clear HS HT
              go_wp2_with fail
              exact ⟨⟨k + 1, by omega, by go_num, HE, by first | rfl | trivial⟩, by simp [intOf]; omega⟩
            · have hx' : 256 < x.length := by omega
              have HE := hid (HS.out (decide_eq_false hx))
              clear HS HT
              go_wp2_with fail
              go_ret
              exact ⟨by rw [HE.out]; rfl, hb2⟩
          · have HA : Hid (s.right = s.funcs.all (Fn.right nc nf)) := hid (by
              have : s.consts.all (fun c => decide (c.length ≤ 256)) = true := List.all_eq_true.2 fun z hz => by
                obtain ⟨i, hi, rfl⟩ := List.getElem_of_mem hz
                exact hr.out i hi (by have := HC.out; omega)
              rw [HR'.out, this]
              rfl)
            clear hr HR'
            go_wp2_with fail
            go_loopw [37] (fun i w5 => ∃ k : Nat, k ≤ nf ∧ i = .int .i64 k ∧ Hid (∀ (j : Nat) (h : j < s.funcs.length), j < k → Fn.right nc nf s.funcs[j] = true) ∧ Below W2.heap.size W2 w5) (fun i _ => nf - (intOf i).toNat)
            case atStart => exact ⟨0, Nat.zero_le _, rfl, hid (by omega), Below.refl _ _⟩
            case round =>
              obtain ⟨k, hk, rfl, hr, hbr⟩ := hrel
              have hbw := hb2.trans (hbr.mono hb2.size)
              by_cases hlt : k < nf
              · rcases h1 with hz | ⟨x0, o0, rfl, hc0⟩
                · have := HF.out; rw [hz] at this; simp at this; omega
                have kl : k < s.funcs.length := by have := HF.out; omega
                obtain ⟨v0, v1, v2, v3, q0, q1, q2, q3, hfn⟩ := hc0 k kl
                have ff := z2 s.funcs[k] (by simp)
                have HS : Hid (Fn.right nc nf s.funcs[k] = false → s.right = false) := hid fun h => by rw [HA.out, all_stop kl h]
                have HT : Hid (Fn.right nc nf s.funcs[k] = true → ∀ (j : Nat) (h : j < s.funcs.length), j < k + 1 → Fn.right nc nf s.funcs[j] = true) := hid fun h j h1 hjk => by
                  rcases Nat.lt_or_ge j k with h3 | h3
                  · exact hr.out j h1 h3
                  · obtain rfl : j = k := by omega
                    exact h
                generalize s.funcs[k] = f at hfn HS HT ff
                have hkp := below_keep hbr
                replace q0 := hkp _ _ q0
                replace q1 := hkp _ _ q1
                replace q2 := hkp _ _ q2
                replace q3 := hkp _ _ q3
                replace hfn := hfn.keep hkp
                clear hc0 hkp
                obtain ⟨⟨fa0, fc0, rfl, F0⟩, ⟨fa1, fc1, rfl, F1⟩, ⟨fa2, fc2, rfl, F2⟩, ⟨fa3, fc3, rfl, F3⟩⟩ := hfn
                have HFR : Hid (Fn.right nc nf f = (f.lists && f.code.all (insOk nc nf (f.p.length + f.l.length)))) := hid rfl
                obtain ⟨W4, hW4⟩ : ∃ W4, W4 = wr.alloc (.cells #[.slice fa0 f.p.length fc0, .slice fa1 f.r.length fc1, .slice fa2 f.l.length fc2, .slice fa3 f.code.length fc3] 49) := ⟨_, rfl⟩
                have hb4 : Below wr.heap.size wr W4 := by rw [hW4]; exact (Below.refl _ wr).alloc (Nat.le_refl _) _
                have b4 : W4.heap[wr.heap.size]? = some (.cells #[.slice fa0 f.p.length fc0, .slice fa1 f.r.length fc1, .slice fa2 f.l.length fc2, .slice fa3 f.code.length fc3] 49 (0, 0)) := by rw [hW4]; exact heap_alloc_new wr _
                have l4 := (Array.getElem?_eq_some_iff.1 b4).1
                have bA4 := (hb4.block _ (Nat.lt_of_lt_of_le lA hbr.size)).trans ((hbr.block _ lA).trans bA)
                have hFn4 : FnIs W4.cell? f (.slice fa0 f.p.length fc0) (.slice fa1 f.r.length fc1) (.slice fa2 f.l.length fc2) (.slice fa3 f.code.length fc3) := FnIs.keep ⟨⟨fa0, fc0, rfl, F0⟩, ⟨fa1, fc1, rfl, F1⟩, ⟨fa2, fc2, rfl, F2⟩, ⟨fa3, fc3, rfl, F3⟩⟩ (below_keep hb4)
                have hL := hRL f _ _ _ _ W4 hFn4 ff
                have hbW4 : Below w.heap.size w W4 := hbw.trans (hb4.mono hbw.size)
                have hbR4 : Below W2.heap.size W2 W4 := hbr.trans (hb4.mono hbr.size)
                have hC : ∀ W, Below W4.heap.size W4 W → Calls Try.prog 34 #[.agg #[.slice A0 nc C0, .slice (some ⟨x0, o0, none⟩) nf C1], .agg #[.slice fa0 f.p.length fc0, .slice fa1 f.r.length fc1, .slice fa2 f.l.length fc2, .slice fa3 f.code.length fc3]] W fun e w' => e = .returned (.bool (f.code.all (insOk nc nf (f.p.length + f.l.length)))) ∧ Below W.heap.size W w' := fun W hW => hRC f _ _ _ _ W (below_keep (hbW4.trans (hW.mono hbW4.size))) (hFn4.keep (below_keep hW)) ff
                clear hRC hRL
                generalize f.code.all (insOk nc nf (f.p.length + f.l.length)) = r2 at hC HFR
                generalize f.lists = r1 at hL HFR
                generalize f.p.length = n0 at *
                generalize f.r.length = n1 at *
                generalize f.l.length = n2 at *
                generalize f.code.length = n3 at *
                have hcells : ∀ W, Below W4.heap.size W4 W → (W.cell? ⟨wr.heap.size, 0, none⟩ = some (.slice fa0 n0 fc0) ∧ W.cell? ⟨wr.heap.size, 1, none⟩ = some (.slice fa1 n1 fc1) ∧ W.cell? ⟨wr.heap.size, 2, none⟩ = some (.slice fa2 n2 fc2) ∧ W.cell? ⟨wr.heap.size, 3, none⟩ = some (.slice fa3 n3 fc3)) ∧ W.cell? ⟨w.heap.size, 0, none⟩ = some (.slice A0 nc C0) ∧ W.cell? ⟨w.heap.size, 1, none⟩ = some (.slice (some ⟨x0, o0, none⟩) nf C1) := fun W hW => by
                  have e4 := (hW.block _ l4).trans b4
                  have eA := (hW.block _ (Array.getElem?_eq_some_iff.1 bA4).1).trans bA4
                  exact ⟨⟨by rw [Lib.cell_of_heap e4]; rfl, by rw [Lib.cell_of_heap e4]; rfl, by rw [Lib.cell_of_heap e4]; rfl, by rw [Lib.cell_of_heap e4]; rfl⟩, by rw [Lib.cell_of_heap eA]; rfl, by rw [Lib.cell_of_heap eA]; rfl⟩
                obtain ⟨⟨k0, k1, k2, k3⟩, k4, k5⟩ := hcells W4 (Below.refl _ _)
                go_upto_region 12 with fail
                rw [← hW4]
                clear hW4 q0 q1 q2 q3
                cases r1 with
                | false =>
                  have HE := hid (HS.out (by rw [HFR.out]; rfl))
                  go_wp2_with (go_at_call 33; refine hL.mono ?_; rintro e w6 ⟨rfl, hb6⟩)
                  go_ret
                  exact ⟨by rw [HE.out]; rfl, hbW4.trans (hb6.mono hbW4.size)⟩
                | true =>
                  cases r2 with
                  | false =>
                    have HE := hid (HS.out (by rw [HFR.out]; rfl))
                    go_wp2_with (first | (go_at_call 33; refine hL.mono ?_; rintro e w6 ⟨rfl, hb6⟩; obtain ⟨⟨j0, j1, j2, j3⟩, j4, j5⟩ := hcells w6 hb6) | (go_at_call 34; refine (hC _ hb6).mono ?_; rintro e w7 ⟨rfl, hb7⟩))
                    go_ret
                    exact ⟨by rw [HE.out]; rfl, (hbW4.trans (hb6.mono hbW4.size)).trans (hb7.mono (Nat.le_trans hbW4.size hb6.size))⟩
                  | true =>
                    have HE := hid (HT.out (by rw [HFR.out]; rfl))
                    go_wp2_with (first | (go_at_call 33; refine hL.mono ?_; rintro e w6 ⟨rfl, hb6⟩; obtain ⟨⟨j0, j1, j2, j3⟩, j4, j5⟩ := hcells w6 hb6) | (go_at_call 34; refine (hC _ hb6).mono ?_; rintro e w7 ⟨rfl, hb7⟩))
                    exact ⟨⟨k + 1, by omega, by go_num, HE, (hbR4.trans (hb6.mono hbR4.size)).trans (hb7.mono (Nat.le_trans hbR4.size hb6.size))⟩, by simp [intOf]; omega⟩
              · have HE : Hid (s.right = true) := hid (by
                  rw [HA.out]
                  exact List.all_eq_true.2 fun z hz => by
                    obtain ⟨i, hi, rfl⟩ := List.getElem_of_mem hz
                    exact hr.out i hi (by have := HF.out; omega))
                go_wp2_with fail
                go_ret
                exact ⟨by rw [HE.out]; rfl, hbw⟩
      · have HE : Hid (s.right = false) := hid (by rw [HR.out]; simp [d2])
        go_enter Try.func22, Try.ntmps22
        go_wp2_with fail
        go_ret
        exact ⟨by rw [HE.out]; rfl, by rw [← hW2]; exact hb2⟩
    · have HE : Hid (s.right = false) := hid (by rw [HR.out]; simp [d1])
      have d1' : (nf : Int) < 1 := by omega
      go_enter Try.func22, Try.ntmps22
      go_wp2_with fail
      go_ret
      exact ⟨by rw [HE.out]; rfl, by rw [← hW2]; exact hb2⟩
  · have HE : Hid (s.right = false) := hid (by rw [HR.out]; simp [d0])
    go_enter Try.func22, Try.ntmps22
    go_wp2_with fail
    go_ret
    exact ⟨by rw [HE.out]; rfl, by rw [← hW2]; exact hb2⟩
end Go.Proofs.Ytikomfbpaimnmaa
