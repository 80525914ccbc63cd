/- The document's Right. -/
import Derived.Test.YtikomfbpaimnmaaCTr
import Derived.Test.YtikomfbpaimnmaaCRd
namespace Go.Proofs.Ytikomfbpaimnmaa
open Go.RowKit
set_option maxRecDepth 100000 in
set_option maxHeartbeats 2000000 in
theorem rright4_any (s : Scr) (V0 V1 : Value) (w : World) (hs : ScIs w.cell? s V0 V1) (hsf : s.fits) (hI64 : ∀ f ∈ s.funcs, ∀ x ∈ f.code, -9223372036854775808 ≤ x.2 ∧ x.2 ≤ 9223372036854775807) : Calls Try.prog 24 #[.agg #[V0, V1]] w fun e w' => e = .returned (.bool s.right) ∧ Below w.heap.size w w' := by
  have hRC : ∀ (f : Fn) v0 v1 v2 v3 (W : World), (∀ a v, w.cell? a = some v → W.cell? a = some v) → FnIs W.cell? f v0 v1 v2 v3 → f.fits → f ∈ s.funcs → Calls Try.prog 37 #[.agg #[V0, V1], .agg #[v0, v1, v2, v3]] W fun e w' => e = .returned (.bool (Fn.right s.consts.length s.funcs.length f)) ∧ Below W.heap.size W w' := fun f v0 v1 v2 v3 W hk h h' hm => rrightFunc_any s f V0 V1 v0 v1 v2 v3 W (hs.keep hk) h hsf h' (hI64 f hm)
  clear hI64
  obtain ⟨⟨A0, C0, rfl, h0⟩, ⟨A1, C1, rfl, h1⟩⟩ := hs
  obtain ⟨z0, z1, z2, z3⟩ := hsf
  obtain ⟨nc, hnc⟩ : ∃ n, n = s.consts.length := ⟨_, rfl⟩
  obtain ⟨nf, hnf⟩ : ∃ n, n = s.funcs.length := ⟨_, rfl⟩
  have HR : Hid (s.right = (decide (nc ≤ 32) && decide (1 ≤ nf) && decide (nf ≤ 16) && s.consts.all (fun c => decide (c.length ≤ 256)) && s.funcs.all (Fn.right nc nf))) := hid (by rw [hnc, hnf]; rfl)
  rw [← hnc] at z0 hRC ⊢
  rw [← hnf] at z1 hRC ⊢
  have HC := hid hnc
  have HF := hid hnf
  clear hnc hnf
  obtain ⟨W2, hW2⟩ : ∃ W2, W2 = w.alloc (.cells #[.slice A0 nc C0, .slice A1 nf C1] 25) := ⟨_, rfl⟩
  have hb2 : Below w.heap.size w W2 := by rw [hW2]; exact (Below.refl _ w).alloc (Nat.le_refl _) _
  have bA : W2.heap[w.heap.size]? = some (.cells #[.slice A0 nc C0, .slice A1 nf C1] 25 (0, 0)) := by rw [hW2]; exact heap_alloc_new w _
  have lA := (Array.getElem?_eq_some_iff.1 bA).1
  have pA0 : W2.cell? ⟨w.heap.size, 0, none⟩ = some (.slice A0 nc C0) := by rw [Lib.cell_of_heap bA]; rfl
  have pA1 : W2.cell? ⟨w.heap.size, 1, none⟩ = some (.slice A1 nf C1) := by rw [Lib.cell_of_heap bA]; rfl
  replace h0 := h0.keep (below_keep hb2)
  replace h1 := h1.keep (below_keep hb2)
  by_cases d0 : nc ≤ 32
  · by_cases d1 : 1 ≤ nf
    · by_cases d2 : nf ≤ 16
      · have HR' : Hid (s.right = (s.consts.all (fun c => decide (c.length ≤ 256)) && s.funcs.all (Fn.right nc nf))) := hid (by rw [HR.out]; simp [d0, d1, d2])
        clear HR
        go_enter Try.func24, Try.ntmps24
        go_wp2_with fail
        rw [← hW2]
        clear hW2
        go_loopw [3] (fun i wr => ∃ k : Nat, k ≤ nc ∧ i = .int .i64 k ∧ Hid (∀ (j : Nat) (h : j < s.consts.length), j < k → decide (s.consts[j].length ≤ 256) = true) ∧ wr = W2) (fun i _ => nc - (intOf i).toNat)
        case atStart => exact ⟨0, Nat.zero_le _, rfl, hid (by omega), rfl⟩
        case round =>
          obtain ⟨k, hk, rfl, hr, hw⟩ := hrel
          replace hw := hw.symm
          subst hw
          by_cases hlt : k < nc
          · rcases h0 with hz | ⟨x0, o0, rfl, hc0⟩
            · have := HC.out; rw [hz] at this; simp at this; omega
            have kl : k < s.consts.length := by have := HC.out; omega
            have q0 := hc0 k kl
            have hzz := z3 s.consts[k] (by simp)
            have HS : Hid (decide (s.consts[k].length ≤ 256) = false → s.right = false) := hid fun h => by rw [HR'.out, all_stop (p := fun (c : List UInt8) => decide (c.length ≤ 256)) kl h]; rfl
            have HT : Hid (decide (s.consts[k].length ≤ 256) = true → ∀ (j : Nat) (h : j < s.consts.length), j < k + 1 → decide (s.consts[j].length ≤ 256) = true) := hid fun h j h1 hjk => by
              rcases Nat.lt_or_ge j k with h3 | h3
              · exact hr.out j h1 h3
              · obtain rfl : j = k := by omega
                exact h
            generalize s.consts[k] = x at q0 HS HT hzz
            clear hc0
            by_cases hx : x.length ≤ 256
            · have HE := hid (HT.out (decide_eq_true hx))
              clear HS HT
              go_wp2_with fail
              exact ⟨⟨k + 1, by omega, by go_num, HE, by first | rfl | trivial⟩, by simp [intOf]; omega⟩
            · have hx' : 256 < x.length := by omega
              have HE := hid (HS.out (decide_eq_false hx))
              clear HS HT
              go_wp2_with fail
              go_ret
              exact ⟨by rw [HE.out]; rfl, hb2⟩
          · have HA : Hid (s.right = s.funcs.all (Fn.right nc nf)) := hid (by
              have : s.consts.all (fun c => decide (c.length ≤ 256)) = true := List.all_eq_true.2 fun z hz => by
                obtain ⟨i, hi, rfl⟩ := List.getElem_of_mem hz
                exact hr.out i hi (by have := HC.out; omega)
              rw [HR'.out, this]
              rfl)
            clear hr HR'
            go_wp2_with fail
            go_loopw [4] (fun i w5 => ∃ k : Nat, k ≤ nf ∧ i = .int .i64 k ∧ Hid (∀ (j : Nat) (h : j < s.funcs.length), j < k → Fn.right nc nf s.funcs[j] = true) ∧ Below W2.heap.size W2 w5) (fun i _ => nf - (intOf i).toNat)
            case atStart => exact ⟨0, Nat.zero_le _, rfl, hid (by omega), Below.refl _ _⟩
            case round =>
              obtain ⟨k, hk, rfl, hr, hbr⟩ := hrel
              have hbw := hb2.trans (hbr.mono hb2.size)
              have eA := (hbr.block _ lA).trans bA
              have k4 : wr.cell? ⟨w.heap.size, 0, none⟩ = some (.slice A0 nc C0) := by rw [Lib.cell_of_heap eA]; rfl
              have k5 : wr.cell? ⟨w.heap.size, 1, none⟩ = some (.slice A1 nf C1) := by rw [Lib.cell_of_heap eA]; rfl
              clear eA
              by_cases hlt : k < nf
              · rcases h1 with hz | ⟨x0, o0, rfl, hc0⟩
                · have := HF.out; rw [hz] at this; simp at this; omega
                have kl : k < s.funcs.length := by have := HF.out; omega
                obtain ⟨v0, v1, v2, v3, q0, q1, q2, q3, hfn⟩ := hc0 k kl
                have ff := z2 s.funcs[k] (by simp)
                have HS : Hid (Fn.right nc nf s.funcs[k] = false → s.right = false) := hid fun h => by rw [HA.out, all_stop kl h]
                have HT : Hid (Fn.right nc nf s.funcs[k] = true → ∀ (j : Nat) (h : j < s.funcs.length), j < k + 1 → Fn.right nc nf s.funcs[j] = true) := hid fun h j h1 hjk => by
                  rcases Nat.lt_or_ge j k with h3 | h3
                  · exact hr.out j h1 h3
                  · obtain rfl : j = k := by omega
                    exact h
                have hm : s.funcs[k] ∈ s.funcs := by simp
                generalize s.funcs[k] = f at hfn HS HT ff hm
                have hkp := below_keep hbr
                replace q0 := hkp _ _ q0
                replace q1 := hkp _ _ q1
                replace q2 := hkp _ _ q2
                replace q3 := hkp _ _ q3
                replace hfn := hfn.keep hkp
                clear hc0 hkp
                have hCall := hRC f v0 v1 v2 v3 wr.drew (below_keep hbw.drew) hfn ff hm
                obtain ⟨⟨fa0, fc0, rfl, F0⟩, ⟨fa1, fc1, rfl, F1⟩, ⟨fa2, fc2, rfl, F2⟩, ⟨fa3, fc3, rfl, F3⟩⟩ := hfn
                clear hRC hm F0 F1 F2 F3
                generalize Fn.right nc nf f = ok at hCall HS HT
                generalize f.p.length = n0 at *
                generalize f.r.length = n1 at *
                generalize f.l.length = n2 at *
                generalize f.code.length = n3 at *
                obtain ⟨S, hS⟩ : ∃ S : World → Prop, S = (fun W => W.cell? ⟨w.heap.size, 0, none⟩ = some (.slice A0 nc C0) ∧ W.cell? ⟨w.heap.size, 1, none⟩ = some (.slice (some ⟨x0, o0, none⟩) nf C1) ∧ W.cell? ⟨x0, o0 + k * 4, none⟩ = some (.slice fa0 n0 fc0) ∧ W.cell? ⟨x0, o0 + k * 4 + 1, none⟩ = some (.slice fa1 n1 fc1) ∧ W.cell? ⟨x0, o0 + k * 4 + 2, none⟩ = some (.slice fa2 n2 fc2) ∧ W.cell? ⟨x0, o0 + k * 4 + 3, none⟩ = some (.slice fa3 n3 fc3)) := ⟨_, rfl⟩
                have hSk : ∀ W, Below wr.heap.size wr W → S W := fun W hW => by
                  rw [hS]
                  have hk := below_keep hW
                  exact ⟨hk _ _ k4, hk _ _ k5, hk _ _ q0, hk _ _ q1, hk _ _ q2, hk _ _ q3⟩
                rw [hS] at hSk
                clear hS S
                cases ok with
                | false =>
                  have HE := hid (HS.out rfl)
                  clear HS HT
                  go_wp2_with fail
                  go_region_held3 (fun W => W.cell? ⟨w.heap.size, 0, none⟩ = some (.slice A0 nc C0) ∧ W.cell? ⟨w.heap.size, 1, none⟩ = some (.slice (some ⟨x0, o0, none⟩) nf C1) ∧ W.cell? ⟨x0, o0 + k * 4, none⟩ = some (.slice fa0 n0 fc0) ∧ W.cell? ⟨x0, o0 + k * 4 + 1, none⟩ = some (.slice fa1 n1 fc1) ∧ W.cell? ⟨x0, o0 + k * 4 + 2, none⟩ = some (.slice fa2 n2 fc2) ∧ W.cell? ⟨x0, o0 + k * 4 + 3, none⟩ = some (.slice fa3 n3 fc3)) (first | go_keep | exact hSk _ ((Below.refl _ wr).drew.trans hb5)) (first | (go_at_call 37; refine hCall.mono ?_; rintro e w5 ⟨rfl, hb5⟩))
                  have hbw5 := hbw.drew.trans (hb5.mono hbw.drew.size)
                  go_wp2_with fail
                  go_ret
                  exact ⟨by rw [HE.out]; rfl, hbw5⟩
                | true =>
                  have HE := hid (HT.out rfl)
                  clear HS HT
                  go_wp2_with fail
                  go_region_held3 (fun W => W.cell? ⟨w.heap.size, 0, none⟩ = some (.slice A0 nc C0) ∧ W.cell? ⟨w.heap.size, 1, none⟩ = some (.slice (some ⟨x0, o0, none⟩) nf C1) ∧ W.cell? ⟨x0, o0 + k * 4, none⟩ = some (.slice fa0 n0 fc0) ∧ W.cell? ⟨x0, o0 + k * 4 + 1, none⟩ = some (.slice fa1 n1 fc1) ∧ W.cell? ⟨x0, o0 + k * 4 + 2, none⟩ = some (.slice fa2 n2 fc2) ∧ W.cell? ⟨x0, o0 + k * 4 + 3, none⟩ = some (.slice fa3 n3 fc3)) (first | go_keep | exact hSk _ ((Below.refl _ wr).drew.trans hb5)) (first | (go_at_call 37; refine hCall.mono ?_; rintro e w5 ⟨rfl, hb5⟩))
                  have hbr5 := hbr.drew.trans (hb5.mono hbr.drew.size)
                  go_wp2_with fail
                  exact ⟨⟨k + 1, by omega, by go_num, HE, hbr5⟩, by simp [intOf]; omega⟩
              · have HE : Hid (s.right = true) := hid (by
                  rw [HA.out]
                  exact List.all_eq_true.2 fun z hz => by
                    obtain ⟨i, hi, rfl⟩ := List.getElem_of_mem hz
                    exact hr.out i hi (by have := HF.out; omega))
                go_wp2_with fail
                go_ret
                exact ⟨by rw [HE.out]; rfl, hbw⟩
      · have HE : Hid (s.right = false) := hid (by rw [HR.out]; simp [d2])
        go_enter Try.func24, Try.ntmps24
        go_wp2_with fail
        go_ret
        exact ⟨by rw [HE.out]; rfl, by rw [← hW2]; exact hb2⟩
    · have HE : Hid (s.right = false) := hid (by rw [HR.out]; simp [d1])
      have d1' : (nf : Int) < 1 := by omega
      go_enter Try.func24, Try.ntmps24
      go_wp2_with fail
      go_ret
      exact ⟨by rw [HE.out]; rfl, by rw [← hW2]; exact hb2⟩
  · have HE : Hid (s.right = false) := hid (by rw [HR.out]; simp [d0])
    go_enter Try.func24, Try.ntmps24
    go_wp2_with fail
    go_ret
    exact ⟨by rw [HE.out]; rfl, by rw [← hW2]; exact hb2⟩
end Go.Proofs.Ytikomfbpaimnmaa
