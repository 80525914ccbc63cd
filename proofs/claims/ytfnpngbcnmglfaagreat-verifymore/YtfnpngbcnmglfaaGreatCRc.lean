/- code.rightCode, code.Right. code.Right. Slices that an answer brings and that lie in new blocks. -/
import Derived.Test.YtfnpngbcnmglfaaGreatXM
import Derived.Test.YtfnpngbcnmglfaaGreatPlain
namespace Go.Proofs.YtfnpngbcnmglfaaGreat
open Go.RowKit
theorem name_empty (n : Int) : (nameT n == []) = !(decide (1 ≤ n) && decide (n ≤ 53)) := by
  by_cases h : n < 1 ∨ 53 < n
  · have : nameT n = [] := rowOf_none _ _ _ h
    rw [this]
    have : (decide (1 ≤ n) && decide (n ≤ 53)) = false := by
      rcases h with h | h
      · simp; omega
      · simp; omega
    rw [this]
    rfl
  · have : (decide (1 ≤ n) && decide (n ≤ 53)) = true := by simp; omega
    rw [this]
    have H : ∀ k : Fin 54, 1 ≤ k.1 → (nameTab.getD k.1 [] == []) = false := by decide +kernel
    have := H ⟨n.toNat, by omega⟩ (by show 1 ≤ n.toNat; omega)
    unfold nameT rowOf
    rw [if_pos (by omega)]
    exact this
set_option maxRecDepth 100000 in
set_option maxHeartbeats 8000000 in
theorem rightCode_any (s : Scr) (f : Fn) (V0 V1 v0 v1 v2 v3 : Value) (w : World) (hs : ScIs w.cell? s V0 V1) (hf : FnIs w.cell? f v0 v1 v2 v3) (hsf : s.fits) (hff : f.fits) : Calls Tryz.prog 78 #[.agg #[V0, V1], .agg #[v0, v1, v2, v3]] w fun e w' => e = .returned (.bool (f.code.all (insOk s.consts.length s.funcs.length (f.p.length + f.l.length)))) ∧ Below w.heap.size w w' := by
  have hBn := fun (t : Int) (W : World) (hk : ∀ a v, w.cell? a = some v → W.cell? a = some v) => bounds_any t s f V0 V1 v0 v1 v2 v3 W (hs.keep hk) (hf.keep hk) hsf hff
  obtain ⟨⟨a0, c0, rfl, _⟩, ⟨a1, c1, rfl, _⟩, ⟨a2, c2, rfl, _⟩, ⟨a3, c3, rfl, g3⟩⟩ := hf
  obtain ⟨⟨A0, C0, rfl, _⟩, ⟨A1, C1, rfl, _⟩⟩ := hs
  obtain ⟨_, _, _, z3⟩ := hff
  obtain ⟨sl, hsl⟩ : ∃ sl, sl = f.p.length + f.l.length := ⟨_, rfl⟩
  rw [← hsl] at hBn ⊢
  clear hsl hsf
  generalize hnc : s.consts.length = nc at *
  generalize hnf : s.funcs.length = nf at *
  obtain ⟨n3, hn3⟩ : ∃ n, n = f.code.length := ⟨_, rfl⟩
  have H3 := hid hn3
  rw [← hn3] at z3 hBn ⊢
  clear hn3 hnc hnf
  generalize f.p.length = n0 at *
  generalize f.r.length = n1 at *
  generalize f.l.length = n2 at *
  obtain ⟨W2, hW2⟩ : ∃ W2, W2 = (w.alloc (.cells #[.slice A0 nc C0, .slice A1 nf C1] 27)).alloc (.cells #[.slice a0 n0 c0, .slice a1 n1 c1, .slice a2 n2 c2, .slice a3 n3 c3] 49) := ⟨_, rfl⟩
  have hb2 : Below w.heap.size w W2 := by rw [hW2]; exact ((Below.refl _ w).alloc (Nat.le_refl _) _).alloc (by simp) _
  have bA : W2.heap[w.heap.size]? = some (.cells #[.slice A0 nc C0, .slice A1 nf C1] 27 (0, 0)) := by rw [hW2, Below.heap_alloc _ _ _ (by simp)]; exact heap_alloc_new w _
  have bB : W2.heap[w.heap.size + 1]? = some (.cells #[.slice a0 n0 c0, .slice a1 n1 c1, .slice a2 n2 c2, .slice a3 n3 c3] 49 (0, 0)) := by
    have := heap_alloc_new (w.alloc (.cells #[.slice A0 nc C0, .slice A1 nf C1] 27)) (.cells #[.slice a0 n0 c0, .slice a1 n1 c1, .slice a2 n2 c2, .slice a3 n3 c3] 49)
    rw [hW2]; simpa using this
  have lA := (Array.getElem?_eq_some_iff.1 bA).1
  have lB := (Array.getElem?_eq_some_iff.1 bB).1
  replace g3 := g3.keep (below_keep hb2)
  go_enter Tryz.func78, Tryz.ntmps78
  go_wp2_with fail
  rw [← hW2]
  clear hW2
  go_loopw [12] (fun i wr => ∃ k : Nat, k ≤ n3 ∧ i = .int .i64 k ∧ Hid (∀ (j : Nat) (h : j < f.code.length), j < k → insOk nc nf sl f.code[j] = true) ∧ Below W2.heap.size W2 wr) (fun i _ => n3 - (intOf i).toNat)
  case atStart => exact ⟨0, Nat.zero_le _, rfl, hid (by omega), Below.refl _ _⟩
  case round =>
    obtain ⟨k, hk, rfl, hr, hbr⟩ := hrel
    have hbw : Below w.heap.size w wr := hb2.trans (hbr.mono hb2.size)
    by_cases hlt : k < n3
    · rcases g3 with hz | ⟨x0, o0, rfl, hc0⟩
      · have := H3.out; rw [hz] at this; simp at this; omega
      have kl : k < f.code.length := by have := H3.out; omega
      obtain ⟨q0, q1⟩ := hc0 k kl
      have HS : Hid (insOk nc nf sl f.code[k] = false → (f.code.all (insOk nc nf sl)) = false) := hid fun h => all_stop kl h
      have HT : Hid (insOk nc nf sl f.code[k] = true → ∀ (j : Nat) (h : j < f.code.length), j < k + 1 → insOk nc nf sl f.code[j] = true) := hid fun h j h1 hjk => by
        rcases Nat.lt_or_ge j k with h3 | h3
        · exact hr.out j h1 h3
        · obtain rfl : j = k := by omega
          exact h
      generalize f.code[k] = x at q0 q1 HS HT
      obtain ⟨xo, xa⟩ := x
      simp only at q0 q1
      replace q0 := below_keep hbr _ _ q0
      replace q1 := below_keep hbr _ _ q1
      clear hc0
      have HI : Hid (insOk nc nf sl (xo, xa) = (decide (1 ≤ xo) && decide (xo ≤ 53) && decide ((boundsN (takesN xo) nc nf sl).1 ≤ xa) && decide (xa ≤ (boundsN (takesN xo) nc nf sl).2))) := hid rfl
      have hTk := fun W => takes_all xo W
      have hNm := fun W => name_any xo W
      have hnm := name_empty xo
      have hBx := hBn (takesN xo)
      clear hBn
      generalize boundsN (takesN xo) nc nf sl = bd at hBx HI
      obtain ⟨lo, hi⟩ := bd
      simp only at hBx HI
      generalize takesN xo = tk at hTk hBx
      generalize nameT xo = nm at hNm hnm
      obtain ⟨W3, hW3⟩ : ∃ W3, W3 = wr.alloc (.cells #[.int .i64 xo, .int .i64 xa] 83) := ⟨_, rfl⟩
      have hb3 : Below wr.heap.size wr W3 := by rw [hW3]; exact (Below.refl _ wr).alloc (Nat.le_refl _) _
      have b3 : W3.heap[wr.heap.size]? = some (.cells #[.int .i64 xo, .int .i64 xa] 83 (0, 0)) := by rw [hW3]; exact heap_alloc_new wr _
      have bA3 := (hb3.block _ (Nat.lt_of_lt_of_le lA hbr.size)).trans ((hbr.block _ lA).trans bA)
      have bB3 := (hb3.block _ (Nat.lt_of_lt_of_le lB hbr.size)).trans ((hbr.block _ lB).trans bB)
      have i0 : W3.cell? ⟨wr.heap.size, 0, none⟩ = some (.int .i64 xo) := by rw [Lib.cell_of_heap b3]; rfl
      have s0 : W3.cell? ⟨w.heap.size, 0, none⟩ = some (.slice A0 nc C0) := by rw [Lib.cell_of_heap bA3]; rfl
      have s1 : W3.cell? ⟨w.heap.size, 1, none⟩ = some (.slice A1 nf C1) := by rw [Lib.cell_of_heap bA3]; rfl
      have f0 : W3.cell? ⟨w.heap.size + 1, 0, none⟩ = some (.slice a0 n0 c0) := by rw [Lib.cell_of_heap bB3]; rfl
      have f1 : W3.cell? ⟨w.heap.size + 1, 1, none⟩ = some (.slice a1 n1 c1) := by rw [Lib.cell_of_heap bB3]; rfl
      have f2 : W3.cell? ⟨w.heap.size + 1, 2, none⟩ = some (.slice a2 n2 c2) := by rw [Lib.cell_of_heap bB3]; rfl
      have f3 : W3.cell? ⟨w.heap.size + 1, 3, none⟩ = some (.slice (some ⟨x0, o0, none⟩) n3 c3) := by rw [Lib.cell_of_heap bB3]; rfl
      have hB3 := hBx W3.drew (fun a v h => below_keep ((hbw.trans (hb3.mono hbw.size)).drew) a v h)
      clear hBx
      go_wp2_with fail
      rw [← hW3]
      have l3 := (Array.getElem?_eq_some_iff.1 b3).1
      clear hW3
      go_region_with (first | (go_at_call 98; refine (hTk _).mono ?_; rintro e w' ⟨rfl, rfl⟩) | (go_at_call 127; refine hB3.mono ?_; rintro e w5 ⟨rfl, hb5⟩; have hb5' : Below W3.heap.size W3 w5 := (Below.refl _ W3).drew.trans hb5; have b5 := (hb5'.block _ l3).trans b3; have j0 : w5.cell? ⟨wr.heap.size, 0, none⟩ = some (.int .i64 xo) := (by rw [Lib.cell_of_heap b5]; rfl); have j1 : w5.cell? ⟨wr.heap.size, 1, none⟩ = some (.int .i64 xa) := (by rw [Lib.cell_of_heap b5]; rfl); have hbw5 := hbw.trans ((hb3.trans (hb5'.mono hb3.size)).mono hbw.size); have hbr5 := hbr.trans ((hb3.trans (hb5'.mono hb3.size)).mono hbr.size); clear hb5 hb5' b5 hB3 hTk))
      all_goals clear i0 s0 s1 f0 f1 f2 f3 b3 bA3 bB3 hb3 q0 q1
      all_goals
        by_cases hok : 1 ≤ xo ∧ xo ≤ 53
        · have hnm' : (nm == []) = false := by rw [hnm]; simp [hok.1, hok.2]
          clear hnm
          by_cases hlo : lo ≤ xa
          · by_cases hhi : xa ≤ hi
            · have HE : Hid (∀ (j : Nat) (h : j < f.code.length), j < k + 1 → insOk nc nf sl f.code[j] = true) := hid (HT.out (by rw [HI.out]; simp [hok.1, hok.2, hlo, hhi]))
              clear HI HT HS
              go_wp2_with (go_at_call 128; refine (hNm _).mono ?_; rintro e w' ⟨rfl, rfl⟩)
              exact ⟨⟨k + 1, by omega, by go_num, HE, hbr5⟩, by simp [intOf]; omega⟩
            · have hhi' : hi < xa := by omega
              have HE : Hid ((f.code.all (insOk nc nf sl)) = false) := hid (HS.out (by rw [HI.out]; simp [hhi]))
              clear HI HT HS
              go_wp2_with (go_at_call 128; refine (hNm _).mono ?_; rintro e w' ⟨rfl, rfl⟩)
              go_ret
              exact ⟨by rw [HE.out]; rfl, hbw5⟩
          · have hlo' : xa < lo := by omega
            have HE : Hid ((f.code.all (insOk nc nf sl)) = false) := hid (HS.out (by rw [HI.out]; simp [hlo]))
            clear HI HT HS
            go_wp2_with (go_at_call 128; refine (hNm _).mono ?_; rintro e w' ⟨rfl, rfl⟩)
            go_ret
            exact ⟨by rw [HE.out]; rfl, hbw5⟩
        · have hbd : (decide (1 ≤ xo) && decide (xo ≤ 53)) = false := by
            cases h : (decide (1 ≤ xo) && decide (xo ≤ 53)) with
            | false => rfl
            | true => simp at h; exact absurd h hok
          have hnm' : (nm == []) = true := by rw [hnm, hbd]; rfl
          clear hnm
          have HE : Hid ((f.code.all (insOk nc nf sl)) = false) := hid (HS.out (by rw [HI.out, hbd]; simp))
          clear HI HT HS
          go_wp2_with (go_at_call 128; refine (hNm _).mono ?_; rintro e w' ⟨rfl, rfl⟩)
          go_ret
          exact ⟨by rw [HE.out]; rfl, hbw5⟩
    · have HE : Hid ((f.code.all (insOk nc nf sl)) = true) := hid (List.all_eq_true.2 fun z hz => by
        obtain ⟨i, hi, rfl⟩ := List.getElem_of_mem hz
        exact hr.out i hi (by have := H3.out; omega))
      go_wp2_with fail
      go_ret
      exact ⟨by rw [HE.out]; rfl, hbw⟩
end Go.Proofs.YtfnpngbcnmglfaaGreat
namespace Go.Proofs.YtfnpngbcnmglfaaGreat
open Go.RowKit
set_option maxRecDepth 100000 in
set_option maxHeartbeats 2000000 in
theorem right4_any (s : Scr) (V0 V1 : Value) (w : World) (hs : ScIs w.cell? s V0 V1) (hsf : s.fits) : Calls Tryz.prog 39 #[.agg #[V0, V1]] w fun e w' => e = .returned (.bool s.right) ∧ Below w.heap.size w w' := by
  have hRL : ∀ (f : Fn) v0 v1 v2 v3 (W : World), FnIs W.cell? f v0 v1 v2 v3 → f.fits → Calls Tryz.prog 77 #[.agg #[v0, v1, v2, v3]] W fun e w' => e = .returned (.bool f.lists) ∧ Below W.heap.size W w' := fun f v0 v1 v2 v3 W h h' => rightLists_any f v0 v1 v2 v3 W h h'
  have hRC : ∀ (f : Fn) v0 v1 v2 v3 (W : World), (∀ a v, w.cell? a = some v → W.cell? a = some v) → FnIs W.cell? f v0 v1 v2 v3 → f.fits → Calls Tryz.prog 78 #[.agg #[V0, V1], .agg #[v0, v1, v2, v3]] W fun e w' => e = .returned (.bool (f.code.all (insOk s.consts.length s.funcs.length (f.p.length + f.l.length)))) ∧ Below W.heap.size W w' := fun f v0 v1 v2 v3 W hk h h' => rightCode_any s f V0 V1 v0 v1 v2 v3 W (hs.keep hk) h hsf h'
  obtain ⟨⟨A0, C0, rfl, h0⟩, ⟨A1, C1, rfl, h1⟩⟩ := hs
  obtain ⟨z0, z1, z2, z3⟩ := hsf
  obtain ⟨nc, hnc⟩ : ∃ n, n = s.consts.length := ⟨_, rfl⟩
  obtain ⟨nf, hnf⟩ : ∃ n, n = s.funcs.length := ⟨_, rfl⟩
  have HR : Hid (s.right = (decide (nc ≤ 32) && decide (1 ≤ nf) && decide (nf ≤ 16) && s.consts.all (fun c => decide (c.length ≤ 256)) && s.funcs.all (Fn.right nc nf))) := hid (by rw [hnc, hnf]; rfl)
  rw [← hnc] at z0 hRC ⊢
  rw [← hnf] at z1 hRC ⊢
  have HC := hid hnc
  have HF := hid hnf
  clear hnc hnf
  obtain ⟨W2, hW2⟩ : ∃ W2, W2 = w.alloc (.cells #[.slice A0 nc C0, .slice A1 nf C1] 27) := ⟨_, rfl⟩
  have hb2 : Below w.heap.size w W2 := by rw [hW2]; exact (Below.refl _ w).alloc (Nat.le_refl _) _
  have bA : W2.heap[w.heap.size]? = some (.cells #[.slice A0 nc C0, .slice A1 nf C1] 27 (0, 0)) := by rw [hW2]; exact heap_alloc_new w _
  have lA := (Array.getElem?_eq_some_iff.1 bA).1
  have pA0 : W2.cell? ⟨w.heap.size, 0, none⟩ = some (.slice A0 nc C0) := by rw [Lib.cell_of_heap bA]; rfl
  have pA1 : W2.cell? ⟨w.heap.size, 1, none⟩ = some (.slice A1 nf C1) := by rw [Lib.cell_of_heap bA]; rfl
  replace h0 := h0.keep (below_keep hb2)
  replace h1 := h1.keep (below_keep hb2)
  by_cases d0 : nc ≤ 32
  · by_cases d1 : 1 ≤ nf
    · by_cases d2 : nf ≤ 16
      · have HR' : Hid (s.right = (s.consts.all (fun c => decide (c.length ≤ 256)) && s.funcs.all (Fn.right nc nf))) := hid (by rw [HR.out]; simp [d0, d1, d2])
        clear HR
        go_enter Tryz.func39, Tryz.ntmps39
        go_wp2_with fail
        rw [← hW2]
        clear hW2
        go_loopw [26] (fun i wr => ∃ k : Nat, k ≤ nc ∧ i = .int .i64 k ∧ Hid (∀ (j : Nat) (h : j < s.consts.length), j < k → decide (s.consts[j].length ≤ 256) = true) ∧ wr = W2) (fun i _ => nc - (intOf i).toNat)
        case atStart => exact ⟨0, Nat.zero_le _, rfl, hid (by omega), rfl⟩
        case round =>
          obtain ⟨k, hk, rfl, hr, hw⟩ := hrel
          replace hw := hw.symm
          subst hw
          by_cases hlt : k < nc
          · rcases h0 with hz | ⟨x0, o0, rfl, hc0⟩
            · have := HC.out; rw [hz] at this; simp at this; omega
            have kl : k < s.consts.length := by have := HC.out; omega
            have q0 := hc0 k kl
            have hzz := z3 s.consts[k] (by simp)
            have HS : Hid (decide (s.consts[k].length ≤ 256) = false → s.right = false) := hid fun h => by rw [HR'.out, all_stop (p := fun (c : List UInt8) => decide (c.length ≤ 256)) kl h]; rfl
            have HT : Hid (decide (s.consts[k].length ≤ 256) = true → ∀ (j : Nat) (h : j < s.consts.length), j < k + 1 → decide (s.consts[j].length ≤ 256) = true) := hid fun h j h1 hjk => by
              rcases Nat.lt_or_ge j k with h3 | h3
              · exact hr.out j h1 h3
              · obtain rfl : j = k := by omega
                exact h
            generalize s.consts[k] = x at q0 HS HT hzz
            clear hc0
            by_cases hx : x.length ≤ 256
            · have HE := hid (HT.out (decide_eq_true hx))
              clear HS HT
              go_wp2_with fail
              exact ⟨⟨k + 1, by omega, by go_num, HE, by first | rfl | trivial⟩, by simp [intOf]; omega⟩
            · have hx' : 256 < x.length := by omega
              have HE := hid (HS.out (decide_eq_false hx))
              clear HS HT
              go_wp2_with fail
              go_ret
              exact ⟨by rw [HE.out]; rfl, hb2⟩
          · have HA : Hid (s.right = s.funcs.all (Fn.right nc nf)) := hid (by
              have : s.consts.all (fun c => decide (c.length ≤ 256)) = true := List.all_eq_true.2 fun z hz => by
                obtain ⟨i, hi, rfl⟩ := List.getElem_of_mem hz
                exact hr.out i hi (by have := HC.out; omega)
              rw [HR'.out, this]
              rfl)
            clear hr HR'
            go_wp2_with fail
            go_loopw [37] (fun i w5 => ∃ k : Nat, k ≤ nf ∧ i = .int .i64 k ∧ Hid (∀ (j : Nat) (h : j < s.funcs.length), j < k → Fn.right nc nf s.funcs[j] = true) ∧ Below W2.heap.size W2 w5) (fun i _ => nf - (intOf i).toNat)
            case atStart => exact ⟨0, Nat.zero_le _, rfl, hid (by omega), Below.refl _ _⟩
            case round =>
              obtain ⟨k, hk, rfl, hr, hbr⟩ := hrel
              have hbw := hb2.trans (hbr.mono hb2.size)
              by_cases hlt : k < nf
              · rcases h1 with hz | ⟨x0, o0, rfl, hc0⟩
                · have := HF.out; rw [hz] at this; simp at this; omega
                have kl : k < s.funcs.length := by have := HF.out; omega
                obtain ⟨v0, v1, v2, v3, q0, q1, q2, q3, hfn⟩ := hc0 k kl
                have ff := z2 s.funcs[k] (by simp)
                have HS : Hid (Fn.right nc nf s.funcs[k] = false → s.right = false) := hid fun h => by rw [HA.out, all_stop kl h]
                have HT : Hid (Fn.right nc nf s.funcs[k] = true → ∀ (j : Nat) (h : j < s.funcs.length), j < k + 1 → Fn.right nc nf s.funcs[j] = true) := hid fun h j h1 hjk => by
                  rcases Nat.lt_or_ge j k with h3 | h3
                  · exact hr.out j h1 h3
                  · obtain rfl : j = k := by omega
                    exact h
                generalize s.funcs[k] = f at hfn HS HT ff
                have hkp := below_keep hbr
                replace q0 := hkp _ _ q0
                replace q1 := hkp _ _ q1
                replace q2 := hkp _ _ q2
                replace q3 := hkp _ _ q3
                replace hfn := hfn.keep hkp
                clear hc0 hkp
                obtain ⟨⟨fa0, fc0, rfl, F0⟩, ⟨fa1, fc1, rfl, F1⟩, ⟨fa2, fc2, rfl, F2⟩, ⟨fa3, fc3, rfl, F3⟩⟩ := hfn
                have HFR : Hid (Fn.right nc nf f = (f.lists && f.code.all (insOk nc nf (f.p.length + f.l.length)))) := hid rfl
                obtain ⟨W4, hW4⟩ : ∃ W4, W4 = wr.alloc (.cells #[.slice fa0 f.p.length fc0, .slice fa1 f.r.length fc1, .slice fa2 f.l.length fc2, .slice fa3 f.code.length fc3] 49) := ⟨_, rfl⟩
                have hb4 : Below wr.heap.size wr W4 := by rw [hW4]; exact (Below.refl _ wr).alloc (Nat.le_refl _) _
                have b4 : W4.heap[wr.heap.size]? = some (.cells #[.slice fa0 f.p.length fc0, .slice fa1 f.r.length fc1, .slice fa2 f.l.length fc2, .slice fa3 f.code.length fc3] 49 (0, 0)) := by rw [hW4]; exact heap_alloc_new wr _
                have l4 := (Array.getElem?_eq_some_iff.1 b4).1
                have bA4 := (hb4.block _ (Nat.lt_of_lt_of_le lA hbr.size)).trans ((hbr.block _ lA).trans bA)
                have hFn4 : FnIs W4.cell? f (.slice fa0 f.p.length fc0) (.slice fa1 f.r.length fc1) (.slice fa2 f.l.length fc2) (.slice fa3 f.code.length fc3) := FnIs.keep ⟨⟨fa0, fc0, rfl, F0⟩, ⟨fa1, fc1, rfl, F1⟩, ⟨fa2, fc2, rfl, F2⟩, ⟨fa3, fc3, rfl, F3⟩⟩ (below_keep hb4)
                have hL := hRL f _ _ _ _ W4 hFn4 ff
                have hbW4 : Below w.heap.size w W4 := hbw.trans (hb4.mono hbw.size)
                have hbR4 : Below W2.heap.size W2 W4 := hbr.trans (hb4.mono hbr.size)
                have hC : ∀ W, Below W4.heap.size W4 W → Calls Tryz.prog 78 #[.agg #[.slice A0 nc C0, .slice (some ⟨x0, o0, none⟩) nf C1], .agg #[.slice fa0 f.p.length fc0, .slice fa1 f.r.length fc1, .slice fa2 f.l.length fc2, .slice fa3 f.code.length fc3]] W fun e w' => e = .returned (.bool (f.code.all (insOk nc nf (f.p.length + f.l.length)))) ∧ Below W.heap.size W w' := fun W hW => hRC f _ _ _ _ W (below_keep (hbW4.trans (hW.mono hbW4.size))) (hFn4.keep (below_keep hW)) ff
                clear hRC hRL
                generalize f.code.all (insOk nc nf (f.p.length + f.l.length)) = r2 at hC HFR
                generalize f.lists = r1 at hL HFR
                generalize f.p.length = n0 at *
                generalize f.r.length = n1 at *
                generalize f.l.length = n2 at *
                generalize f.code.length = n3 at *
                have hcells : ∀ W, Below W4.heap.size W4 W → (W.cell? ⟨wr.heap.size, 0, none⟩ = some (.slice fa0 n0 fc0) ∧ W.cell? ⟨wr.heap.size, 1, none⟩ = some (.slice fa1 n1 fc1) ∧ W.cell? ⟨wr.heap.size, 2, none⟩ = some (.slice fa2 n2 fc2) ∧ W.cell? ⟨wr.heap.size, 3, none⟩ = some (.slice fa3 n3 fc3)) ∧ W.cell? ⟨w.heap.size, 0, none⟩ = some (.slice A0 nc C0) ∧ W.cell? ⟨w.heap.size, 1, none⟩ = some (.slice (some ⟨x0, o0, none⟩) nf C1) := fun W hW => by
                  have e4 := (hW.block _ l4).trans b4
                  have eA := (hW.block _ (Array.getElem?_eq_some_iff.1 bA4).1).trans bA4
                  exact ⟨⟨by rw [Lib.cell_of_heap e4]; rfl, by rw [Lib.cell_of_heap e4]; rfl, by rw [Lib.cell_of_heap e4]; rfl, by rw [Lib.cell_of_heap e4]; rfl⟩, by rw [Lib.cell_of_heap eA]; rfl, by rw [Lib.cell_of_heap eA]; rfl⟩
                obtain ⟨⟨k0, k1, k2, k3⟩, k4, k5⟩ := hcells W4 (Below.refl _ _)
                go_upto_region 12 with fail
                rw [← hW4]
                clear hW4 q0 q1 q2 q3
                cases r1 with
                | false =>
                  have HE := hid (HS.out (by rw [HFR.out]; rfl))
                  go_wp2_with (go_at_call 77; refine hL.mono ?_; rintro e w6 ⟨rfl, hb6⟩)
                  go_ret
                  exact ⟨by rw [HE.out]; rfl, hbW4.trans (hb6.mono hbW4.size)⟩
                | true =>
                  cases r2 with
                  | false =>
                    have HE := hid (HS.out (by rw [HFR.out]; rfl))
                    go_wp2_with (first | (go_at_call 77; refine hL.mono ?_; rintro e w6 ⟨rfl, hb6⟩; obtain ⟨⟨j0, j1, j2, j3⟩, j4, j5⟩ := hcells w6 hb6) | (go_at_call 78; refine (hC _ hb6).mono ?_; rintro e w7 ⟨rfl, hb7⟩))
                    go_ret
                    exact ⟨by rw [HE.out]; rfl, (hbW4.trans (hb6.mono hbW4.size)).trans (hb7.mono (Nat.le_trans hbW4.size hb6.size))⟩
                  | true =>
                    have HE := hid (HT.out (by rw [HFR.out]; rfl))
                    go_wp2_with (first | (go_at_call 77; refine hL.mono ?_; rintro e w6 ⟨rfl, hb6⟩; obtain ⟨⟨j0, j1, j2, j3⟩, j4, j5⟩ := hcells w6 hb6) | (go_at_call 78; refine (hC _ hb6).mono ?_; rintro e w7 ⟨rfl, hb7⟩))
                    exact ⟨⟨k + 1, by omega, by go_num, HE, (hbR4.trans (hb6.mono hbR4.size)).trans (hb7.mono (Nat.le_trans hbR4.size hb6.size))⟩, by simp [intOf]; omega⟩
              · have HE : Hid (s.right = true) := hid (by
                  rw [HA.out]
                  exact List.all_eq_true.2 fun z hz => by
                    obtain ⟨i, hi, rfl⟩ := List.getElem_of_mem hz
                    exact hr.out i hi (by have := HF.out; omega))
                go_wp2_with fail
                go_ret
                exact ⟨by rw [HE.out]; rfl, hbw⟩
      · have HE : Hid (s.right = false) := hid (by rw [HR.out]; simp [d2])
        go_enter Tryz.func39, Tryz.ntmps39
        go_wp2_with fail
        go_ret
        exact ⟨by rw [HE.out]; rfl, by rw [← hW2]; exact hb2⟩
    · have HE : Hid (s.right = false) := hid (by rw [HR.out]; simp [d1])
      have d1' : (nf : Int) < 1 := by omega
      go_enter Tryz.func39, Tryz.ntmps39
      go_wp2_with fail
      go_ret
      exact ⟨by rw [HE.out]; rfl, by rw [← hW2]; exact hb2⟩
  · have HE : Hid (s.right = false) := hid (by rw [HR.out]; simp [d0])
    go_enter Tryz.func39, Tryz.ntmps39
    go_wp2_with fail
    go_ret
    exact ⟨by rw [HE.out]; rfl, by rw [← hW2]; exact hb2⟩
end Go.Proofs.YtfnpngbcnmglfaaGreat
namespace Go.Proofs.YtfnpngbcnmglfaaGreat
open Go.RowKit
/-- The slice that comes first in the answer lies in no block that was there. -/
def FreshE (w : World) (e : Ending) : Prop := ∀ a n c x, e = .returned (.tuple #[.slice (some a) n c, x]) → w.heap.size ≤ a.block
theorem fresh_nil (w : World) (n c : Nat) (x : Value) : FreshE w (.returned (.tuple #[.slice none n c, x])) := fun a n c x h => by cases h
theorem fresh_at {w : World} {g off n c : Nat} {x : Value} (h : w.heap.size ≤ g) : FreshE w (.returned (.tuple #[.slice (some ⟨g, off, none⟩) n c, x])) := fun a n c x e => by cases e; exact h
theorem fresh_row {w W : World} {B n k c size : Nat} {a : Option Addr} {t : TypeId} {xs : List Value} {x : Value} (hr : W.ownsRow B t size (.slice a n c) k xs) (hB : w.heap.size ≤ B) : FreshE w (.returned (.tuple #[.slice a n c, x])) := fun b n' c' x' e => by
  cases e
  exact Nat.le_trans hB (hr.lt b.block rfl).1
end Go.Proofs.YtfnpngbcnmglfaaGreat
