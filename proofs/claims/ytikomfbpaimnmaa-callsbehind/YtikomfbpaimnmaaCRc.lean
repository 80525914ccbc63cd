/- code.rightCode, code.Right. -/
import Derived.Test.YtikomfbpaimnmaaCR
namespace Go.Proofs.Ytikomfbpaimnmaa
open Go.RowKit
theorem name_empty (n : Int) : (nameT n == []) = !(decide (1 ≤ n) && decide (n ≤ 53)) := by
  by_cases h : n < 1 ∨ 53 < n
  · have : nameT n = [] := rowOf_none _ _ _ h
    rw [this]
    have : (decide (1 ≤ n) && decide (n ≤ 53)) = false := by
      rcases h with h | h
      · simp; omega
      · simp; omega
    rw [this]
    rfl
  · have : (decide (1 ≤ n) && decide (n ≤ 53)) = true := by simp; omega
    rw [this]
    have H : ∀ k : Fin 54, 1 ≤ k.1 → (nameTab.getD k.1 [] == []) = false := by decide +kernel
    have := H ⟨n.toNat, by omega⟩ (by show 1 ≤ n.toNat; omega)
    unfold nameT rowOf
    rw [if_pos (by omega)]
    exact this
set_option maxRecDepth 100000 in
set_option maxHeartbeats 8000000 in
theorem rightCode_any (s : Scr) (f : Fn) (V0 V1 v0 v1 v2 v3 : Value) (w : World) (hs : ScIs w.cell? s V0 V1) (hf : FnIs w.cell? f v0 v1 v2 v3) (hsf : s.fits) (hff : f.fits) : Calls Try.prog 34 #[.agg #[V0, V1], .agg #[v0, v1, v2, v3]] w fun e w' => e = .returned (.bool (f.code.all (insOk s.consts.length s.funcs.length (f.p.length + f.l.length)))) ∧ Below w.heap.size w w' := by
  have hBn := fun (t : Int) (W : World) (hk : ∀ a v, w.cell? a = some v → W.cell? a = some v) => bounds_any t s f V0 V1 v0 v1 v2 v3 W (hs.keep hk) (hf.keep hk) hsf hff
  obtain ⟨⟨a0, c0, rfl, _⟩, ⟨a1, c1, rfl, _⟩, ⟨a2, c2, rfl, _⟩, ⟨a3, c3, rfl, g3⟩⟩ := hf
  obtain ⟨⟨A0, C0, rfl, _⟩, ⟨A1, C1, rfl, _⟩⟩ := hs
  obtain ⟨_, _, _, z3⟩ := hff
  obtain ⟨sl, hsl⟩ : ∃ sl, sl = f.p.length + f.l.length := ⟨_, rfl⟩
  rw [← hsl] at hBn ⊢
  clear hsl hsf
  generalize hnc : s.consts.length = nc at *
  generalize hnf : s.funcs.length = nf at *
  obtain ⟨n3, hn3⟩ : ∃ n, n = f.code.length := ⟨_, rfl⟩
  have H3 := hid hn3
  rw [← hn3] at z3 hBn ⊢
  clear hn3 hnc hnf
  generalize f.p.length = n0 at *
  generalize f.r.length = n1 at *
  generalize f.l.length = n2 at *
  obtain ⟨W2, hW2⟩ : ∃ W2, W2 = (w.alloc (.cells #[.slice A0 nc C0, .slice A1 nf C1] 25)).alloc (.cells #[.slice a0 n0 c0, .slice a1 n1 c1, .slice a2 n2 c2, .slice a3 n3 c3] 49) := ⟨_, rfl⟩
  have hb2 : Below w.heap.size w W2 := by rw [hW2]; exact ((Below.refl _ w).alloc (Nat.le_refl _) _).alloc (by simp) _
  have bA : W2.heap[w.heap.size]? = some (.cells #[.slice A0 nc C0, .slice A1 nf C1] 25 (0, 0)) := by rw [hW2, Below.heap_alloc _ _ _ (by simp)]; exact heap_alloc_new w _
  have bB : W2.heap[w.heap.size + 1]? = some (.cells #[.slice a0 n0 c0, .slice a1 n1 c1, .slice a2 n2 c2, .slice a3 n3 c3] 49 (0, 0)) := by
    have := heap_alloc_new (w.alloc (.cells #[.slice A0 nc C0, .slice A1 nf C1] 25)) (.cells #[.slice a0 n0 c0, .slice a1 n1 c1, .slice a2 n2 c2, .slice a3 n3 c3] 49)
    rw [hW2]; simpa using this
  have lA := (Array.getElem?_eq_some_iff.1 bA).1
  have lB := (Array.getElem?_eq_some_iff.1 bB).1
  replace g3 := g3.keep (below_keep hb2)
  go_enter Try.func34, Try.ntmps34
  go_wp2_with fail
  rw [← hW2]
  clear hW2
  go_loopw [12] (fun i wr => ∃ k : Nat, k ≤ n3 ∧ i = .int .i64 k ∧ Hid (∀ (j : Nat) (h : j < f.code.length), j < k → insOk nc nf sl f.code[j] = true) ∧ Below W2.heap.size W2 wr) (fun i _ => n3 - (intOf i).toNat)
  case atStart => exact ⟨0, Nat.zero_le _, rfl, hid (by omega), Below.refl _ _⟩
  case round =>
    obtain ⟨k, hk, rfl, hr, hbr⟩ := hrel
    have hbw : Below w.heap.size w wr := hb2.trans (hbr.mono hb2.size)
    by_cases hlt : k < n3
    · rcases g3 with hz | ⟨x0, o0, rfl, hc0⟩
      · have := H3.out; rw [hz] at this; simp at this; omega
      have kl : k < f.code.length := by have := H3.out; omega
      obtain ⟨q0, q1⟩ := hc0 k kl
      have HS : Hid (insOk nc nf sl f.code[k] = false → (f.code.all (insOk nc nf sl)) = false) := hid fun h => all_stop kl h
      have HT : Hid (insOk nc nf sl f.code[k] = true → ∀ (j : Nat) (h : j < f.code.length), j < k + 1 → insOk nc nf sl f.code[j] = true) := hid fun h j h1 hjk => by
        rcases Nat.lt_or_ge j k with h3 | h3
        · exact hr.out j h1 h3
        · obtain rfl : j = k := by omega
          exact h
      generalize f.code[k] = x at q0 q1 HS HT
      obtain ⟨xo, xa⟩ := x
      simp only at q0 q1
      replace q0 := below_keep hbr _ _ q0
      replace q1 := below_keep hbr _ _ q1
      clear hc0
      have HI : Hid (insOk nc nf sl (xo, xa) = (decide (1 ≤ xo) && decide (xo ≤ 53) && decide ((boundsN (takesN xo) nc nf sl).1 ≤ xa) && decide (xa ≤ (boundsN (takesN xo) nc nf sl).2))) := hid rfl
      have hTk := fun W => takes_all xo W
      have hNm := fun W => name_any xo W
      have hnm := name_empty xo
      have hBx := hBn (takesN xo)
      clear hBn
      generalize boundsN (takesN xo) nc nf sl = bd at hBx HI
      obtain ⟨lo, hi⟩ := bd
      simp only at hBx HI
      generalize takesN xo = tk at hTk hBx
      generalize nameT xo = nm at hNm hnm
      obtain ⟨W3, hW3⟩ : ∃ W3, W3 = wr.alloc (.cells #[.int .i64 xo, .int .i64 xa] 51) := ⟨_, rfl⟩
      have hb3 : Below wr.heap.size wr W3 := by rw [hW3]; exact (Below.refl _ wr).alloc (Nat.le_refl _) _
      have b3 : W3.heap[wr.heap.size]? = some (.cells #[.int .i64 xo, .int .i64 xa] 51 (0, 0)) := by rw [hW3]; exact heap_alloc_new wr _
      have bA3 := (hb3.block _ (Nat.lt_of_lt_of_le lA hbr.size)).trans ((hbr.block _ lA).trans bA)
      have bB3 := (hb3.block _ (Nat.lt_of_lt_of_le lB hbr.size)).trans ((hbr.block _ lB).trans bB)
      have i0 : W3.cell? ⟨wr.heap.size, 0, none⟩ = some (.int .i64 xo) := by rw [Lib.cell_of_heap b3]; rfl
      have s0 : W3.cell? ⟨w.heap.size, 0, none⟩ = some (.slice A0 nc C0) := by rw [Lib.cell_of_heap bA3]; rfl
      have s1 : W3.cell? ⟨w.heap.size, 1, none⟩ = some (.slice A1 nf C1) := by rw [Lib.cell_of_heap bA3]; rfl
      have f0 : W3.cell? ⟨w.heap.size + 1, 0, none⟩ = some (.slice a0 n0 c0) := by rw [Lib.cell_of_heap bB3]; rfl
      have f1 : W3.cell? ⟨w.heap.size + 1, 1, none⟩ = some (.slice a1 n1 c1) := by rw [Lib.cell_of_heap bB3]; rfl
      have f2 : W3.cell? ⟨w.heap.size + 1, 2, none⟩ = some (.slice a2 n2 c2) := by rw [Lib.cell_of_heap bB3]; rfl
      have f3 : W3.cell? ⟨w.heap.size + 1, 3, none⟩ = some (.slice (some ⟨x0, o0, none⟩) n3 c3) := by rw [Lib.cell_of_heap bB3]; rfl
      have hB3 := hBx W3.drew (fun a v h => below_keep ((hbw.trans (hb3.mono hbw.size)).drew) a v h)
      clear hBx
      go_wp2_with fail
      rw [← hW3]
      have l3 := (Array.getElem?_eq_some_iff.1 b3).1
      clear hW3
      go_region_with (first | (go_at_call 50; refine (hTk _).mono ?_; rintro e w' ⟨rfl, rfl⟩) | (go_at_call 49; refine hB3.mono ?_; rintro e w5 ⟨rfl, hb5⟩; have hb5' : Below W3.heap.size W3 w5 := (Below.refl _ W3).drew.trans hb5; have b5 := (hb5'.block _ l3).trans b3; have j0 : w5.cell? ⟨wr.heap.size, 0, none⟩ = some (.int .i64 xo) := (by rw [Lib.cell_of_heap b5]; rfl); have j1 : w5.cell? ⟨wr.heap.size, 1, none⟩ = some (.int .i64 xa) := (by rw [Lib.cell_of_heap b5]; rfl); have hbw5 := hbw.trans ((hb3.trans (hb5'.mono hb3.size)).mono hbw.size); have hbr5 := hbr.trans ((hb3.trans (hb5'.mono hb3.size)).mono hbr.size); clear hb5 hb5' b5 hB3 hTk))
      all_goals clear i0 s0 s1 f0 f1 f2 f3 b3 bA3 bB3 hb3 q0 q1
      all_goals
        by_cases hok : 1 ≤ xo ∧ xo ≤ 53
        · have hnm' : (nm == []) = false := by rw [hnm]; simp [hok.1, hok.2]
          clear hnm
          by_cases hlo : lo ≤ xa
          · by_cases hhi : xa ≤ hi
            · have HE : Hid (∀ (j : Nat) (h : j < f.code.length), j < k + 1 → insOk nc nf sl f.code[j] = true) := hid (HT.out (by rw [HI.out]; simp [hok.1, hok.2, hlo, hhi]))
              clear HI HT HS
              go_wp2_with (go_at_call 51; refine (hNm _).mono ?_; rintro e w' ⟨rfl, rfl⟩)
              exact ⟨⟨k + 1, by omega, by go_num, HE, hbr5⟩, by simp [intOf]; omega⟩
            · have hhi' : hi < xa := by omega
              have HE : Hid ((f.code.all (insOk nc nf sl)) = false) := hid (HS.out (by rw [HI.out]; simp [hhi]))
              clear HI HT HS
              go_wp2_with (go_at_call 51; refine (hNm _).mono ?_; rintro e w' ⟨rfl, rfl⟩)
              go_ret
              exact ⟨by rw [HE.out]; rfl, hbw5⟩
          · have hlo' : xa < lo := by omega
            have HE : Hid ((f.code.all (insOk nc nf sl)) = false) := hid (HS.out (by rw [HI.out]; simp [hlo]))
            clear HI HT HS
            go_wp2_with (go_at_call 51; refine (hNm _).mono ?_; rintro e w' ⟨rfl, rfl⟩)
            go_ret
            exact ⟨by rw [HE.out]; rfl, hbw5⟩
        · have hbd : (decide (1 ≤ xo) && decide (xo ≤ 53)) = false := by
            cases h : (decide (1 ≤ xo) && decide (xo ≤ 53)) with
            | false => rfl
            | true => simp at h; exact absurd h hok
          have hnm' : (nm == []) = true := by rw [hnm, hbd]; rfl
          clear hnm
          have HE : Hid ((f.code.all (insOk nc nf sl)) = false) := hid (HS.out (by rw [HI.out, hbd]; simp))
          clear HI HT HS
          go_wp2_with (go_at_call 51; refine (hNm _).mono ?_; rintro e w' ⟨rfl, rfl⟩)
          go_ret
          exact ⟨by rw [HE.out]; rfl, hbw5⟩
    · have HE : Hid ((f.code.all (insOk nc nf sl)) = true) := hid (List.all_eq_true.2 fun z hz => by
        obtain ⟨i, hi, rfl⟩ := List.getElem_of_mem hz
        exact hr.out i hi (by have := H3.out; omega))
      go_wp2_with fail
      go_ret
      exact ⟨by rw [HE.out]; rfl, hbw⟩
end Go.Proofs.Ytikomfbpaimnmaa
