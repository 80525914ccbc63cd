/- The document's Right, All, Fits; layer 2's helper 'Same'. -/
import Derived.Test.YtkmfopdklohgnaaDoorOF
namespace Go.Proofs.YtkmfopdklohgnaaDoor
open Go.RowKit
attribute [local go_sem high] eq_val eq_val0
set_option maxHeartbeats 1000000 in
theorem rright_any (x : Val) (_hb : x.b.length ≤ 9223372036854775807) (w : World) : Calls Tryd.prog 34 #[x.v] w fun e w' => e = .returned (.bool x.right) ∧ Below w.heap.size w w' := by
  obtain ⟨t, n, b⟩ := x
  simp only [Val.v, Val.right] at _hb ⊢
  by_cases h1 : t = 1
  · subst h1
    go_enter Tryd.func34, Tryd.ntmps34
    go_wp2
    go_ret
    exact ⟨by cases b <;> simp, (Below.refl _ w).alloc (Nat.le_refl _) _⟩
  by_cases h2 : t = 2
  · subst h2
    by_cases hn : n = 0
    · subst hn
      go_enter Tryd.func34, Tryd.ntmps34
      go_wp2
      all_goals (go_ret; exact ⟨by simp; try omega, (Below.refl _ w).alloc (Nat.le_refl _) _⟩)
    · have hn' : (n == 0) = false := by simp [hn]
      go_enter Tryd.func34, Tryd.ntmps34
      go_wp2
      all_goals (go_ret; exact ⟨by simp, (Below.refl _ w).alloc (Nat.le_refl _) _⟩)
  by_cases h3 : t = 3
  · subst h3
    by_cases hn : n = 0
    · subst hn
      go_enter Tryd.func34, Tryd.ntmps34
      go_wp2
      all_goals (go_ret; exact ⟨by cases b <;> simp, (Below.refl _ w).alloc (Nat.le_refl _) _⟩)
    · have hn' : (n == 0) = false := by simp [hn]
      by_cases hm : n = 1
      · subst hm
        go_enter Tryd.func34, Tryd.ntmps34
        go_wp2
        all_goals (go_ret; exact ⟨by cases b <;> simp, (Below.refl _ w).alloc (Nat.le_refl _) _⟩)
      · have hm' : (n == 1) = false := by simp [hm]
        go_enter Tryd.func34, Tryd.ntmps34
        go_wp2
        all_goals (go_ret; exact ⟨by simp, (Below.refl _ w).alloc (Nat.le_refl _) _⟩)
  have e1 : (t == 1) = false := by simp [h1]
  have e2 : (t == 2) = false := by simp [h2]
  have e3 : (t == 3) = false := by simp [h3]
  go_enter Tryd.func34, Tryd.ntmps34
  go_wp2
  go_ret
  exact ⟨by simp, (Below.refl _ w).alloc (Nat.le_refl _) _⟩
set_option maxHeartbeats 1000000 in
theorem rall_any (a : Option Addr) (n c : Nat) (L : List Val) (hn : L.length = n) (w : World) (hV : Vs w a L) (hF : Fair L) (hl : n ≤ 140737488351232) : Calls Tryd.prog 18 #[.slice a n c] w fun e w' => e = .returned (.bool (L.all Val.right)) ∧ Below w.heap.size w w' := by
  go_enter Tryd.func18, Tryd.ntmps18
  go_wp2
  go_loopw [3] (fun i wr => ∃ k : Nat, k ≤ n ∧ i = .int .i64 k ∧ (∀ j (h : j < L.length), j < k → L[j].right = true) ∧ Below w.heap.size w wr) (fun i _ => n - (intOf i).toNat)
  case atStart => exact ⟨0, Nat.zero_le _, rfl, by omega, Below.refl _ _⟩
  case round =>
    obtain ⟨k, hk, rfl, hr, hb⟩ := hrel
    by_cases hlt : k < n
    · rcases hV.keep hb with h0 | ⟨b, off, hao, hc⟩
      · subst h0; simp at hn; omega
      · subst hao
        obtain ⟨c0, c1, c2⟩ := hc k (by omega)
        have hx := hF L[k] (by simp)
        have HF : Hid (L[k].right = false → L.all Val.right = false) := hidV fun h => by
          rw [List.all_eq_false]
          exact ⟨L[k], by simp, by simp [h]⟩
        have HT : Hid (L[k].right = true → ∀ j (h : j < L.length), j < k + 1 → L[j].right = true) := hidV fun h j hj hjk => by
          rcases Nat.lt_or_ge j k with h1 | h1
          · exact hr j hj h1
          · obtain rfl : j = k := by omega
            exact h
        generalize L[k] = x at c0 c1 c2 hx HF HT
        have hx' := rright_any x hx
        obtain ⟨xt, xn, xb⟩ := x
        simp only [Val.v] at hx'
        clear hc hV hF
        generalize hR : Val.right ⟨xt, xn, xb⟩ = R at hx' HF HT
        cases R with
        | false =>
          go_wp2_with (go_at_call 34; refine (hx' _).mono ?_; rintro e w2 ⟨rfl, hb2⟩)
          go_ret
          exact ⟨by rw [HF.out trivial]; rfl, hb.trans (hb2.mono hb.size)⟩
        | true =>
          go_wp2_with (go_at_call 34; refine (hx' _).mono ?_; rintro e w2 ⟨rfl, hb2⟩)
          refine ⟨⟨k + 1, by omega, by go_num, HT.out trivial, hb.trans (hb2.mono hb.size)⟩, by simp [intOf]; omega⟩
    · have hE : L.all Val.right = true := by
        rw [List.all_eq_true]
        intro x hx
        obtain ⟨j, hj, rfl⟩ := List.mem_iff_getElem.1 hx
        exact hr j hj (by omega)
      go_wp2
      go_ret
      exact ⟨by rw [hE]; rfl, hb⟩
set_option maxHeartbeats 1000000 in
theorem same_any (a b : Option Addr) (n c d : Nat) (L : List Val) (hn : L.length = n) (w : World) (ha : Vs w a L) (hb : Vs w b L) (hl : n ≤ 140737488351232) : Calls Tryd.prog 9 #[.slice a n c, .slice b n d] w fun e w' => e = .returned (.bool true) ∧ Below w.heap.size w w' := by
  go_enter Tryd.func9, Tryd.ntmps9
  go_wp2
  go_loopw [5] (fun i wr => ∃ k m : Nat, k ≤ n ∧ i = .int .i64 k ∧ wr = w.drewN m) (fun i _ => n - (intOf i).toNat)
  case atStart => exact ⟨0, 0, Nat.zero_le _, rfl, rfl⟩
  case round =>
    obtain ⟨k, m, hk, rfl, rfl⟩ := hrel
    by_cases hlt : k < n
    · rcases ha with h0 | ⟨b0, off0, rfl, hc0⟩
      · subst h0; simp at hn; omega
      rcases hb with h0 | ⟨b1, off1, rfl, hc1⟩
      · subst h0; simp at hn; omega
      obtain ⟨c0, c1, c2⟩ := hc0 k (by omega)
      obtain ⟨d0, d1, d2⟩ := hc1 k (by omega)
      generalize L[k] = x at c0 c1 c2 d0 d1 d2
      obtain ⟨xt, xn, xb⟩ := x
      simp only at c0 c1 c2 d0 d1 d2
      clear hc0 hc1
      go_wp2
      go_quiet (fail)
      go_wp2
      refine ⟨⟨k + 1, _, by omega, by go_num, rfl⟩, by simp [intOf]; omega⟩
    · go_wp2
      go_ret
      exact ⟨rfl, below_draws (Below.refl _ _) _⟩
end Go.Proofs.YtkmfopdklohgnaaDoor
