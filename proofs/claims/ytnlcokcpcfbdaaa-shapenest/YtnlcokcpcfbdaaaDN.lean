/- The document's Around. -/
import Derived.Test.YtnlcokcpcfbdaaaDF
namespace Go.Proofs.Ytnlcokcpcfbdaaa
open Go.RowKit
set_option maxRecDepth 100000 in
set_option maxHeartbeats 1000000 in
theorem raround_any (cs : List (Int × Int)) (ca : Option Addr) (cc n : Nat) (hn : cs.length = n) (bn : n ≤ 1000000) (x : Int) (w : World) (hc : IsAt w.cell? ca cs) : Calls Try.prog 18 #[.slice ca n cc, .int .i64 x] w (AroundEnd cs x w) := by
  have hM := rmatch_any cs ca cc n hn bn w hc
  by_cases hg : goodS cs = true
  · have hM : Calls Try.prog 12 #[.slice ca n cc] w fun e w' => ∃ g, e = .returned (.tuple #[.slice (some ⟨g, 0, none⟩) n n, .int .i64 0]) ∧ NumBlk g (matchS cs) w' ∧ Below w.heap.size w w' := hM.mono fun e w' ⟨h1, h2⟩ => by
      rw [if_pos hg, hn] at h1
      obtain ⟨g, _, h3, h4⟩ := h1
      exact ⟨g, h3, h4, h2⟩
    by_cases hx : 0 ≤ x ∧ x < n
    · obtain ⟨k, rfl⟩ : ∃ k : Nat, x = k := ⟨x.toNat, by omega⟩
      have hk : k < n := by omega
      clear hx
      obtain ⟨cb, co, rfl⟩ := is_some hc (by omega)
      have hO : Hid (∀ W g, Below w.heap.size w W → NumBlk g (matchS cs) W → Calls Try.prog 29 #[.slice (some ⟨cb, co, none⟩) n cc, .slice (some ⟨g, 0, none⟩) n n, .int .i64 k] W (OpenEnd ((stk (opA cs) k).map Blk.s) W)) := hid6 fun W g hb hN => by
        have hF : Fit (opA cs) n (fun _ _ => True) (gI (matchS cs)) := by subst hn; exact (match_gm hg).fit
        have hNN : Nest (opA cs) n := by subst hn; exact good_nest hg
        have hop := opened_any cs (matchS cs) cb co cc g n hn (by omega) k (by omega) W (hc.keep fun a v h => (hb.cell (World.block_lt_of_cell? w a h)).trans h) hN (fit_noted hNN ((matchS_len cs).trans hn) hF)
        rw [open_stk hNN hF (by omega)] at hop
        exact hop
      have HE : Hid (∀ W e a c, W.ownsRow w.heap.size 3 1 (.slice a ((stk (opA cs) k).map Blk.s).length c) ((stk (opA cs) k).map Blk.s).length (cellsN ((stk (opA cs) k).map Blk.s)) → e = .returned (.slice a ((stk (opA cs) k).map Blk.s).length c) → Below w.heap.size w W → AroundEnd cs k w e W) := hid6 fun W e a c hr he hb => by
        have e1 : (if goodS cs = true then arS cs k cs.length else []) = (stk (opA cs) k).map Blk.s := by
          rw [if_pos hg, arS, if_pos (by omega), Int.toNat_natCast, mst_stk]
        refine ⟨a, c, by rw [e1]; exact he, ?_, hb⟩
        rw [e1]
        obtain ⟨_, a9, c9, e9, _, h9⟩ := ns_of_row hr (C := W.cell?) (fun _ _ _ h => h)
        cases e9
        exact h9
      clear hc hn hg
      unfold OpenEnd at hO
      generalize (stk (opA cs) k).map Blk.s = ss at hO HE
      go_enter Try.func18, Try.ntmps18
      go_wp2_with (first | (go_at_call 12; refine hM.mono ?_; clear hM; rintro e w1 ⟨g, rfl, N1, b1⟩; have hop := hid6 (hO.out w1 g b1 N1); clear hO) | (go_at_call 29; refine hop.out.mono ?_; clear hop; rintro e w7 ⟨a7, c7, rfl, hr7, b7⟩) | fail)
      go_ret
      exact HE.out _ _ _ _ (row_lower hr7 b1.size) rfl (b1.trans (b7.mono b1.size))
    · have HE : Hid (∀ W, Below w.heap.size w W → AroundEnd cs x w (.returned (.slice none 0 0)) W) := hid6 fun W hb => by
        have e1 : (if goodS cs = true then arS cs x cs.length else []) = [] := by rw [if_pos hg, arS, if_neg (by omega)]
        exact ⟨none, 0, by rw [e1]; rfl, by rw [e1]; exact .inl rfl, hb⟩
      clear hc hn hg
      by_cases h0 : x < 0
      · go_enter Try.func18, Try.ntmps18
        go_wp2_with (first | (go_at_call 12; refine hM.mono ?_; clear hM; rintro e w1 ⟨g, rfl, N1, b1⟩) | fail)
        go_ret
        exact HE.out _ b1
      · have h1 : (n : Int) ≤ x := by omega
        go_enter Try.func18, Try.ntmps18
        go_wp2_with (first | (go_at_call 12; refine hM.mono ?_; clear hM; rintro e w1 ⟨g, rfl, N1, b1⟩) | fail)
        go_ret
        exact HE.out _ b1
  · have hM : Calls Try.prog 12 #[.slice ca n cc] w fun e w' => e = .returned (.tuple #[.slice none 0 0, .int .i64 31]) ∧ Below w.heap.size w w' := hM.mono fun e w' ⟨h1, h2⟩ => ⟨by rw [if_neg hg] at h1; exact h1, h2⟩
    have HE : Hid (∀ W, Below w.heap.size w W → AroundEnd cs x w (.returned (.slice none 0 0)) W) := hid6 fun W hb => ⟨none, 0, by rw [if_neg hg]; rfl, by rw [if_neg hg]; exact .inl rfl, hb⟩
    clear hc hn hg
    go_enter Try.func18, Try.ntmps18
    go_wp2_with (first | (go_at_call 12; refine hM.mono ?_; clear hM; rintro e w1 ⟨rfl, b1⟩) | fail)
    go_ret
    exact HE.out _ b1
end Go.Proofs.Ytnlcokcpcfbdaaa
