/- The law TypesChecks. -/
import Derived.Test.YtnidakplcaanfaaLAl7
namespace Go.Proofs.Ytnidakplcaanfaa
open Go.RowKit Go.Shelf
/-- Only numbers from block B on have turned, and are numbers still. -/
structure Sp7 (B : Nat) (WB W0 W : World) : Prop where
  bel : Below B WB W
  oth : ∀ (x : Addr) (v : Value), W0.cell? x = some v → (∀ n, v ≠ .int .i64 n) → W.cell? x = some v
  num : ∀ (x : Addr) n, W0.cell? x = some (.int .i64 n) → ∃ n', W.cell? x = some (.int .i64 n')
  blk : ∀ (k : Nat) (cur : Array Value), W0.heap[k]? = some (.cells cur 3 (0, 0)) → ∃ cur', W.heap[k]? = some (.cells cur' 3 (0, 0))
theorem Sp7.set {B : Nat} {WB W0 W : World} (h : Sp7 B WB W0 W) {b o : Nat} {n m : Int} (hb : B ≤ b) (hc : W.cell? ⟨b, o, none⟩ = some (.int .i64 n)) : Sp7 B WB W0 (W.setCell ⟨b, o, none⟩ (.int .i64 m)) := by
  refine ⟨h.bel.setCell (p := ⟨b, o, none⟩) hb _, fun x v hx hv => ?_, fun x k hx => ?_, fun k cur hk => ?_⟩
  · have hw := h.oth x v hx hv
    by_cases e : (⟨b, o, none⟩ : Addr) = x
    · rw [e, hw] at hc
      exact absurd (Option.some.inj hc) (hv n)
    · rw [World.cell?_setCell_other _ _ _ _ e]
      exact hw
  · obtain ⟨n', hw⟩ := h.num x k hx
    by_cases e : (⟨b, o, none⟩ : Addr) = x
    · subst e
      exact ⟨m, World.cell?_setCell_same _ _ _ hc⟩
    · exact ⟨n', by rw [World.cell?_setCell_other _ _ _ _ e]; exact hw⟩
  · obtain ⟨cur', hw⟩ := h.blk k cur hk
    by_cases e : k = b
    · subst e
      exact ⟨cur'.setIfInBounds o (.int .i64 m), by simp [World.setCell, Array.getElem?_modify, hw]⟩
    · exact ⟨cur', by rw [Below.heap_setCell _ _ _ _ e]; exact hw⟩
set_option maxRecDepth 100000 in
set_option maxHeartbeats 4000000 in
theorem checks7_any (s : Scr) (V0 V1 : Value) (f : Int) (w : World) (hs : ScIs w.cell? s V0 V1) (hsf : s.fits) (hI64 : ∀ f ∈ s.funcs, ∀ x ∈ f.code, -9223372036854775808 ≤ x.2 ∧ x.2 ≤ 9223372036854775807) :
    Calls Try.prog 3 #[.agg #[V0, V1], .int .i64 f] w fun e w' => e = .returned (.bool true) ∧ Below w.heap.size w w' := by
  obtain ⟨⟨a0, c0, rfl, n0⟩, ⟨a1, c1, rfl, n1⟩⟩ := hs
  have hs : ScIs w.cell? s (.slice a0 s.consts.length c0) (.slice a1 s.funcs.length c1) := ⟨⟨a0, c0, rfl, n0⟩, ⟨a1, c1, rfl, n1⟩⟩
  obtain ⟨RR, hRR⟩ : ∃ RR, RR = checkS s f := ⟨_, rfl⟩
  have hrows : (∀ r ∈ RR.2, r.length ≤ 100000) ∧ RR.2.length ≤ 100000 := by
    rw [hRR, checkS]
    split
    · rename_i hr
      split
      · rename_i hf
        obtain ⟨k, rfl⟩ : ∃ k : Nat, f = k := ⟨f.toNat, by omega⟩
        have hk : k < s.funcs.length := by omega
        obtain ⟨q1, q2⟩ := stacks_rows s.funcs (fnAt s.funcs k)
        have hc := ((right_facts hr).2.2 (fnAt s.funcs k) (by rw [← fnAt_get hk]; exact List.getElem_mem _)).c
        exact ⟨fun r hr => Nat.le_trans (q1 r hr) (by omega), by omega⟩
      · exact ⟨fun r hr => (by cases hr), by simp⟩
    · exact ⟨fun r hr => (by cases hr), by simp⟩
  have HC : Hid (Calls Try.prog 8 #[.agg #[.slice a0 s.consts.length c0, .slice a1 s.funcs.length c1]] (w.alloc (.cells #[.slice a0 s.consts.length c0, .slice a1 s.funcs.length c1] 25)) fun e w2 => ∃ b0 d0 b1 d1, e = .returned (.agg #[.slice b0 s.consts.length d0, .slice b1 s.funcs.length d1]) ∧
      Hid (Calls Try.prog 9 #[.agg #[.slice b0 s.consts.length d0, .slice b1 s.funcs.length d1], .int .i64 f] (w2.alloc (.cells #[.slice b0 s.consts.length d0, .slice b1 s.funcs.length d1] 25)) fun e w3 => ∃ a c, e = .returned (.tuple #[.slice a RR.2.length c, .int .i64 RR.1]) ∧ (w3.cell? ⟨w.heap.size, 0, none⟩ = some (.slice a0 s.consts.length c0) ∧ w3.cell? ⟨w.heap.size, 1, none⟩ = some (.slice a1 s.funcs.length c1)) ∧
        Hid (Calls Try.prog 10 #[.agg #[.slice a0 s.consts.length c0, .slice a1 s.funcs.length c1], .int .i64 f] w3 fun e w4 => ∃ b d, e = .returned (.tuple #[.slice b RR.2.length d, .int .i64 RR.1]) ∧
          Hid (Calls Try.prog 11 #[.slice a RR.2.length c, .slice b RR.2.length d] w4 fun e w5 => e = .returned (.bool true) ∧
            Hid (∃ WB, SlAt WB.heap.size w5 a RR.2 ∧ Sp7 WB.heap.size WB w5 w5 ∧
              ∀ W, Sp7 WB.heap.size WB w5 W → (W.cell? ⟨w.heap.size, 0, none⟩ = some (.slice a0 s.consts.length c0) ∧ W.cell? ⟨w.heap.size, 1, none⟩ = some (.slice a1 s.funcs.length c1) ∧ W.cell? ⟨w2.heap.size, 0, none⟩ = some (.slice b0 s.consts.length d0) ∧ W.cell? ⟨w2.heap.size, 1, none⟩ = some (.slice b1 s.funcs.length d1)) ∧
                Hid (Calls Try.prog 13 #[.agg #[.slice b0 s.consts.length d0, .slice b1 s.funcs.length d1], .agg #[.slice a0 s.consts.length c0, .slice a1 s.funcs.length c1]] W fun e w8 => e = .returned (.bool true) ∧ Hid (Below w.heap.size w w8))))))) := hid7 ((clone_box s _ _ w hs hsf).mono fun e w2 ⟨b0, d0, b1, d1, h1, h2⟩ => ⟨b0, d0, b1, d1, h1, hid7 ((check7_any s _ _ f _ h2.out.c hsf).mono fun e w3 ⟨a, c, h3, h4, h5⟩ => by
    have x3 := h2.out.below h5
    rw [← hRR] at h3 h4
    refine ⟨a, c, h3, x3.sc, hid7 ((rcheck7_any s _ _ f w3 (hs.keep (below_keep x3.b)) hsf hI64).mono fun e w4 ⟨b, d, h6, h7, h8⟩ => ?_)⟩
    rw [← hRR] at h6 h7
    refine ⟨b, d, h6, hid7 ((lstacks_any RR.2 RR.2 a b c d _ _ rfl rfl hrows.2 hrows.2 hrows.1 hrows.1 w4 (h4.below h8).rs h7.rs).mono fun e w5 ⟨h9, k5, e5⟩ => ?_)⟩
    subst e5
    have b45 : Below w4.heap.size w4 (w4.drewN k5) := below_draws2 (Below.refl _ w4) k5
    have bB := (h5.trans (h8.mono h5.size)).trans (b45.mono (Nat.le_trans h5.size h8.size))
    refine ⟨by rw [h9]; simp, hid7 ⟨_, ((h4.below h8).below b45), ⟨bB, fun _ _ h _ => h, fun x n h => ⟨n, h⟩, fun k cur h => ⟨cur, h⟩⟩, fun W hW => ?_⟩⟩
    have xW := h2.out.below hW.bel
    exact ⟨⟨xW.sc.1, xW.sc.2, xW.xc.1, xW.xc.2⟩, hid7 ((rsame_any s s _ _ _ _ _ xW.c (hs.keep (below_keep xW.b)) hsf hsf).mono fun e w8 ⟨h12, h13⟩ => ⟨by rw [h12]; simp, hid7 (xW.b.trans (h13.mono xW.b.size))⟩)⟩)⟩)
  clear hs n0 n1 hsf hI64 hRR
  obtain ⟨er, rows⟩ := RR
  simp only at HC hrows
  obtain ⟨rl, hrl⟩ : ∃ rl, rl = rows.length := ⟨_, rfl⟩
  rw [← hrl] at HC
  have hrl2 : rl ≤ 100000 := by have := hrows.2; omega
  have HRL := hid7 hrl
  have HRW := hid7 hrows.1
  clear hrl hrows
  generalize s.funcs.length = fl at HC ⊢
  generalize s.consts.length = cl at HC ⊢
  go_enter Try.func3, Try.ntmps3
  go_wp2_with (first
    | (go_at_call 8; refine HC.out.mono ?_; clear HC; rintro e w2 ⟨b0, d0, b1, d1, rfl, H2⟩)
    | (go_at_call 9; refine H2.out.mono ?_; clear H2; rintro e w3 ⟨a, c, rfl, ⟨s0, s1⟩, H3⟩)
    | (go_at_call 10; refine H3.out.mono ?_; clear H3; rintro e w4 ⟨b, d, rfl, H4⟩)
    | (go_at_call 11; refine H4.out.mono ?_; clear H4; rintro e w5 ⟨rfl, H5⟩)
    | (go_at_call 12; refine (num7_any _ _).mono ?_; rintro e w9 ⟨rfl, w9e⟩; rw [w9e]; clear w9e)
    | fail)
  obtain ⟨WB, hSl, hSp, hEnd⟩ := H5.out
  have HSl := hid7 hSl
  have HEnd := hid7 hEnd
  have HSp := hid7 hSp
  clear H5 hSl hEnd hSp s0 s1
  generalize WB.heap.size = B at *
  go_loopw [11] (fun iv wr => ∃ i : Nat, iv = .int .i64 i ∧ i ≤ rl ∧ Hid (Sp7 B WB w5 wr)) (fun iv _ => rl - (intOf iv).toNat)
  case atStart => exact ⟨0, rfl, Nat.zero_le _, HSp⟩
  case round =>
    obtain ⟨i, rfl, hi, hI⟩ := hrel
    by_cases hil : i < rl
    · have hir : i < rows.length := by rw [← HRL.out]; exact hil
      obtain ⟨rb, ea, aj, cj, hcell, hns⟩ : ∃ rb, a = some ⟨rb, 0, none⟩ ∧ ∃ aj cj, w5.cell? ⟨rb, i, none⟩ = some (.slice aj rows[i].length cj) ∧ NsIn B w5 aj rows[i] := by
        rcases HSl.out with h0 | ⟨rb, e, h⟩
        · rw [h0] at hir; cases hir
        · obtain ⟨aj, cj, h1, h2⟩ := h i hir
          exact ⟨rb, e, aj, cj, h1, h2⟩
      subst ea
      have hjl : rows[i].length ≤ 100000 := HRW.out _ (List.getElem_mem _)
      have HNs : Hid (∀ W k, Sp7 B WB w5 W → k < rows[i].length → ∃ b off n, aj = some ⟨b, off, none⟩ ∧ B ≤ b ∧ W.cell? ⟨b, off + k, none⟩ = some (.int .i64 n) ∧ W.frozen? ⟨b, off + k, none⟩ = false) := hid7 fun W k hW hk => by
        rcases hns with ⟨h0, _⟩ | ⟨b, off, cur, e, hB, hb, hc⟩
        · rw [h0] at hk; cases hk
        · obtain ⟨n', hn'⟩ := hW.num _ _ (hc k hk)
          obtain ⟨cur', hb'⟩ := hW.blk b cur hb
          exact ⟨b, off, n', e, hB, hn', Lib.frozen_of_heap hb' _⟩
      have HCl : Hid (∀ W, Sp7 B WB w5 W → W.cell? ⟨rb, i, none⟩ = some (.slice aj rows[i].length cj)) := hid7 fun W hW => hW.oth _ _ hcell (fun n => by intro e; cases e)
      clear hcell hns
      generalize rows[i].length = jl at *
      go_wp2
      go_loopw [12] (fun kv wq => ∃ k : Nat, kv = .int .i64 k ∧ k ≤ jl ∧ Hid (Sp7 B WB w5 wq)) (fun kv _ => jl - (intOf kv).toNat)
      case atStart => exact ⟨0, rfl, Nat.zero_le _, hI⟩
      case round =>
        obtain ⟨k, rfl, hk, hK⟩ := hrel
        have y0 := HCl.out _ hK.out
        by_cases hkl : k < jl
        · obtain ⟨b, off, n, ej, hB, y1, y2⟩ := HNs.out _ k hK.out hkl
          subst ej
          have K2 := hid7 (hK.out.set (m := 9) hB y1)
          go_wp2
          exact ⟨⟨k + 1, by go_num, by omega, K2⟩, by simp [intOf]; omega⟩
        · go_wp2
          exact ⟨⟨i + 1, by go_num, by omega, hK⟩, by simp [intOf]; omega⟩
    · obtain ⟨⟨y0, y1, y2, y3⟩, HSa⟩ := HEnd.out _ hI.out
      go_wp2_with (first
        | (go_at_call 13; refine HSa.out.mono ?_; clear HSa; rintro e w8 ⟨rfl, B8⟩)
        | (go_at_call 14; refine (knows7_any _).mono ?_; rintro e w10 ⟨rfl, b10⟩)
        | fail)
      go_ret
      exact ⟨rfl, B8.out.trans (b10.mono B8.out.size)⟩
end Go.Proofs.Ytnidakplcaanfaa
