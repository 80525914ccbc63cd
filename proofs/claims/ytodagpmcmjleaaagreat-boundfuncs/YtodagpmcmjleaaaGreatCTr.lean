/- The document's rightFunc, Right. The document's Right. -/
import Derived.Test.YtodagpmcmjleaaaGreatORn
import Derived.Deep.RegionHeld3
import Derived.Test.YtodagpmcmjleaaaGreatCRc
namespace Go.Proofs.YtodagpmcmjleaaaGreat
open Go.RowKit
theorem lists_same (f : Fn) : f.lists = ((f.p.all kindOk && decide ((f.p.length : Int) ≤ 8)) && (f.r.all kindOk && decide ((f.r.length : Int) ≤ 8)) && (f.l.all kindOk && decide ((f.l.length : Int) ≤ 16)) && decide ((f.p.length : Int) ≤ 16 - (f.l.length : Int)) && decide ((f.code.length : Int) ≤ 256)) := by
  unfold Fn.lists
  generalize f.p.all kindOk = x
  generalize f.r.all kindOk = y
  generalize f.l.all kindOk = z
  by_cases d0 : f.p.length ≤ 8
  · by_cases d1 : f.r.length ≤ 8
    · by_cases d2 : f.p.length + f.l.length ≤ 16
      · by_cases d3 : f.code.length ≤ 256
        · have e0 : (f.p.length : Int) ≤ 8 := by omega
          have e1 : (f.r.length : Int) ≤ 8 := by omega
          have e2 : (f.l.length : Int) ≤ 16 := by omega
          have e3 : (f.p.length : Int) ≤ 16 - (f.l.length : Int) := by omega
          have e4 : (f.code.length : Int) ≤ 256 := by omega
          simp [d0, d1, d2, d3, e0, e1, e2, e3, e4]
        · have e4 : ¬ (f.code.length : Int) ≤ 256 := by omega
          simp [d3, e4]
      · have e3 : ¬ (f.p.length : Int) ≤ 16 - (f.l.length : Int) := by omega
        simp [d2, e3]
    · have e1 : ¬ (f.r.length : Int) ≤ 8 := by omega
      simp [d1, e1]
  · have e0 : ¬ (f.p.length : Int) ≤ 8 := by omega
    simp [d0, e0]
set_option maxRecDepth 100000 in
set_option maxHeartbeats 2000000 in
theorem rrightFunc_any (s : Scr) (f : Fn) (V0 V1 v0 v1 v2 v3 : Value) (w : World) (hs : ScIs w.cell? s V0 V1) (hf : FnIs w.cell? f v0 v1 v2 v3) (hsf : s.fits) (hff : f.fits) (hI64 : ∀ x ∈ f.code, -9223372036854775808 ≤ x.2 ∧ x.2 ≤ 9223372036854775807) : Calls Tryz.prog 32 #[.agg #[V0, V1], .agg #[v0, v1, v2, v3]] w fun e w' => e = .returned (.bool (Fn.right s.consts.length s.funcs.length f)) ∧ Below w.heap.size w w' := by
  have hIn : ∀ (sl : Nat) (x : Int × Int) (W : World), x ∈ f.code → (∀ a v, w.cell? a = some v → W.cell? a = some v) → Calls Tryz.prog 58 #[.agg #[V0, V1], .int .i64 (sl : Int), .agg #[.int .i64 x.1, .int .i64 x.2]] W fun e w' => e = .returned (.bool (insOk s.consts.length s.funcs.length sl x)) ∧ Below W.heap.size W w' := fun sl x W hx hk => by
    have := rinstr_any s V0 V1 (sl : Int) x.1 x.2 W (hs.keep hk) hsf
    rw [insR_same _ _ _ _ (hI64 x hx).1 (hI64 x hx).2] at this
    exact this
  obtain ⟨⟨a0, c0, rfl, g0⟩, ⟨a1, c1, rfl, g1⟩, ⟨a2, c2, rfl, g2⟩, ⟨a3, c3, rfl, g3⟩⟩ := hf
  obtain ⟨⟨A0, C0, rfl, _⟩, ⟨A1, C1, rfl, _⟩⟩ := hs
  obtain ⟨z0, z1, z2, z3⟩ := hff
  have hT0 : ∀ W : World, (∀ a v, w.cell? a = some v → W.cell? a = some v) → Calls Tryz.prog 57 #[.slice a0 f.p.length c0, .int .i64 8] W fun e w' => e = .returned (.bool (f.p.all kindOk && decide ((f.p.length : Int) ≤ 8))) ∧ w' = W := fun W hk => rtypes_any a0 c0 _ f.p 8 rfl W (g0.keep hk) z0
  have hT1 : ∀ W : World, (∀ a v, w.cell? a = some v → W.cell? a = some v) → Calls Tryz.prog 57 #[.slice a1 f.r.length c1, .int .i64 8] W fun e w' => e = .returned (.bool (f.r.all kindOk && decide ((f.r.length : Int) ≤ 8))) ∧ w' = W := fun W hk => rtypes_any a1 c1 _ f.r 8 rfl W (g1.keep hk) z1
  have hT2 : ∀ W : World, (∀ a v, w.cell? a = some v → W.cell? a = some v) → Calls Tryz.prog 57 #[.slice a2 f.l.length c2, .int .i64 16] W fun e w' => e = .returned (.bool (f.l.all kindOk && decide ((f.l.length : Int) ≤ 16))) ∧ w' = W := fun W hk => rtypes_any a2 c2 _ f.l 16 rfl W (g2.keep hk) z2
  have HR : Hid (Fn.right s.consts.length s.funcs.length f = (f.lists && f.code.all (insOk s.consts.length s.funcs.length (f.p.length + f.l.length)))) := hid rfl
  have HL := hid (lists_same f)
  have hInS := hIn (f.p.length + f.l.length)
  clear hIn hsf
  have HA : Hid (∀ (k : Nat) (h : k < f.code.length), insOk s.consts.length s.funcs.length (f.p.length + f.l.length) f.code[k] = false → f.code.all (insOk s.consts.length s.funcs.length (f.p.length + f.l.length)) = false) := hid fun k h hp => all_stop h hp
  have HB : Hid ((∀ (k : Nat) (h : k < f.code.length), insOk s.consts.length s.funcs.length (f.p.length + f.l.length) f.code[k] = true) → f.code.all (insOk s.consts.length s.funcs.length (f.p.length + f.l.length)) = true) := hid fun h => List.all_eq_true.2 fun z hz => by
    obtain ⟨i, hi, rfl⟩ := List.getElem_of_mem hz
    exact h i hi
  obtain ⟨rr, hrr⟩ : ∃ rr, rr = Fn.right s.consts.length s.funcs.length f := ⟨_, rfl⟩
  rw [← hrr] at HR ⊢
  clear hrr
  generalize f.code.all (insOk s.consts.length s.funcs.length (f.p.length + f.l.length)) = r4 at HR HA HB
  generalize f.lists = fl at HR HL
  generalize (f.p.all kindOk && decide ((f.p.length : Int) ≤ 8)) = r0 at hT0 HL
  generalize (f.r.all kindOk && decide ((f.r.length : Int) ≤ 8)) = r1 at hT1 HL
  generalize (f.l.all kindOk && decide ((f.l.length : Int) ≤ 16)) = r2 at hT2 HL
  generalize s.consts.length = nc at *
  generalize s.funcs.length = nf at *
  obtain ⟨n3, hn3⟩ : ∃ n, n = f.code.length := ⟨_, rfl⟩
  rw [← hn3] at z3 HL ⊢
  have H3 := hid hn3
  clear hn3 g0 g1 g2 hI64
  generalize f.p.length = n0 at *
  generalize f.r.length = n1 at *
  generalize f.l.length = n2 at *
  obtain ⟨W2, hW2⟩ : ∃ W2, W2 = (w.alloc (.cells #[.slice A0 nc C0, .slice A1 nf C1] 25)).alloc (.cells #[.slice a0 n0 c0, .slice a1 n1 c1, .slice a2 n2 c2, .slice a3 n3 c3] 44) := ⟨_, rfl⟩
  have hb2 : Below w.heap.size w W2 := by rw [hW2]; exact ((Below.refl _ w).alloc (Nat.le_refl _) _).alloc (by simp) _
  have bA : W2.heap[w.heap.size]? = some (.cells #[.slice A0 nc C0, .slice A1 nf C1] 25 (0, 0)) := by rw [hW2, Below.heap_alloc _ _ _ (by simp)]; exact heap_alloc_new w _
  have bB : W2.heap[w.heap.size + 1]? = some (.cells #[.slice a0 n0 c0, .slice a1 n1 c1, .slice a2 n2 c2, .slice a3 n3 c3] 44 (0, 0)) := by
    have := heap_alloc_new (w.alloc (.cells #[.slice A0 nc C0, .slice A1 nf C1] 25)) (.cells #[.slice a0 n0 c0, .slice a1 n1 c1, .slice a2 n2 c2, .slice a3 n3 c3] 44)
    rw [hW2]; simpa using this
  have lA := (Array.getElem?_eq_some_iff.1 bA).1
  have lB := (Array.getElem?_eq_some_iff.1 bB).1
  have hk2 := below_keep hb2
  replace g3 := g3.keep hk2
  have hU0 := hT0 W2 hk2
  have hU1 := hT1 W2 hk2
  have hU2 := hT2 W2 hk2
  clear hT0 hT1 hT2
  have d3 := Int.ofNat_le.2 z0
  have f0 : W2.cell? ⟨w.heap.size + 1, 0, none⟩ = some (.slice a0 n0 c0) := by rw [Lib.cell_of_heap bB]; rfl
  have f1 : W2.cell? ⟨w.heap.size + 1, 1, none⟩ = some (.slice a1 n1 c1) := by rw [Lib.cell_of_heap bB]; rfl
  have f2 : W2.cell? ⟨w.heap.size + 1, 2, none⟩ = some (.slice a2 n2 c2) := by rw [Lib.cell_of_heap bB]; rfl
  have f3 : W2.cell? ⟨w.heap.size + 1, 3, none⟩ = some (.slice a3 n3 c3) := by rw [Lib.cell_of_heap bB]; rfl
  clear d3
  cases r0 with
  | false =>
    have HE : Hid (rr = false) := hid (by rw [HR.out, HL.out]; simp)
    go_enter Tryz.func32, Tryz.ntmps32
    go_wp2_with fail
    rw [← hW2]
    clear hW2
    refine hU0.mono ?_
    rintro e w' ⟨rfl, hw'⟩
    replace hw' := hw'.symm
    subst hw'
    clear hU0
    go_wp2_with (go_at_call 57; first | (refine hU1.mono ?_; rintro e w' ⟨rfl, hw'⟩; replace hw' := hw'.symm; subst hw'; clear hU1) | (refine hU2.mono ?_; rintro e w' ⟨rfl, hw'⟩; replace hw' := hw'.symm; subst hw'; clear hU2))
    go_ret
    exact ⟨by rw [HE.out]; rfl, hb2⟩
  | true =>
  cases r1 with
  | false =>
    have HE : Hid (rr = false) := hid (by rw [HR.out, HL.out]; simp)
    go_enter Tryz.func32, Tryz.ntmps32
    go_wp2_with fail
    rw [← hW2]
    clear hW2
    refine hU0.mono ?_
    rintro e w' ⟨rfl, hw'⟩
    replace hw' := hw'.symm
    subst hw'
    clear hU0
    go_wp2_with (go_at_call 57; first | (refine hU1.mono ?_; rintro e w' ⟨rfl, hw'⟩; replace hw' := hw'.symm; subst hw'; clear hU1) | (refine hU2.mono ?_; rintro e w' ⟨rfl, hw'⟩; replace hw' := hw'.symm; subst hw'; clear hU2))
    go_ret
    exact ⟨by rw [HE.out]; rfl, hb2⟩
  | true =>
  cases r2 with
  | false =>
    have HE : Hid (rr = false) := hid (by rw [HR.out, HL.out]; simp)
    go_enter Tryz.func32, Tryz.ntmps32
    go_wp2_with fail
    rw [← hW2]
    clear hW2
    refine hU0.mono ?_
    rintro e w' ⟨rfl, hw'⟩
    replace hw' := hw'.symm
    subst hw'
    clear hU0
    go_wp2_with (go_at_call 57; first | (refine hU1.mono ?_; rintro e w' ⟨rfl, hw'⟩; replace hw' := hw'.symm; subst hw'; clear hU1) | (refine hU2.mono ?_; rintro e w' ⟨rfl, hw'⟩; replace hw' := hw'.symm; subst hw'; clear hU2))
    go_ret
    exact ⟨by rw [HE.out]; rfl, hb2⟩
  | true =>
  by_cases q3 : (n0 : Int) ≤ 16 - (n2 : Int)
  · by_cases q4 : (n3 : Int) ≤ 256
    · have HE : Hid (rr = r4) := hid (by rw [HR.out, HL.out]; simp [q3, q4])
      clear HR HL
      go_enter Tryz.func32, Tryz.ntmps32
      go_wp2_with fail
      rw [← hW2]
      clear hW2
      refine hU0.mono ?_
      rintro e w' ⟨rfl, hw'⟩
      replace hw' := hw'.symm
      subst hw'
      clear hU0
      go_wp2_with (go_at_call 57; first | (refine hU1.mono ?_; rintro e w' ⟨rfl, hw'⟩; replace hw' := hw'.symm; subst hw'; clear hU1) | (refine hU2.mono ?_; rintro e w' ⟨rfl, hw'⟩; replace hw' := hw'.symm; subst hw'; clear hU2))
      go_loopw [5] (fun i wr => ∃ k : Nat, k ≤ n3 ∧ i = .int .i64 k ∧ Hid (∀ (j : Nat) (h : j < f.code.length), j < k → insOk nc nf (n0 + n2) f.code[j] = true) ∧ Below W2.heap.size W2 wr) (fun i _ => n3 - (intOf i).toNat)
      case atStart => exact ⟨0, Nat.zero_le _, rfl, hid (by omega), Below.refl _ _⟩
      case round =>
        obtain ⟨k, hk, rfl, hr, hbr⟩ := hrel
        have hbw := hb2.trans (hbr.mono hb2.size)
        have hcells : ∀ W, Below W2.heap.size W2 W → (W.cell? ⟨w.heap.size + 1, 0, none⟩ = some (.slice a0 n0 c0) ∧ W.cell? ⟨w.heap.size + 1, 2, none⟩ = some (.slice a2 n2 c2) ∧ W.cell? ⟨w.heap.size + 1, 3, none⟩ = some (.slice a3 n3 c3)) ∧ W.cell? ⟨w.heap.size, 0, none⟩ = some (.slice A0 nc C0) ∧ W.cell? ⟨w.heap.size, 1, none⟩ = some (.slice A1 nf C1) := fun W hW => by
          have eB := (hW.block _ lB).trans bB
          have eA := (hW.block _ lA).trans bA
          exact ⟨⟨by rw [Lib.cell_of_heap eB]; rfl, by rw [Lib.cell_of_heap eB]; rfl, by rw [Lib.cell_of_heap eB]; rfl⟩, by rw [Lib.cell_of_heap eA]; rfl, by rw [Lib.cell_of_heap eA]; rfl⟩
        obtain ⟨⟨k0, k2, k3⟩, k4, k5⟩ := hcells wr hbr
        by_cases hlt : k < n3
        · rcases g3 with hz | ⟨x0, o0, rfl, hc0⟩
          · have := H3.out; rw [hz] at this; simp at this; omega
          have kl : k < f.code.length := by have := H3.out; omega
          obtain ⟨q0, q1⟩ := hc0 k kl
          have HS := hid (HA.out k kl)
          have HT : Hid (insOk nc nf (n0 + n2) f.code[k] = true → ∀ (j : Nat) (h : j < f.code.length), j < k + 1 → insOk nc nf (n0 + n2) f.code[j] = true) := hid fun h j h1 hjk => by
            rcases Nat.lt_or_ge j k with h3 | h3
            · exact hr.out j h1 h3
            · obtain rfl : j = k := by omega
              exact h
          have hCall := hInS f.code[k] wr.drew (by simp) (below_keep hbw.drew)
          generalize f.code[k] = x at q0 q1 HS HT hCall
          obtain ⟨xo, xa⟩ := x
          simp only at q0 q1 hCall
          replace q0 := below_keep hbr _ _ q0
          replace q1 := below_keep hbr _ _ q1
          clear hc0 hInS
          have hsum : IntKind.i64.wrap ((n0 : Int) + (n2 : Int)) = (n0 : Int) + (n2 : Int) := by rw [IntKind.wrap_i64]; omega
          have hcast : ((n0 + n2 : Nat) : Int) = (n0 : Int) + (n2 : Int) := by omega
          rw [hcast] at hCall
          clear hcast
          generalize insOk nc nf (n0 + n2) (xo, xa) = ok at HS HT hCall
          obtain ⟨S, hS⟩ : ∃ S : World → Prop, S = (fun W => W.cell? ⟨w.heap.size + 1, 0, none⟩ = some (.slice a0 n0 c0) ∧ W.cell? ⟨w.heap.size + 1, 2, none⟩ = some (.slice a2 n2 c2) ∧ W.cell? ⟨w.heap.size + 1, 3, none⟩ = some (.slice (some ⟨x0, o0, none⟩) n3 c3) ∧ W.cell? ⟨w.heap.size, 0, none⟩ = some (.slice A0 nc C0) ∧ W.cell? ⟨w.heap.size, 1, none⟩ = some (.slice A1 nf C1) ∧ W.cell? ⟨x0, o0 + k * 2, none⟩ = some (.int .i64 xo) ∧ W.cell? ⟨x0, o0 + k * 2 + 1, none⟩ = some (.int .i64 xa)) := ⟨_, rfl⟩
          have hSk : ∀ W, Below wr.heap.size wr W → S W := fun W hW => by
            rw [hS]
            have hk := below_keep hW
            exact ⟨hk _ _ k0, hk _ _ k2, hk _ _ k3, hk _ _ k4, hk _ _ k5, hk _ _ q0, hk _ _ q1⟩
          rw [hS] at hSk
          clear hS S
          cases ok with
          | false =>
            have HG := hid (HS.out rfl)
            clear HS HT
            go_wp2_with fail
            go_region_held3 (fun W => W.cell? ⟨w.heap.size + 1, 0, none⟩ = some (.slice a0 n0 c0) ∧ W.cell? ⟨w.heap.size + 1, 2, none⟩ = some (.slice a2 n2 c2) ∧ W.cell? ⟨w.heap.size + 1, 3, none⟩ = some (.slice (some ⟨x0, o0, none⟩) n3 c3) ∧ W.cell? ⟨w.heap.size, 0, none⟩ = some (.slice A0 nc C0) ∧ W.cell? ⟨w.heap.size, 1, none⟩ = some (.slice A1 nf C1) ∧ W.cell? ⟨x0, o0 + k * 2, none⟩ = some (.int .i64 xo) ∧ W.cell? ⟨x0, o0 + k * 2 + 1, none⟩ = some (.int .i64 xa)) (first | go_keep | exact hSk _ ((Below.refl _ wr).drew.trans hb5)) (first | (go_at_call 58; refine hCall.mono ?_; rintro e w5 ⟨rfl, hb5⟩))
            have hbw5 := hbw.drew.trans (hb5.mono hbw.drew.size)
            have hbr5 := hbr.drew.trans (hb5.mono hbr.drew.size)
            go_wp2_with fail
            go_ret
            exact ⟨by rw [HE.out, HG.out]; rfl, hbw5⟩
          | true =>
            have HG := hid (HT.out rfl)
            clear HS HT
            go_wp2_with fail
            go_region_held3 (fun W => W.cell? ⟨w.heap.size + 1, 0, none⟩ = some (.slice a0 n0 c0) ∧ W.cell? ⟨w.heap.size + 1, 2, none⟩ = some (.slice a2 n2 c2) ∧ W.cell? ⟨w.heap.size + 1, 3, none⟩ = some (.slice (some ⟨x0, o0, none⟩) n3 c3) ∧ W.cell? ⟨w.heap.size, 0, none⟩ = some (.slice A0 nc C0) ∧ W.cell? ⟨w.heap.size, 1, none⟩ = some (.slice A1 nf C1) ∧ W.cell? ⟨x0, o0 + k * 2, none⟩ = some (.int .i64 xo) ∧ W.cell? ⟨x0, o0 + k * 2 + 1, none⟩ = some (.int .i64 xa)) (first | go_keep | exact hSk _ ((Below.refl _ wr).drew.trans hb5)) (first | (go_at_call 58; refine hCall.mono ?_; rintro e w5 ⟨rfl, hb5⟩))
            have hbw5 := hbw.drew.trans (hb5.mono hbw.drew.size)
            have hbr5 := hbr.drew.trans (hb5.mono hbr.drew.size)
            go_wp2_with fail
            exact ⟨⟨k + 1, by omega, by go_num, HG, hbr5⟩, by simp [intOf]; omega⟩
        · have HF : Hid (rr = true) := hid (by rw [HE.out]; exact HB.out fun j h => hr.out j h (by have := H3.out; omega))
          go_wp2_with fail
          go_ret
          exact ⟨by rw [HF.out]; rfl, hbw⟩
    · have HE : Hid (rr = false) := hid (by rw [HR.out, HL.out]; simp [q4])
      have q4' : (256 : Int) < (n3 : Int) := by omega
      go_enter Tryz.func32, Tryz.ntmps32
      go_wp2_with fail
      rw [← hW2]
      clear hW2
      refine hU0.mono ?_
      rintro e w' ⟨rfl, hw'⟩
      replace hw' := hw'.symm
      subst hw'
      clear hU0
      go_wp2_with (go_at_call 57; first | (refine hU1.mono ?_; rintro e w' ⟨rfl, hw'⟩; replace hw' := hw'.symm; subst hw'; clear hU1) | (refine hU2.mono ?_; rintro e w' ⟨rfl, hw'⟩; replace hw' := hw'.symm; subst hw'; clear hU2))
      go_ret
      exact ⟨by rw [HE.out]; rfl, hb2⟩
  · have HE : Hid (rr = false) := hid (by rw [HR.out, HL.out]; simp [q3])
    have q3' : (16 : Int) - (n2 : Int) < (n0 : Int) := by omega
    go_enter Tryz.func32, Tryz.ntmps32
    go_wp2_with fail
    rw [← hW2]
    clear hW2
    refine hU0.mono ?_
    rintro e w' ⟨rfl, hw'⟩
    replace hw' := hw'.symm
    subst hw'
    clear hU0
    go_wp2_with (go_at_call 57; first | (refine hU1.mono ?_; rintro e w' ⟨rfl, hw'⟩; replace hw' := hw'.symm; subst hw'; clear hU1) | (refine hU2.mono ?_; rintro e w' ⟨rfl, hw'⟩; replace hw' := hw'.symm; subst hw'; clear hU2))
    go_ret
    exact ⟨by rw [HE.out]; rfl, hb2⟩
end Go.Proofs.YtodagpmcmjleaaaGreat
namespace Go.Proofs.YtodagpmcmjleaaaGreat
open Go.RowKit
set_option maxRecDepth 100000 in
set_option maxHeartbeats 2000000 in
theorem rright4_any (s : Scr) (V0 V1 : Value) (w : World) (hs : ScIs w.cell? s V0 V1) (hsf : s.fits) (hI64 : ∀ f ∈ s.funcs, ∀ x ∈ f.code, -9223372036854775808 ≤ x.2 ∧ x.2 ≤ 9223372036854775807) : Calls Tryz.prog 18 #[.agg #[V0, V1]] w fun e w' => e = .returned (.bool s.right) ∧ Below w.heap.size w w' := by
  have hRC : ∀ (f : Fn) v0 v1 v2 v3 (W : World), (∀ a v, w.cell? a = some v → W.cell? a = some v) → FnIs W.cell? f v0 v1 v2 v3 → f.fits → f ∈ s.funcs → Calls Tryz.prog 32 #[.agg #[V0, V1], .agg #[v0, v1, v2, v3]] W fun e w' => e = .returned (.bool (Fn.right s.consts.length s.funcs.length f)) ∧ Below W.heap.size W w' := fun f v0 v1 v2 v3 W hk h h' hm => rrightFunc_any s f V0 V1 v0 v1 v2 v3 W (hs.keep hk) h hsf h' (hI64 f hm)
  clear hI64
  obtain ⟨⟨A0, C0, rfl, h0⟩, ⟨A1, C1, rfl, h1⟩⟩ := hs
  obtain ⟨z0, z1, z2, z3⟩ := hsf
  obtain ⟨nc, hnc⟩ : ∃ n, n = s.consts.length := ⟨_, rfl⟩
  obtain ⟨nf, hnf⟩ : ∃ n, n = s.funcs.length := ⟨_, rfl⟩
  have HR : Hid (s.right = (decide (nc ≤ 32) && decide (1 ≤ nf) && decide (nf ≤ 16) && s.consts.all (fun c => decide (c.length ≤ 256)) && s.funcs.all (Fn.right nc nf))) := hid (by rw [hnc, hnf]; rfl)
  rw [← hnc] at z0 hRC ⊢
  rw [← hnf] at z1 hRC ⊢
  have HC := hid hnc
  have HF := hid hnf
  clear hnc hnf
  obtain ⟨W2, hW2⟩ : ∃ W2, W2 = w.alloc (.cells #[.slice A0 nc C0, .slice A1 nf C1] 25) := ⟨_, rfl⟩
  have hb2 : Below w.heap.size w W2 := by rw [hW2]; exact (Below.refl _ w).alloc (Nat.le_refl _) _
  have bA : W2.heap[w.heap.size]? = some (.cells #[.slice A0 nc C0, .slice A1 nf C1] 25 (0, 0)) := by rw [hW2]; exact heap_alloc_new w _
  have lA := (Array.getElem?_eq_some_iff.1 bA).1
  have pA0 : W2.cell? ⟨w.heap.size, 0, none⟩ = some (.slice A0 nc C0) := by rw [Lib.cell_of_heap bA]; rfl
  have pA1 : W2.cell? ⟨w.heap.size, 1, none⟩ = some (.slice A1 nf C1) := by rw [Lib.cell_of_heap bA]; rfl
  replace h0 := h0.keep (below_keep hb2)
  replace h1 := h1.keep (below_keep hb2)
  by_cases d0 : nc ≤ 32
  · by_cases d1 : 1 ≤ nf
    · by_cases d2 : nf ≤ 16
      · have HR' : Hid (s.right = (s.consts.all (fun c => decide (c.length ≤ 256)) && s.funcs.all (Fn.right nc nf))) := hid (by rw [HR.out]; simp [d0, d1, d2])
        clear HR
        go_enter Tryz.func18, Tryz.ntmps18
        go_wp2_with fail
        rw [← hW2]
        clear hW2
        go_loopw [3] (fun i wr => ∃ k : Nat, k ≤ nc ∧ i = .int .i64 k ∧ Hid (∀ (j : Nat) (h : j < s.consts.length), j < k → decide (s.consts[j].length ≤ 256) = true) ∧ wr = W2) (fun i _ => nc - (intOf i).toNat)
        case atStart => exact ⟨0, Nat.zero_le _, rfl, hid (by omega), rfl⟩
        case round =>
          obtain ⟨k, hk, rfl, hr, hw⟩ := hrel
          replace hw := hw.symm
          subst hw
          by_cases hlt : k < nc
          · rcases h0 with hz | ⟨x0, o0, rfl, hc0⟩
            · have := HC.out; rw [hz] at this; simp at this; omega
            have kl : k < s.consts.length := by have := HC.out; omega
            have q0 := hc0 k kl
            have hzz := z3 s.consts[k] (by simp)
            have HS : Hid (decide (s.consts[k].length ≤ 256) = false → s.right = false) := hid fun h => by rw [HR'.out, all_stop (p := fun (c : List UInt8) => decide (c.length ≤ 256)) kl h]; rfl
            have HT : Hid (decide (s.consts[k].length ≤ 256) = true → ∀ (j : Nat) (h : j < s.consts.length), j < k + 1 → decide (s.consts[j].length ≤ 256) = true) := hid fun h j h1 hjk => by
              rcases Nat.lt_or_ge j k with h3 | h3
              · exact hr.out j h1 h3
              · obtain rfl : j = k := by omega
                exact h
            generalize s.consts[k] = x at q0 HS HT hzz
            clear hc0
            by_cases hx : x.length ≤ 256
            · have HE := hid (HT.out (decide_eq_true hx))
              clear HS HT
              go_wp2_with fail
              exact ⟨⟨k + 1, by omega, by go_num, HE, by first | rfl | trivial⟩, by simp [intOf]; omega⟩
            · have hx' : 256 < x.length := by omega
              have HE := hid (HS.out (decide_eq_false hx))
              clear HS HT
              go_wp2_with fail
              go_ret
              exact ⟨by rw [HE.out]; rfl, hb2⟩
          · have HA : Hid (s.right = s.funcs.all (Fn.right nc nf)) := hid (by
              have : s.consts.all (fun c => decide (c.length ≤ 256)) = true := List.all_eq_true.2 fun z hz => by
                obtain ⟨i, hi, rfl⟩ := List.getElem_of_mem hz
                exact hr.out i hi (by have := HC.out; omega)
              rw [HR'.out, this]
              rfl)
            clear hr HR'
            go_wp2_with fail
            go_loopw [4] (fun i w5 => ∃ k : Nat, k ≤ nf ∧ i = .int .i64 k ∧ Hid (∀ (j : Nat) (h : j < s.funcs.length), j < k → Fn.right nc nf s.funcs[j] = true) ∧ Below W2.heap.size W2 w5) (fun i _ => nf - (intOf i).toNat)
            case atStart => exact ⟨0, Nat.zero_le _, rfl, hid (by omega), Below.refl _ _⟩
            case round =>
              obtain ⟨k, hk, rfl, hr, hbr⟩ := hrel
              have hbw := hb2.trans (hbr.mono hb2.size)
              have eA := (hbr.block _ lA).trans bA
              have k4 : wr.cell? ⟨w.heap.size, 0, none⟩ = some (.slice A0 nc C0) := by rw [Lib.cell_of_heap eA]; rfl
              have k5 : wr.cell? ⟨w.heap.size, 1, none⟩ = some (.slice A1 nf C1) := by rw [Lib.cell_of_heap eA]; rfl
              clear eA
              by_cases hlt : k < nf
              · rcases h1 with hz | ⟨x0, o0, rfl, hc0⟩
                · have := HF.out; rw [hz] at this; simp at this; omega
                have kl : k < s.funcs.length := by have := HF.out; omega
                obtain ⟨v0, v1, v2, v3, q0, q1, q2, q3, hfn⟩ := hc0 k kl
                have ff := z2 s.funcs[k] (by simp)
                have HS : Hid (Fn.right nc nf s.funcs[k] = false → s.right = false) := hid fun h => by rw [HA.out, all_stop kl h]
                have HT : Hid (Fn.right nc nf s.funcs[k] = true → ∀ (j : Nat) (h : j < s.funcs.length), j < k + 1 → Fn.right nc nf s.funcs[j] = true) := hid fun h j h1 hjk => by
                  rcases Nat.lt_or_ge j k with h3 | h3
                  · exact hr.out j h1 h3
                  · obtain rfl : j = k := by omega
                    exact h
                have hm : s.funcs[k] ∈ s.funcs := by simp
                generalize s.funcs[k] = f at hfn HS HT ff hm
                have hkp := below_keep hbr
                replace q0 := hkp _ _ q0
                replace q1 := hkp _ _ q1
                replace q2 := hkp _ _ q2
                replace q3 := hkp _ _ q3
                replace hfn := hfn.keep hkp
                clear hc0 hkp
                have hCall := hRC f v0 v1 v2 v3 wr.drew (below_keep hbw.drew) hfn ff hm
                obtain ⟨⟨fa0, fc0, rfl, F0⟩, ⟨fa1, fc1, rfl, F1⟩, ⟨fa2, fc2, rfl, F2⟩, ⟨fa3, fc3, rfl, F3⟩⟩ := hfn
                clear hRC hm F0 F1 F2 F3
                generalize Fn.right nc nf f = ok at hCall HS HT
                generalize f.p.length = n0 at *
                generalize f.r.length = n1 at *
                generalize f.l.length = n2 at *
                generalize f.code.length = n3 at *
                obtain ⟨S, hS⟩ : ∃ S : World → Prop, S = (fun W => W.cell? ⟨w.heap.size, 0, none⟩ = some (.slice A0 nc C0) ∧ W.cell? ⟨w.heap.size, 1, none⟩ = some (.slice (some ⟨x0, o0, none⟩) nf C1) ∧ W.cell? ⟨x0, o0 + k * 4, none⟩ = some (.slice fa0 n0 fc0) ∧ W.cell? ⟨x0, o0 + k * 4 + 1, none⟩ = some (.slice fa1 n1 fc1) ∧ W.cell? ⟨x0, o0 + k * 4 + 2, none⟩ = some (.slice fa2 n2 fc2) ∧ W.cell? ⟨x0, o0 + k * 4 + 3, none⟩ = some (.slice fa3 n3 fc3)) := ⟨_, rfl⟩
                have hSk : ∀ W, Below wr.heap.size wr W → S W := fun W hW => by
                  rw [hS]
                  have hk := below_keep hW
                  exact ⟨hk _ _ k4, hk _ _ k5, hk _ _ q0, hk _ _ q1, hk _ _ q2, hk _ _ q3⟩
                rw [hS] at hSk
                clear hS S
                cases ok with
                | false =>
                  have HE := hid (HS.out rfl)
                  clear HS HT
                  go_wp2_with fail
                  go_region_held3 (fun W => W.cell? ⟨w.heap.size, 0, none⟩ = some (.slice A0 nc C0) ∧ W.cell? ⟨w.heap.size, 1, none⟩ = some (.slice (some ⟨x0, o0, none⟩) nf C1) ∧ W.cell? ⟨x0, o0 + k * 4, none⟩ = some (.slice fa0 n0 fc0) ∧ W.cell? ⟨x0, o0 + k * 4 + 1, none⟩ = some (.slice fa1 n1 fc1) ∧ W.cell? ⟨x0, o0 + k * 4 + 2, none⟩ = some (.slice fa2 n2 fc2) ∧ W.cell? ⟨x0, o0 + k * 4 + 3, none⟩ = some (.slice fa3 n3 fc3)) (first | go_keep | exact hSk _ ((Below.refl _ wr).drew.trans hb5)) (first | (go_at_call 32; refine hCall.mono ?_; rintro e w5 ⟨rfl, hb5⟩))
                  have hbw5 := hbw.drew.trans (hb5.mono hbw.drew.size)
                  go_wp2_with fail
                  go_ret
                  exact ⟨by rw [HE.out]; rfl, hbw5⟩
                | true =>
                  have HE := hid (HT.out rfl)
                  clear HS HT
                  go_wp2_with fail
                  go_region_held3 (fun W => W.cell? ⟨w.heap.size, 0, none⟩ = some (.slice A0 nc C0) ∧ W.cell? ⟨w.heap.size, 1, none⟩ = some (.slice (some ⟨x0, o0, none⟩) nf C1) ∧ W.cell? ⟨x0, o0 + k * 4, none⟩ = some (.slice fa0 n0 fc0) ∧ W.cell? ⟨x0, o0 + k * 4 + 1, none⟩ = some (.slice fa1 n1 fc1) ∧ W.cell? ⟨x0, o0 + k * 4 + 2, none⟩ = some (.slice fa2 n2 fc2) ∧ W.cell? ⟨x0, o0 + k * 4 + 3, none⟩ = some (.slice fa3 n3 fc3)) (first | go_keep | exact hSk _ ((Below.refl _ wr).drew.trans hb5)) (first | (go_at_call 32; refine hCall.mono ?_; rintro e w5 ⟨rfl, hb5⟩))
                  have hbr5 := hbr.drew.trans (hb5.mono hbr.drew.size)
                  go_wp2_with fail
                  exact ⟨⟨k + 1, by omega, by go_num, HE, hbr5⟩, by simp [intOf]; omega⟩
              · have HE : Hid (s.right = true) := hid (by
                  rw [HA.out]
                  exact List.all_eq_true.2 fun z hz => by
                    obtain ⟨i, hi, rfl⟩ := List.getElem_of_mem hz
                    exact hr.out i hi (by have := HF.out; omega))
                go_wp2_with fail
                go_ret
                exact ⟨by rw [HE.out]; rfl, hbw⟩
      · have HE : Hid (s.right = false) := hid (by rw [HR.out]; simp [d2])
        go_enter Tryz.func18, Tryz.ntmps18
        go_wp2_with fail
        go_ret
        exact ⟨by rw [HE.out]; rfl, by rw [← hW2]; exact hb2⟩
    · have HE : Hid (s.right = false) := hid (by rw [HR.out]; simp [d1])
      have d1' : (nf : Int) < 1 := by omega
      go_enter Tryz.func18, Tryz.ntmps18
      go_wp2_with fail
      go_ret
      exact ⟨by rw [HE.out]; rfl, by rw [← hW2]; exact hb2⟩
  · have HE : Hid (s.right = false) := hid (by rw [HR.out]; simp [d0])
    go_enter Tryz.func18, Tryz.ntmps18
    go_wp2_with fail
    go_ret
    exact ⟨by rw [HE.out]; rfl, by rw [← hW2]; exact hb2⟩
end Go.Proofs.YtodagpmcmjleaaaGreat
