/- The law CodeRights. -/
import Derived.Test.YtpaikmnhafpiaaaCK
import Derived.Test.YtpaikmnhafpiaaaCL
import Derived.Test.YtpaikmnhafpiaaaCTg
namespace Go.Proofs.Ytpaikmnhafpiaaa
open Go.RowKit
set_option maxRecDepth 100000 in
set_option maxHeartbeats 1000000 in
theorem rights_walk (s : Scr) (V0 V1 : Value) (w : World) (hs : ScIs w.cell? s V0 V1) (hsf : s.fits) (hI64 : ∀ f ∈ s.funcs, ∀ x ∈ f.code, -9223372036854775808 ≤ x.2 ∧ x.2 ≤ 9223372036854775807) (hpl : ∀ f ∈ s.funcs, f.p.length + f.l.length ≤ 17592186044416) : Calls Try.prog 3 #[.agg #[V0, V1]] w fun e w' => e = .returned (.bool true) ∧ Below w.heap.size w w' := by
  have hCl := fun W hk => rclone_any s V0 V1 W (hs.keep hk) hsf
  have hs0 := hs
  obtain ⟨⟨A0, C0, rfl, _⟩, ⟨A1, C1, rfl, h1⟩⟩ := hs
  obtain ⟨nc, hnc⟩ : ∃ n, n = s.consts.length := ⟨_, rfl⟩
  obtain ⟨nf, hnf⟩ : ∃ n, n = s.funcs.length := ⟨_, rfl⟩
  rw [← hnc, ← hnf] at hCl hs0 ⊢
  have HC := hid hnc
  have HF := hid hnf
  clear hnc hnf
  have z1 : nf ≤ 1466015503701 := by rw [HF.out]; exact hsf.2.1
  obtain ⟨W2, hW2⟩ : ∃ W2, W2 = w.alloc (.cells #[.slice A0 nc C0, .slice A1 nf C1] 25) := ⟨_, rfl⟩
  have hb2 : Below w.heap.size w W2 := by rw [hW2]; exact (Below.refl _ w).alloc (Nat.le_refl _) _
  have bA : W2.heap[w.heap.size]? = some (.cells #[.slice A0 nc C0, .slice A1 nf C1] 25 (0, 0)) := by rw [hW2]; exact heap_alloc_new w _
  have hC2 := hCl W2 (below_keep hb2)
  clear hCl
  go_enter Try.func3, Try.ntmps3
  go_wp2_with fail
  rw [← hW2]
  clear hW2
  refine hC2.mono ?_
  rintro e w3 ⟨u0, u1, rfl, hX, hb3⟩
  clear hC2
  have hX0 := hX
  obtain ⟨⟨A2, C2, rfl, _⟩, ⟨A3, C3, rfl, g1⟩⟩ := hX
  rw [← HC.out, ← HF.out] at hX0 ⊢
  obtain ⟨W4, hW4⟩ : ∃ W4, W4 = w3.alloc (.cells #[.slice A2 nc C2, .slice A3 nf C3] 25) := ⟨_, rfl⟩
  have hb34 : Below w3.heap.size w3 W4 := by rw [hW4]; exact (Below.refl _ w3).alloc (Nat.le_refl _) _
  have bX : W4.heap[w3.heap.size]? = some (.cells #[.slice A2 nc C2, .slice A3 nf C3] 25 (0, 0)) := by rw [hW4]; exact heap_alloc_new w3 _
  have lX := (Array.getElem?_eq_some_iff.1 bX).1
  have hb24 := hb3.trans (hb34.mono hb3.size)
  have hbw4 := hb2.trans (hb24.mono hb2.size)
  have bA4 := (hb24.block _ (Array.getElem?_eq_some_iff.1 bA).1).trans bA
  have lA := (Array.getElem?_eq_some_iff.1 bA4).1
  have hcells : ∀ W, Below W4.heap.size W4 W → (W.cell? ⟨w.heap.size, 0, none⟩ = some (.slice A0 nc C0) ∧ W.cell? ⟨w.heap.size, 1, none⟩ = some (.slice A1 nf C1)) ∧ W.cell? ⟨w3.heap.size, 0, none⟩ = some (.slice A2 nc C2) ∧ W.cell? ⟨w3.heap.size, 1, none⟩ = some (.slice A3 nf C3) := fun W hW => by
    have e1 := (hW.block _ lA).trans bA4
    have e2 := (hW.block _ lX).trans bX
    exact ⟨⟨by rw [Lib.cell_of_heap e1]; rfl, by rw [Lib.cell_of_heap e1]; rfl⟩, by rw [Lib.cell_of_heap e2]; rfl, by rw [Lib.cell_of_heap e2]; rfl⟩
  replace h1 := h1.keep (below_keep hbw4)
  replace g1 := g1.keep (below_keep hb34)
  have hS4 := hs0.keep (below_keep hbw4)
  have hX4 := hX0.keep (below_keep hb34)
  go_wp2_with fail
  rw [← hW4]
  clear hW4 hs0 hX0
  go_loopw [4] (fun i wr => ∃ k : Nat, k ≤ nf ∧ i = .int .i64 k ∧ Below W4.heap.size W4 wr) (fun i _ => nf - (intOf i).toNat)
  case atStart => exact ⟨0, Nat.zero_le _, rfl, Below.refl _ _⟩
  case round =>
    obtain ⟨k, hk, rfl, hbr⟩ := hrel
    obtain ⟨⟨p0, p1⟩, p2, p3⟩ := hcells wr hbr
    by_cases hlt : k < nf
    · have kl : k < s.funcs.length := by have := HF.out; omega
      rcases h1.keep (below_keep hbr) with hz | ⟨x0, o0, rfl, hc0⟩
      · have := HF.out; rw [hz] at this; simp at this; omega
      rcases g1.keep (below_keep hbr) with hz | ⟨x1, o1, rfl, hc1⟩
      · have := HF.out; rw [hz] at this; simp at this; omega
      obtain ⟨v0, v1, v2, v3, y0, y1, y2, y3, hF⟩ := hc0 k kl
      obtain ⟨u0, u1, u2, u3, z0, z1', z2, z3, hG⟩ := hc1 k kl
      have ff := hsf.2.2.1 s.funcs[k] (by simp)
      have fp := hpl s.funcs[k] (by simp)
      generalize s.funcs[k] = f at hF hG ff fp
      have hs1 := slots_any f u0 u1 u2 u3 wr.drew (hG.keep fun a v h => by simpa using h) ff fp
      have hs2 : ∀ W, Below wr.heap.size wr W → Calls Try.prog 12 #[.agg #[v0, v1, v2, v3]] W (RowEnd W.heap.size (f.p ++ f.l) W) := fun W hW => rslots_any f v0 v1 v2 v3 W (hF.keep (below_keep hW)) ff fp
      clear hc0 hc1
      obtain ⟨⟨fa0, fc0, rfl, _⟩, ⟨fa1, fc1, rfl, _⟩, ⟨fa2, fc2, rfl, _⟩, ⟨fa3, fc3, rfl, _⟩⟩ := hF
      obtain ⟨⟨ga0, gc0, rfl, _⟩, ⟨ga1, gc1, rfl, _⟩, ⟨ga2, gc2, rfl, _⟩, ⟨ga3, gc3, rfl, _⟩⟩ := hG
      obtain ⟨N, hN⟩ : ∃ N, N = f.p ++ f.l := ⟨_, rfl⟩
      have hNl : N.length ≤ 17592186044416 := by rw [hN, List.length_append]; exact fp
      rw [← hN] at hs1 hs2
      clear hN ff fp
      generalize f.p.length = n0 at *
      generalize f.r.length = n1 at *
      generalize f.l.length = n2 at *
      generalize f.code.length = n3 at *
      obtain ⟨S, hS⟩ : ∃ S : World → Prop, S = (fun W => W.cell? ⟨w.heap.size, 1, none⟩ = some (.slice (some ⟨x0, o0, none⟩) nf C1) ∧ W.cell? ⟨w3.heap.size, 1, none⟩ = some (.slice (some ⟨x1, o1, none⟩) nf C3) ∧ W.cell? ⟨x0, o0 + k * 4, none⟩ = some (.slice fa0 n0 fc0) ∧ W.cell? ⟨x0, o0 + k * 4 + 1, none⟩ = some (.slice fa1 n1 fc1) ∧ W.cell? ⟨x0, o0 + k * 4 + 2, none⟩ = some (.slice fa2 n2 fc2) ∧ W.cell? ⟨x0, o0 + k * 4 + 3, none⟩ = some (.slice fa3 n3 fc3) ∧ W.cell? ⟨x1, o1 + k * 4, none⟩ = some (.slice ga0 n0 gc0) ∧ W.cell? ⟨x1, o1 + k * 4 + 1, none⟩ = some (.slice ga1 n1 gc1) ∧ W.cell? ⟨x1, o1 + k * 4 + 2, none⟩ = some (.slice ga2 n2 gc2) ∧ W.cell? ⟨x1, o1 + k * 4 + 3, none⟩ = some (.slice ga3 n3 gc3)) := ⟨_, rfl⟩
      have hSk : ∀ W, Below wr.heap.size wr W → S W := fun W hW => by
        rw [hS]
        have hk := below_keep hW
        exact ⟨hk _ _ p1, hk _ _ p3, hk _ _ y0, hk _ _ y1, hk _ _ y2, hk _ _ y3, hk _ _ z0, hk _ _ z1', hk _ _ z2, hk _ _ z3⟩
      rw [hS] at hSk
      clear hS S
      go_wp2_with fail
      go_region_held3 (fun W => W.cell? ⟨w.heap.size, 1, none⟩ = some (.slice (some ⟨x0, o0, none⟩) nf C1) ∧ W.cell? ⟨w3.heap.size, 1, none⟩ = some (.slice (some ⟨x1, o1, none⟩) nf C3) ∧ W.cell? ⟨x0, o0 + k * 4, none⟩ = some (.slice fa0 n0 fc0) ∧ W.cell? ⟨x0, o0 + k * 4 + 1, none⟩ = some (.slice fa1 n1 fc1) ∧ W.cell? ⟨x0, o0 + k * 4 + 2, none⟩ = some (.slice fa2 n2 fc2) ∧ W.cell? ⟨x0, o0 + k * 4 + 3, none⟩ = some (.slice fa3 n3 fc3) ∧ W.cell? ⟨x1, o1 + k * 4, none⟩ = some (.slice ga0 n0 gc0) ∧ W.cell? ⟨x1, o1 + k * 4 + 1, none⟩ = some (.slice ga1 n1 gc1) ∧ W.cell? ⟨x1, o1 + k * 4 + 2, none⟩ = some (.slice ga2 n2 gc2) ∧ W.cell? ⟨x1, o1 + k * 4 + 3, none⟩ = some (.slice ga3 n3 gc3)) (first | go_keep | exact hSk _ hb7 | exact hSk _ hb6 | exact hSk _ hb5) (first | (go_at_call 11; refine hs1.mono ?_; rintro e w5 ⟨⟨r5, rfl, row5⟩, hb5'⟩; clear hs1; have hb5 := (Below.refl _ wr).drew.trans hb5'; have hs3 := hs2 w5 hb5; clear hs2) | (go_at_call 12; refine hs3.mono ?_; rintro e w6 ⟨⟨r6, rfl, row6⟩, hb6'⟩; clear hs3; have hb6 := hb5.trans (hb6'.mono hb5.size); obtain ⟨_, a5, c5, rfl, _, N5⟩ := ns_of_row row5 (C := w6.cell?) (fun a x _ h => below_keep hb6' a x h); obtain ⟨_, a6, c6, rfl, _, N6⟩ := ns_of_row row6 (C := w6.cell?) (fun a x _ h => h); have hLi := lints_any a5 a6 c5 c6 N.length N.length N N rfl rfl w6 N5 N6 hNl hNl; rw [decide_eq_true rfl] at hLi) | (go_at_call 10; refine hLi.mono ?_; rintro e w' ⟨rfl, m7, rfl⟩; have hb7 := below_draws2 hb6 m7))
      go_wp2_with fail
      exact ⟨⟨k + 1, by omega, by go_num, hbr.trans (hb7.mono hbr.size)⟩, by simp [intOf]; omega⟩
    · have hR1 := right4_any s _ _ wr.drew (hX4.keep fun a v h => by simpa using below_keep hbr a v h) hsf
      have hR2 : ∀ W, Below wr.heap.size wr W → Calls Try.prog 14 #[.agg #[.slice A0 nc C0, .slice A1 nf C1]] W fun e w' => e = .returned (.bool s.right) ∧ Below W.heap.size W w' := fun W hW => rright4_any s _ _ W (hS4.keep fun a v h => below_keep hW _ _ (below_keep hbr a v h)) hsf hI64
      have hE2 : ∀ W, Below wr.heap.size wr W → Calls Try.prog 15 #[.agg #[.slice A2 nc C2, .slice A3 nf C3], .agg #[.slice A0 nc C0, .slice A1 nf C1]] W fun e w' => e = .returned (.bool true) ∧ Below W.heap.size W w' := fun W hW => by
        have := rsame_any s s _ _ _ _ W (hX4.keep fun a v h => below_keep hW _ _ (below_keep hbr a v h)) (hS4.keep fun a v h => below_keep hW _ _ (below_keep hbr a v h)) hsf hsf
        rw [decide_eq_true rfl] at this
        exact this
      have hKn := knows4_any
      generalize s.right = rr at hR1 hR2
      obtain ⟨S, hS⟩ : ∃ S : World → Prop, S = (fun W => W.cell? ⟨w.heap.size, 0, none⟩ = some (.slice A0 nc C0) ∧ W.cell? ⟨w.heap.size, 1, none⟩ = some (.slice A1 nf C1) ∧ W.cell? ⟨w3.heap.size, 0, none⟩ = some (.slice A2 nc C2) ∧ W.cell? ⟨w3.heap.size, 1, none⟩ = some (.slice A3 nf C3)) := ⟨_, rfl⟩
      have hSk : ∀ W, Below wr.heap.size wr W → S W := fun W hW => by
        rw [hS]
        have hk := below_keep hW
        exact ⟨hk _ _ p0, hk _ _ p1, hk _ _ p2, hk _ _ p3⟩
      rw [hS] at hSk
      clear hS S
      have q : (rr == rr) = true := by simp
      go_wp2_with fail
      go_region_held3 (fun W => W.cell? ⟨w.heap.size, 0, none⟩ = some (.slice A0 nc C0) ∧ W.cell? ⟨w.heap.size, 1, none⟩ = some (.slice A1 nf C1) ∧ W.cell? ⟨w3.heap.size, 0, none⟩ = some (.slice A2 nc C2) ∧ W.cell? ⟨w3.heap.size, 1, none⟩ = some (.slice A3 nf C3)) (first | go_keep | exact hSk _ hb8 | exact hSk _ hb7 | exact hSk _ hb6 | exact hSk _ hb5) (first | (go_at_call 13; refine hR1.mono ?_; rintro e w5 ⟨rfl, hb5'⟩; clear hR1; have hb5 := (Below.refl _ wr).drew.trans hb5'; have hR3 := hR2 w5 hb5; clear hR2) | (go_at_call 14; refine hR3.mono ?_; rintro e w6 ⟨rfl, hb6'⟩; clear hR3; have hb6 := hb5.trans (hb6'.mono hb5.size); have hE3 := hE2 w6 hb6; clear hE2) | (go_at_call 15; refine hE3.mono ?_; rintro e w7 ⟨rfl, hb7'⟩; clear hE3; have hb7 := hb6.trans (hb7'.mono hb6.size)) | (go_at_call 16; refine (hKn _).mono ?_; rintro e w8 ⟨rfl, hb8'⟩; clear hKn; have hb8 := hb7.trans (hb8'.mono hb7.size)))
      go_wp2_with fail
      go_ret
      exact ⟨rfl, hbw4.trans ((hbr.trans (hb8.mono hbr.size)).mono hbw4.size)⟩
end Go.Proofs.Ytpaikmnhafpiaaa
