/- The law AsmHeads. -/
import Derived.Test.YtbjipcpoiiegkaaGreatDoorBF
import Derived.Test.YtbjipcpoiiegkaaGreatDoorBD
import Derived.Test.YtbjipcpoiiegkaaGreatDoorAJ
import Derived.Test.YtbjipcpoiiegkaaGreatDoorOT
import Derived.Deep.RegionHeld3
namespace Go.Proofs.YtbjipcpoiiegkaaGreatDoor
open Go.RowKit Go.Shelf
/-- A script of one function. -/
theorem sc_one {W : World} {B : Nat} {f : Fn} {a b l c : Value} (hf : FnIs W.cell? f a b l c) (hb : W.heap[B]? = some (.cells #[a, b, l, c] 32 (0, 0))) : ScIs W.cell? ⟨[], [f]⟩ (.slice none 0 0) (.slice (some ⟨B, 0, none⟩) 1 1) := by
  refine ⟨⟨none, 0, rfl, .inl rfl⟩, ⟨_, 1, rfl, .inr ⟨B, 0, rfl, fun j hj => ?_⟩⟩⟩
  obtain rfl : j = 0 := by simp at hj; omega
  obtain ⟨⟨h0, h1, h2, h3⟩, _⟩ := cells4h hb
  exact ⟨a, b, l, c, h0, h1, h2, h3, hf⟩
theorem fn_is {W : World} {B : Nat} {f : Fn} {a b l : Value} (h : HeadRows B f a b l W) (hc : f.code = []) : FnIs W.cell? f a b l (.slice none 0 0) := by
  have := (fOwn_head h hc (Nat.le_refl _)).is (B := B) (Nat.le_refl _)
  exact this.keep upF_all
set_option maxRecDepth 100000 in
set_option maxHeartbeats 2000000 in
theorem heads_walk (f : Fn) (v0 v1 v2 v3 : Value) (t : List UInt8) (w : World) (hf : FnIs w.cell? f v0 v1 v2 v3) (hb : f.p.length ≤ 1048576 ∧ f.r.length ≤ 1048576 ∧ f.l.length ≤ 1048576) (ht : t.length ≤ 1048576) (hM : Marks w) (hL : Laid w) :
    Calls Tryz.prog 4 #[.agg #[v0, v1, v2, v3], .string ⟨t.toArray⟩] w fun e w' => e = .returned (.bool true) ∧ Below w.heap.size w w' := by
  have hHd := fun W (hW : Below w.heap.size w W) => head_any f v0 v1 v2 v3 W (hM.keep hW) (hf.keep (below_keep hW)) hb
  have hRh := fun W (hW : Below w.heap.size w W) => rhead_any f v0 v1 v2 v3 W (hf.keep (below_keep hW)) hb
  obtain ⟨⟨a0, c0, rfl, _⟩, ⟨a1, c1, rfl, _⟩, ⟨a2, c2, rfl, _⟩, ⟨a3, c3, rfl, _⟩⟩ := hf
  have hb2 := (Below.refl _ w).alloc (Nat.le_refl _) (.cells #[.slice a0 f.p.length c0, .slice a1 f.r.length c1, .slice a2 f.l.length c2, .slice a3 f.code.length c3] 32)
  have bA := heap_alloc_new w (.cells #[.slice a0 f.p.length c0, .slice a1 f.r.length c1, .slice a2 f.l.length c2, .slice a3 f.code.length c3] 32)
  have hRd := readHead_any t _ ht (hM.keep hb2)
  have hRr := fun W => rreadHead_any t W ht
  have hK := fun W (hW : Below w.heap.size w W) => knows5_any W (hM.keep hW) (hL.keep hW)
  generalize headS f = hd at hHd hRh
  cases hr : headOf (pieces t) with
  | none =>
    rw [hr] at hRd hRr
    go_enter Tryz.func4, Tryz.ntmps4
    go_wp2_with (first
      | (go_at_call 13; refine hRd.mono ?_; rintro e w3 ⟨x0, x1, x2, rfl, hx, y3⟩; clear hRd; obtain ⟨q0, m0, d0, rfl⟩ := row_slice hx.1; obtain ⟨q1, m1, d1, rfl⟩ := row_slice hx.2.1; obtain ⟨q2, m2, d2, rfl⟩ := row_slice hx.2.2; have hal := y3.alloc y3.size (.cells #[.slice q0 m0 d0, .slice q1 m1 d1, .slice q2 m2 d2, .slice none 0 0] 32))
      | (go_at_call 14; refine (hRr _).mono ?_; rintro e w4 ⟨z0, n0, g0, z1, n1, g1, z2, n2, g2, rfl, hz, y4⟩; clear hRr; have x4 := hal.trans (y4.mono hal.size); have hal4 := x4.alloc x4.size (.cells #[.slice z0 n0 g0, .slice z1 n1 g1, .slice z2 n2 g2, .slice none 0 0] 32))
      | fail)
    have hEnd := hal4
    obtain ⟨WR, hWR⟩ : ∃ WR, WR = w4.alloc (.cells #[.slice z0 n0 g0, .slice z1 n1 g1, .slice z2 n2 g2, .slice none 0 0] 32) := ⟨_, rfl⟩
    rw [← hWR] at hEnd ⊢
    clear hWR
    have hbR := hb2.trans (hEnd.mono hb2.size)
    obtain ⟨⟨p0, p1, p2, p3⟩, _⟩ := cells4h ((hEnd.block _ (lt_of_block bA)).trans bA)
    obtain ⟨S, hS⟩ : ∃ S : World → Prop, S = (fun W => W.cell? ⟨w.heap.size, 0, none⟩ = some (.slice a0 f.p.length c0) ∧ W.cell? ⟨w.heap.size, 1, none⟩ = some (.slice a1 f.r.length c1) ∧ W.cell? ⟨w.heap.size, 2, none⟩ = some (.slice a2 f.l.length c2) ∧ W.cell? ⟨w.heap.size, 3, none⟩ = some (.slice a3 f.code.length c3)) := ⟨_, rfl⟩
    have hSk : ∀ W, Below WR.heap.size WR W → S W := fun W hW => by
      rw [hS]
      have hk := below_keep hW
      exact ⟨hk _ _ p0, hk _ _ p1, hk _ _ p2, hk _ _ p3⟩
    rw [hS] at hSk
    clear hS S
    have hHd := hHd WR.drew hbR.drew
    go_region_held3 (fun W => W.cell? ⟨w.heap.size, 0, none⟩ = some (.slice a0 f.p.length c0) ∧ W.cell? ⟨w.heap.size, 1, none⟩ = some (.slice a1 f.r.length c1) ∧ W.cell? ⟨w.heap.size, 2, none⟩ = some (.slice a2 f.l.length c2) ∧ W.cell? ⟨w.heap.size, 3, none⟩ = some (.slice a3 f.code.length c3)) (first | go_keep | exact hSk _ hb7 | exact hSk _ hb6 | exact hSk _ hb5) (first
      | (go_at_call 16; refine hHd.mono ?_; rintro e w5 ⟨rfl, hb5'⟩; clear hHd; have hb5 := (Below.refl _ WR).drew.trans hb5')
      | (go_at_call 17; refine (hRh _ (hbR.trans (hb5.mono hbR.size))).mono ?_; rintro e w6 ⟨rfl, hb6'⟩; clear hRh; have hb6 := hb5.trans (hb6'.mono hb5.size); have hK6 := hK w6 (hbR.trans (hb6.mono hbR.size)))
      | (go_at_call 12; refine hK6.mono ?_; rintro e w7 ⟨rfl, hb7'⟩; clear hK6; have hb7 := hb6.trans (hb7'.mono hb6.size)))
    go_wp2_with fail
    go_ret
    exact ⟨rfl, hbR.trans (hb7.mono hbR.size)⟩
  | some g =>
    rw [hr] at hRd hRr
    obtain ⟨s1, s2, s3, hcode⟩ := headOf_small hr
    have hfit : Scr.fits ⟨[], [g]⟩ := ⟨by simp, by simp, fun f hf => by
      obtain rfl : f = g := by simpa using hf
      exact ⟨by omega, by omega, by omega, by rw [hcode]; simp⟩, fun x hx => (by cases hx)⟩
    go_enter Tryz.func4, Tryz.ntmps4
    go_wp2_with (first
      | (go_at_call 13; refine hRd.mono ?_; rintro e w3 ⟨x0, x1, x2, rfl, hx, y3⟩; clear hRd; obtain ⟨q0, m0, d0, rfl⟩ := row_slice hx.1; obtain ⟨q1, m1, d1, rfl⟩ := row_slice hx.2.1; obtain ⟨q2, m2, d2, rfl⟩ := row_slice hx.2.2; have hal := y3.alloc y3.size (.cells #[.slice q0 m0 d0, .slice q1 m1 d1, .slice q2 m2 d2, .slice none 0 0] 32); have b5 := heap_alloc_new w3 (.cells #[.slice q0 m0 d0, .slice q1 m1 d1, .slice q2 m2 d2, .slice none 0 0] 32))
      | (go_at_call 14; refine (hRr _).mono ?_; rintro e w4 ⟨z0, n0, g0, z1, n1, g1, z2, n2, g2, rfl, hz, y4⟩; clear hRr; have x4 := hal.trans (y4.mono hal.size); have hal4 := x4.alloc x4.size (.cells #[.slice z0 n0 g0, .slice z1 n1 g1, .slice z2 n2 g2, .slice none 0 0] 32); have b5' := (y4.block _ (lt_of_block b5)).trans b5; obtain ⟨⟨i0, i1, i2, i3⟩, _⟩ := cells4h b5'; have lt5 := lt_of_block b5')
      | fail)
    have hw4 := hz g rfl
    have hA1 := (fn_is hx hcode).keep fun a v h => below_keep y4 a v (alloc_keep w3 _ a v h)
    have hA2 := fn_is hw4 hcode
    obtain ⟨W4, hW4⟩ : ∃ W4, W4 = w4.alloc (.cells #[.slice z0 n0 g0, .slice z1 n1 g1, .slice z2 n2 g2, .slice none 0 0] 32) := ⟨_, rfl⟩
    have hb4W : Below w4.heap.size w4 W4 := by rw [hW4]; exact (Below.refl _ w4).alloc (Nat.le_refl _) _
    obtain ⟨W5, hW5⟩ : ∃ W5, W5 = W4.alloc (.cells #[.slice q0 m0 d0, .slice q1 m1 d1, .slice q2 m2 d2, .slice none 0 0] 32) := ⟨_, rfl⟩
    have hb45 : Below W4.heap.size W4 W5 := by rw [hW5]; exact (Below.refl _ W4).alloc (Nat.le_refl _) _
    have c5 := heap_alloc_new W4 (.cells #[.slice q0 m0 d0, .slice q1 m1 d1, .slice q2 m2 d2, .slice none 0 0] 32)
    rw [← hW5] at c5
    obtain ⟨W6, hW6⟩ : ∃ W6, W6 = W5.alloc (.cells #[.slice z0 n0 g0, .slice z1 n1 g1, .slice z2 n2 g2, .slice none 0 0] 32) := ⟨_, rfl⟩
    have hb56 : Below W5.heap.size W5 W6 := by rw [hW6]; exact (Below.refl _ W5).alloc (Nat.le_refl _) _
    have c6 := heap_alloc_new W5 (.cells #[.slice z0 n0 g0, .slice z1 n1 g1, .slice z2 n2 g2, .slice none 0 0] 32)
    rw [← hW6] at c6
    have k46 : ∀ a v, w4.cell? a = some v → W6.cell? a = some v := fun a v h => below_keep hb56 a v (below_keep hb45 a v (below_keep hb4W a v h))
    have hSm := rsame_any ⟨[], [g]⟩ ⟨[], [g]⟩ _ _ _ _ W6 (sc_one (hA1.keep k46) ((hb56.block _ (lt_of_block c5)).trans c5)) (sc_one (hA2.keep k46) c6) hfit hfit
    simp only [decide_true] at hSm
    have s4 : W4.heap.size = w4.heap.size + 1 := by rw [hW4]; simp
    have s5 : W5.heap.size = w4.heap.size + 1 + 1 := by rw [hW5]; simp [s4]
    rw [s4, s5] at hSm
    have x46 : Below W4.heap.size W4 W6 := hb45.trans (hb56.mono hb45.size)
    rw [← hW4] at hal4 ⊢
    rw [← hW5, ← hW6]
    refine hSm.mono ?_
    rintro e w7 ⟨rfl, y7⟩
    have x47 := x46.trans (y7.mono x46.size)
    have hEnd0 := hal4.trans (x47.mono hal4.size)
    simp only
    clear hSm hA1 hA2 s4 s5 hW4 hW5 hW6 k46 c5 c6 hb45 hb56 hb4W hw4 hx hz i0 i1 i2 i3
    go_wp2_with fail
    have hEnd := hEnd0
    obtain ⟨WR, hWR⟩ : ∃ WR, WR = w7 := ⟨_, rfl⟩
    rw [← hWR] at hEnd ⊢
    clear hWR
    have hbR := hb2.trans (hEnd.mono hb2.size)
    obtain ⟨⟨p0, p1, p2, p3⟩, _⟩ := cells4h ((hEnd.block _ (lt_of_block bA)).trans bA)
    obtain ⟨S, hS⟩ : ∃ S : World → Prop, S = (fun W => W.cell? ⟨w.heap.size, 0, none⟩ = some (.slice a0 f.p.length c0) ∧ W.cell? ⟨w.heap.size, 1, none⟩ = some (.slice a1 f.r.length c1) ∧ W.cell? ⟨w.heap.size, 2, none⟩ = some (.slice a2 f.l.length c2) ∧ W.cell? ⟨w.heap.size, 3, none⟩ = some (.slice a3 f.code.length c3)) := ⟨_, rfl⟩
    have hSk : ∀ W, Below WR.heap.size WR W → S W := fun W hW => by
      rw [hS]
      have hk := below_keep hW
      exact ⟨hk _ _ p0, hk _ _ p1, hk _ _ p2, hk _ _ p3⟩
    rw [hS] at hSk
    clear hS S
    have hHd := hHd WR.drew hbR.drew
    go_region_held3 (fun W => W.cell? ⟨w.heap.size, 0, none⟩ = some (.slice a0 f.p.length c0) ∧ W.cell? ⟨w.heap.size, 1, none⟩ = some (.slice a1 f.r.length c1) ∧ W.cell? ⟨w.heap.size, 2, none⟩ = some (.slice a2 f.l.length c2) ∧ W.cell? ⟨w.heap.size, 3, none⟩ = some (.slice a3 f.code.length c3)) (first | go_keep | exact hSk _ hb9 | exact hSk _ hb6 | exact hSk _ hb5) (first
      | (go_at_call 16; refine hHd.mono ?_; rintro e w5 ⟨rfl, hb5'⟩; clear hHd; have hb5 := (Below.refl _ WR).drew.trans hb5')
      | (go_at_call 17; refine (hRh _ (hbR.trans (hb5.mono hbR.size))).mono ?_; rintro e w6 ⟨rfl, hb6'⟩; clear hRh; have hb6 := hb5.trans (hb6'.mono hb5.size); have hK6 := hK w6 (hbR.trans (hb6.mono hbR.size)))
      | (go_at_call 12; refine hK6.mono ?_; rintro e w9 ⟨rfl, hb9'⟩; clear hK6; have hb9 := hb6.trans (hb9'.mono hb6.size)))
    go_wp2_with fail
    go_ret
    exact ⟨rfl, hbR.trans (hb9.mono hbR.size)⟩
end Go.Proofs.YtbjipcpoiiegkaaGreatDoor
