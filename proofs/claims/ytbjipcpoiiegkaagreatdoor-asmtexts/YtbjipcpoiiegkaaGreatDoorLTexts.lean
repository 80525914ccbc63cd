/- The law AsmTexts. -/
import Derived.Test.YtbjipcpoiiegkaaGreatDoorBJ
import Derived.Test.YtbjipcpoiiegkaaGreatDoorAU
import Derived.Test.YtbjipcpoiiegkaaGreatDoorOT
import Derived.Deep.RegionHeld3
namespace Go.Proofs.YtbjipcpoiiegkaaGreatDoor
open Go.RowKit Go.Shelf
set_option maxRecDepth 100000 in
set_option maxHeartbeats 4000000 in
theorem texts_walk (s : Scr) (V0 V1 : Value) (t : List UInt8) (w : World) (hs : ScIs w.cell? s V0 V1) (hsf : s.fits) (hI64 : ∀ f ∈ s.funcs, ∀ x ∈ f.code, -9223372036854775808 ≤ x.2 ∧ x.2 ≤ 9223372036854775807) (ht : t.length ≤ 9223372036854775807) (hM : Marks w) (hL : Laid w) :
    Calls Tryz.prog 5 #[.agg #[V0, V1], .string ⟨t.toArray⟩] w fun e w' => e = .returned (.bool true) ∧ Below w.heap.size w w' := by
  have hs0 := hs
  obtain ⟨⟨A0, C0, rfl, _⟩, ⟨A1, C1, rfl, _⟩⟩ := hs
  have hb2 := (Below.refl _ w).alloc (Nat.le_refl _) (.cells #[.slice A0 s.consts.length C0, .slice A1 s.funcs.length C1] 39)
  have bA := heap_alloc_new w (.cells #[.slice A0 s.consts.length C0, .slice A1 s.funcs.length C1] 39)
  have hCl := rclone_any s _ _ _ (hs0.keep (below_keep hb2)) hsf
  have hPa := fun W (hW : Below w.heap.size w W) => parse5_every t ht W (hM.keep hW) (hL.keep hW)
  have hPr := fun W => rparse5_every t ht W
  have hP1 := fun u0 u1 W (hW : Below w.heap.size w W) (h : ScIs W.cell? s u0 u1) => print5_any s u0 u1 W (hL.keep hW).pow (hM.keep hW) h hsf
  have hP2 := fun W (hW : Below w.heap.size w W) => rprint5_any s _ _ W (hs0.keep (below_keep hW)) hsf hI64
  have hfx : (parseS t).1.fits := (parseS_fit t).fits (Nat.le_refl _)
  have hS1 := fun W u0 u1 x0 x1 (h : ScIs W.cell? (parseS t).1 u0 u1) (g : ScIs W.cell? (parseS t).1 x0 x1) => rsame_any (parseS t).1 (parseS t).1 u0 u1 x0 x1 W h g hfx hfx
  have hS2 := fun W u0 u1 (hW : Below w.heap.size w W) (h : ScIs W.cell? s u0 u1) => rsame_any s s u0 u1 _ _ W h (hs0.keep (below_keep hW)) hsf hsf
  have hK := fun W (hW : Below w.heap.size w W) => knows5_any W (hM.keep hW) (hL.keep hW)
  simp only [decide_true] at hS1 hS2
  generalize parseS t = r at *
  obtain ⟨x, bad⟩ := r
  simp only at hS1 hfx
  generalize printS s = t1 at *
  go_enter Tryz.func5, Tryz.ntmps5
  go_wp2_with (first
    | (go_at_call 18; refine hCl.mono ?_; rintro e w3 ⟨u0, u1, rfl, hX, x3⟩; clear hCl; have hb3 := hb2.trans (x3.mono hb2.size); obtain ⟨⟨A2, C2, rfl, _⟩, ⟨A3, C3, rfl, _⟩⟩ := id hX; have al3 := (Below.refl _ w3).alloc (Nat.le_refl _) (.cells #[.slice A2 s.consts.length C2, .slice A3 s.funcs.length C3] 39); have b3 := heap_alloc_new w3 (.cells #[.slice A2 s.consts.length C2, .slice A3 s.funcs.length C3] 39); have hb4 := hb3.trans (al3.mono hb3.size))
    | (go_at_call 19; refine (hPa _ hb4).mono ?_; rintro e w5 ⟨v0, v1, rfl, hS5, y5⟩; clear hPa; obtain ⟨⟨B0, D0, rfl, _⟩, ⟨B1, D1, rfl, _⟩⟩ := id hS5; have hb5 := hb4.trans (y5.mono hb4.size); have al5 := (Below.refl _ w5).alloc (Nat.le_refl _) (.cells #[.slice B0 x.consts.length D0, .slice B1 x.funcs.length D1] 39); have b5 := heap_alloc_new w5 (.cells #[.slice B0 x.consts.length D0, .slice B1 x.funcs.length D1] 39); have hb6 := hb5.trans (al5.mono hb5.size))
    | (go_at_call 20; refine (hPr _).mono ?_; rintro e w7 ⟨v2, v3, rfl, hS7, y7⟩; clear hPr; obtain ⟨⟨E0, F0, rfl, _⟩, ⟨E1, F1, rfl, _⟩⟩ := id hS7; have hb7 := hb6.trans (y7.mono hb6.size))
    | fail)
  obtain ⟨WR, hWR⟩ : ∃ WR, WR = w7.alloc (.cells #[.slice E0 x.consts.length F0, .slice E1 x.funcs.length F1] 39) := ⟨_, rfl⟩
  have al7 : Below w7.heap.size w7 WR := by rw [hWR]; exact (Below.refl _ w7).alloc (Nat.le_refl _) _
  have b7 := heap_alloc_new w7 (.cells #[.slice E0 x.consts.length F0, .slice E1 x.funcs.length F1] 39)
  rw [← hWR] at b7 ⊢
  clear hWR
  have hbR := hb7.trans (al7.mono hb7.size)
  have k5 : Below w5.heap.size w5 WR := (al5.trans (y7.mono al5.size)).trans (al7.mono (by have := al5.size; have := y7.size; omega))
  have k5a : Below (w5.alloc (.cells #[.slice B0 x.consts.length D0, .slice B1 x.funcs.length D1] 39)).heap.size (w5.alloc (.cells #[.slice B0 x.consts.length D0, .slice B1 x.funcs.length D1] 39)) WR := y7.trans (al7.mono y7.size)
  have k3a : Below (w3.alloc (.cells #[.slice A2 s.consts.length C2, .slice A3 s.funcs.length C3] 39)).heap.size (w3.alloc (.cells #[.slice A2 s.consts.length C2, .slice A3 s.funcs.length C3] 39)) WR := y5.trans (k5.mono y5.size)
  have k3 : Below w3.heap.size w3 WR := al3.trans (k3a.mono al3.size)
  have k2 : Below (w.alloc (.cells #[.slice A0 s.consts.length C0, .slice A1 s.funcs.length C1] 39)).heap.size (w.alloc (.cells #[.slice A0 s.consts.length C0, .slice A1 s.funcs.length C1] 39)) WR := x3.trans (k3.mono x3.size)
  obtain ⟨p0, p1, _, _⟩ := cells2 ((k2.block _ (lt_of_block bA)).trans bA)
  obtain ⟨p2, p3, _, _⟩ := cells2 ((k3a.block _ (lt_of_block b3)).trans b3)
  obtain ⟨p4, p5, _, _⟩ := cells2 ((k5a.block _ (lt_of_block b5)).trans b5)
  obtain ⟨p6, p7, _, _⟩ := cells2 b7
  have hXR := hX.keep (below_keep k3)
  have hAR := (hS5.keep upF_all).keep (below_keep k5)
  have hBR := (hS7.keep upF_all).keep (below_keep al7)
  clear hX hS5 hS7 x3 hb3 al3 b3 hb4 y5 hb5 al5 b5 hb6 y7 hb7 al7 b7 k5 k5a k3a k3 k2 bA
  generalize s.consts.length = nc at *
  generalize s.funcs.length = nf at *
  generalize x.consts.length = mc at *
  generalize x.funcs.length = mf at *
  obtain ⟨S, hS⟩ : ∃ S : World → Prop, S = (fun W => (W.cell? ⟨w.heap.size, 0, none⟩ = some (.slice A0 nc C0) ∧ W.cell? ⟨w.heap.size, 1, none⟩ = some (.slice A1 nf C1)) ∧ (W.cell? ⟨w3.heap.size, 0, none⟩ = some (.slice A2 nc C2) ∧ W.cell? ⟨w3.heap.size, 1, none⟩ = some (.slice A3 nf C3)) ∧ (W.cell? ⟨w5.heap.size, 0, none⟩ = some (.slice B0 mc D0) ∧ W.cell? ⟨w5.heap.size, 1, none⟩ = some (.slice B1 mf D1)) ∧ (W.cell? ⟨w7.heap.size, 0, none⟩ = some (.slice E0 mc F0) ∧ W.cell? ⟨w7.heap.size, 1, none⟩ = some (.slice E1 mf F1))) := ⟨_, rfl⟩
  have hSk : ∀ W, Below WR.heap.size WR W → S W := fun W hW => by
    rw [hS]
    have hk := below_keep hW
    exact ⟨⟨hk _ _ p0, hk _ _ p1⟩, ⟨hk _ _ p2, hk _ _ p3⟩, ⟨hk _ _ p4, hk _ _ p5⟩, ⟨hk _ _ p6, hk _ _ p7⟩⟩
  rw [hS] at hSk
  clear hS S
  have hP1' := hP1 _ _ WR.drew hbR.drew hXR
  have hbb : (bad == bad) = true := by simp
  clear hP1
  go_region_held3 (fun W => (W.cell? ⟨w.heap.size, 0, none⟩ = some (.slice A0 nc C0) ∧ W.cell? ⟨w.heap.size, 1, none⟩ = some (.slice A1 nf C1)) ∧ (W.cell? ⟨w3.heap.size, 0, none⟩ = some (.slice A2 nc C2) ∧ W.cell? ⟨w3.heap.size, 1, none⟩ = some (.slice A3 nf C3)) ∧ (W.cell? ⟨w5.heap.size, 0, none⟩ = some (.slice B0 mc D0) ∧ W.cell? ⟨w5.heap.size, 1, none⟩ = some (.slice B1 mf D1)) ∧ (W.cell? ⟨w7.heap.size, 0, none⟩ = some (.slice E0 mc F0) ∧ W.cell? ⟨w7.heap.size, 1, none⟩ = some (.slice E1 mf F1))) (first | go_keep | exact hSk _ q12 | exact hSk _ q11 | exact hSk _ q10 | exact hSk _ q9 | exact hSk _ q8) (first
    | (go_at_call 21; refine hP1'.mono ?_; rintro e w8 ⟨rfl, y8⟩; clear hP1'; have q8 := (Below.refl _ WR).drew.trans y8)
    | (go_at_call 22; refine (hP2 _ (hbR.trans (q8.mono hbR.size))).mono ?_; rintro e w9 ⟨rfl, y9⟩; clear hP2; have q9 := q8.trans (y9.mono q8.size); have hE9 := hS1 w9 _ _ _ _ (hAR.keep (below_keep q9)) (hBR.keep (below_keep q9)); clear hS1)
    | (go_at_call 15; refine hE9.mono ?_; rintro e w10 ⟨rfl, y10⟩; clear hE9; have q10 := q9.trans (y10.mono q9.size); have hE10 := hS2 w10 _ _ (hbR.trans (q10.mono hbR.size)) (hXR.keep (below_keep q10)); clear hS2)
    | (go_at_call 15; refine hE10.mono ?_; rintro e w11 ⟨rfl, y11⟩; clear hE10; have q11 := q10.trans (y11.mono q10.size); have hK11 := hK w11 (hbR.trans (q11.mono hbR.size)))
    | (go_at_call 12; refine hK11.mono ?_; rintro e w12 ⟨rfl, y12⟩; clear hK11; have q12 := q11.trans (y12.mono q11.size)))
  go_wp2_with fail
  go_ret
  exact ⟨rfl, hbR.trans (q12.mono hbR.size)⟩
end Go.Proofs.YtbjipcpoiiegkaaGreatDoor
