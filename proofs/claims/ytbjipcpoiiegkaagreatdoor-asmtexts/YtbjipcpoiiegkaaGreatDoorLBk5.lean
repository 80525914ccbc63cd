/- The law AsmBack. -/
import Derived.Test.YtbjipcpoiiegkaaGreatDoorBR
import Derived.Test.YtbjipcpoiiegkaaGreatDoorBD
import Derived.Test.YtbjipcpoiiegkaaGreatDoorCTg
namespace Go.Proofs.YtbjipcpoiiegkaaGreatDoor
open Go.RowKit Go.Shelf
set_option maxRecDepth 100000 in
set_option maxHeartbeats 1000000 in
theorem parse5_big (t : List UInt8) (hl : 65536 < t.length) (ht : t.length ≤ 9223372036854775807) (w : World) : Calls Tryz.prog 19 #[.string ⟨t.toArray⟩] w (ScrEnd (parseS t) w) := by
  have hb1 : Below w.heap.size w (w.alloc (.cells #[.slice none 0 0, .slice none 0 0] 39)) := (Below.refl _ w).alloc (Nat.le_refl _) _
  have bA := heap_alloc_new w (.cells #[.slice none 0 0, .slice none 0 0] 39)
  have hl' : (65536 : Int) < (t.length : Int) := by omega
  have H1 : Hid (parseS t = (noScr, -1)) := hid (if_pos hl)
  clear hl
  go_enter Tryz.func19, Tryz.ntmps19
  go_wp2_with fail
  exact ret_scr5 bA hb1 rfl rfl rfl rfl (noScr_is _) _ H1.out
theorem parse5_every (t : List UInt8) (ht : t.length ≤ 9223372036854775807) (w : World) (hM : Marks w) (hL : Laid w) : Calls Tryz.prog 19 #[.string ⟨t.toArray⟩] w (ScrEnd (parseS t) w) := by
  by_cases h : t.length ≤ 65536
  · exact parse5_any t (by omega) w hM hL
  · exact parse5_big t (by omega) ht w
theorem printS_len (s : Scr) : (printS s).length ≤ 1000000 := by
  unfold printS
  split
  · rename_i h
    have S := small_of h
    have h1 : (s.consts.flatMap constT).length ≤ s.consts.length * 600 := flat_le fun c hc => constT_le (S.cs c hc)
    have h2 : (s.funcs.flatMap fnT).length ≤ s.funcs.length * 20000 := flat_le fun f hf => by
      have F := S.fs f hf
      have h3 : (f.code.flatMap lineT).length ≤ f.code.length * 43 := flat_le fun x hx => lineT_le (F.x x hx)
      have h4 := headS_le F
      have h5 := F.c
      simp only [fnT, List.length_append, List.length_cons, List.length_nil]
      omega
    have := S.c
    have := S.f
    simp only [printT, List.length_append]
    omega
  · simp
theorem printS_no {s : Scr} (h : s.right = false) : printS s = [] := by
  unfold printS
  rw [if_neg (by rw [h]; decide)]
set_option maxRecDepth 100000 in
set_option maxHeartbeats 4000000 in
theorem back5_walk (s : Scr) (V0 V1 : Value) (t : List UInt8) (w : World) (hs : ScIs w.cell? s V0 V1) (hsf : s.fits) (hI64 : ∀ f ∈ s.funcs, ∀ x ∈ f.code, -9223372036854775808 ≤ x.2 ∧ x.2 ≤ 9223372036854775807) (ht : t.length ≤ 9223372036854775807) (hM : Marks w) (hL : Laid w) :
    Calls Tryz.prog 6 #[.agg #[V0, V1], .string ⟨t.toArray⟩] w fun e w' => e = .returned (.bool true) ∧ Below w.heap.size w w' := by
  have hs0 := hs
  obtain ⟨⟨A0, C0, rfl, _⟩, ⟨A1, C1, rfl, _⟩⟩ := hs
  have hb2 := (Below.refl _ w).alloc (Nat.le_refl _) (.cells #[.slice A0 s.consts.length C0, .slice A1 s.funcs.length C1] 39)
  have bA := heap_alloc_new w (.cells #[.slice A0 s.consts.length C0, .slice A1 s.funcs.length C1] 39)
  have hCl := rclone_any s _ _ _ (hs0.keep (below_keep hb2)) hsf
  have hPr1 := fun u0 u1 W (hW : Below w.heap.size w W) (h : ScIs W.cell? s u0 u1) => print5_any s u0 u1 W (hL.keep hW).pow (hM.keep hW) h hsf
  have hRt := fun W (hW : Below w.heap.size w W) => rright4_any s _ _ W (hs0.keep (below_keep hW)) hsf hI64
  have hPa1 := fun W (hW : Below w.heap.size w W) => parse5_every (printS s) (by have := printS_len s; omega) W (hM.keep hW) (hL.keep hW)
  have hSm := fun W v0 v1 (hW : Below w.heap.size w W) (h : ScIs W.cell? s v0 v1) => rsame_any s s v0 v1 _ _ W h (hs0.keep (below_keep hW)) hsf hsf
  have hPa2 := fun W (hW : Below w.heap.size w W) => parse5_every t ht W (hM.keep hW) (hL.keep hW)
  have hK := fun W (hW : Below w.heap.size w W) => knows5_any W (hM.keep hW) (hL.keep hW)
  simp only [decide_true] at hSm
  -- WAYS
  cases h2 : parseS t with
  | mk x bad =>
    have hfx : x.fits := by have := (parseS_fit t).fits (Nat.le_refl _); rw [h2] at this; exact this
    rw [h2] at hPa2
    have hPr2 := fun v0 v1 W (hW : Below w.heap.size w W) (h : ScIs W.cell? x v0 v1) => print5_any x v0 v1 W (hL.keep hW).pow (hM.keep hW) h hfx
    by_cases hb0 : bad = 0
    · subst hb0
      rw [parse_print_back h2] at hPr2
      clear h2 hfx
      cases hr : s.right with
      | true =>
        rw [hr] at hRt
        by_cases hl : (printS s).length ≤ 65536
        · rw [print_parse_back hr hl] at hPa1
          have hl' : ((printS s).length : Int) ≤ 65536 := by omega
          generalize printS s = t1 at *
          go_enter Tryz.func6, Tryz.ntmps6
          go_wp2_with (first
            | (go_at_call 18; refine hCl.mono ?_; rintro e w3 ⟨u0, u1, rfl, hX, x3⟩; clear hCl; have hb3 := hb2.trans (x3.mono hb2.size); obtain ⟨⟨A2, C2, rfl, _⟩, ⟨A3, C3, rfl, _⟩⟩ := id hX; have hP1 := hPr1 _ _ w3 hb3 hX; clear hPr1)
            | (go_at_call 21; refine hP1.mono ?_; rintro e w4 ⟨rfl, y4⟩; clear hP1; have hb4 := hb3.trans (y4.mono hb3.size); have x4 := x3.trans (y4.mono x3.size); obtain ⟨p0, p1, _, _⟩ := cells2 ((x4.block _ (lt_of_block bA)).trans bA))
            | (go_at_call 23; refine (hRt _ hb4).mono ?_; rintro e w5 ⟨rfl, y5⟩; clear hRt; have hb5 := hb4.trans (y5.mono hb4.size); have x5 := x4.trans (y5.mono x4.size))
            | (go_at_call 19; refine (hPa1 _ hb5).mono ?_; rintro e w6 ⟨v0, v1, rfl, hS6, y6⟩; clear hPa1; obtain ⟨⟨B0, D0, rfl, _⟩, ⟨B1, D1, rfl, _⟩⟩ := id hS6; have hb6 := hb5.trans (y6.mono hb5.size); have x6 := x5.trans (y6.mono x5.size); have hal := (Below.refl _ w6).alloc (Nat.le_refl _) (.cells #[.slice B0 s.consts.length D0, .slice B1 s.funcs.length D1] 39); have hb6b := hb6.trans (hal.mono hb6.size); have x6b := x6.trans (hal.mono x6.size); obtain ⟨q0, q1, _, _⟩ := cells2 ((x6.block _ (lt_of_block bA)).trans bA); have hlt6 := lt_of_block ((x6.block _ (lt_of_block bA)).trans bA); have hS6b := (hS6.keep upF_all).keep (below_keep hal); have hE6 := hSm _ _ _ hb6b hS6b; clear hSm)
            | (go_at_call 15; refine hE6.mono ?_; rintro e w7 ⟨rfl, y7⟩; clear hE6; have hb7 := hb6b.trans (y7.mono hb6b.size))
            | (go_at_call 19; refine (hPa2 _ (by first | exact hb7 | exact hb6b | exact hb5)).mono ?_; rintro e w8 ⟨v2, v3, rfl, hS8, y8⟩; clear hPa2; obtain ⟨⟨E0, F0, rfl, _⟩, ⟨E1, F1, rfl, _⟩⟩ := id hS8; have hb8 := Below.trans (by first | exact hb7 | exact hb6b | exact hb5) (y8.mono (by first | exact hb7.size | exact hb6b.size | exact hb5.size)); have hal8 := (Below.refl _ w8).alloc (Nat.le_refl _) (.cells #[.slice E0 x.consts.length F0, .slice E1 x.funcs.length F1] 39); have hb8b := hb8.trans (hal8.mono hb8.size); have hS8b := (hS8.keep upF_all).keep (below_keep hal8))
            | (go_at_call 21; refine (hPr2 _ _ _ hb8b hS8b).mono ?_; rintro e w9 ⟨rfl, y9⟩; clear hPr2; have hb9 := hb8b.trans (y9.mono hb8b.size))
            | (go_at_call 12; refine (hK _ (by first | exact hb9 | exact hb8b)).mono ?_; rintro e w10 ⟨rfl, y10⟩; have hb10 := Below.trans (by first | exact hb9 | exact hb8b) (y10.mono (by first | exact hb9.size | exact hb8b.size)))
            | fail)
          go_ret
          exact ⟨rfl, hb10⟩
        · have hl' : ¬ ((printS s).length : Int) ≤ 65536 := by omega
          generalize parseS (printS s) = r1 at hPa1
          generalize printS s = t1 at *
          obtain ⟨s1, b1⟩ := r1
          go_enter Tryz.func6, Tryz.ntmps6
          go_wp2_with (first
            | (go_at_call 18; refine hCl.mono ?_; rintro e w3 ⟨u0, u1, rfl, hX, x3⟩; clear hCl; have hb3 := hb2.trans (x3.mono hb2.size); obtain ⟨⟨A2, C2, rfl, _⟩, ⟨A3, C3, rfl, _⟩⟩ := id hX; have hP1 := hPr1 _ _ w3 hb3 hX; clear hPr1)
            | (go_at_call 21; refine hP1.mono ?_; rintro e w4 ⟨rfl, y4⟩; clear hP1; have hb4 := hb3.trans (y4.mono hb3.size); have x4 := x3.trans (y4.mono x3.size); obtain ⟨p0, p1, _, _⟩ := cells2 ((x4.block _ (lt_of_block bA)).trans bA))
            | (go_at_call 23; refine (hRt _ hb4).mono ?_; rintro e w5 ⟨rfl, y5⟩; clear hRt; have hb5 := hb4.trans (y5.mono hb4.size); have x5 := x4.trans (y5.mono x4.size))
            | (go_at_call 19; refine (hPa1 _ hb5).mono ?_; rintro e w6 ⟨v0, v1, rfl, hS6, y6⟩; clear hPa1; obtain ⟨⟨B0, D0, rfl, _⟩, ⟨B1, D1, rfl, _⟩⟩ := id hS6; have hb6 := hb5.trans (y6.mono hb5.size); have x6 := x5.trans (y6.mono x5.size); have hal := (Below.refl _ w6).alloc (Nat.le_refl _) (.cells #[.slice B0 s1.consts.length D0, .slice B1 s1.funcs.length D1] 39); have hb6b := hb6.trans (hal.mono hb6.size); have x6b := x6.trans (hal.mono x6.size); obtain ⟨q0, q1, _, _⟩ := cells2 ((x6.block _ (lt_of_block bA)).trans bA); have hlt6 := lt_of_block ((x6.block _ (lt_of_block bA)).trans bA); have hS6b := (hS6.keep upF_all).keep (below_keep hal))
            | (go_at_call 19; refine (hPa2 _ (by first | exact hb7 | exact hb6b | exact hb5)).mono ?_; rintro e w8 ⟨v2, v3, rfl, hS8, y8⟩; clear hPa2; obtain ⟨⟨E0, F0, rfl, _⟩, ⟨E1, F1, rfl, _⟩⟩ := id hS8; have hb8 := Below.trans (by first | exact hb7 | exact hb6b | exact hb5) (y8.mono (by first | exact hb7.size | exact hb6b.size | exact hb5.size)); have hal8 := (Below.refl _ w8).alloc (Nat.le_refl _) (.cells #[.slice E0 x.consts.length F0, .slice E1 x.funcs.length F1] 39); have hb8b := hb8.trans (hal8.mono hb8.size); have hS8b := (hS8.keep upF_all).keep (below_keep hal8))
            | (go_at_call 21; refine (hPr2 _ _ _ hb8b hS8b).mono ?_; rintro e w9 ⟨rfl, y9⟩; clear hPr2; have hb9 := hb8b.trans (y9.mono hb8b.size))
            | (go_at_call 12; refine (hK _ (by first | exact hb9 | exact hb8b)).mono ?_; rintro e w10 ⟨rfl, y10⟩; have hb10 := Below.trans (by first | exact hb9 | exact hb8b) (y10.mono (by first | exact hb9.size | exact hb8b.size)))
            | fail)
          go_ret
          exact ⟨rfl, hb10⟩
      | false =>
        rw [hr] at hRt
        rw [printS_no hr] at hPr1
        clear hPa1 hSm
        go_enter Tryz.func6, Tryz.ntmps6
        go_wp2_with (first
          | (go_at_call 18; refine hCl.mono ?_; rintro e w3 ⟨u0, u1, rfl, hX, x3⟩; clear hCl; have hb3 := hb2.trans (x3.mono hb2.size); obtain ⟨⟨A2, C2, rfl, _⟩, ⟨A3, C3, rfl, _⟩⟩ := id hX; have hP1 := hPr1 _ _ w3 hb3 hX; clear hPr1)
          | (go_at_call 21; refine hP1.mono ?_; rintro e w4 ⟨rfl, y4⟩; clear hP1; have hb4 := hb3.trans (y4.mono hb3.size); have x4 := x3.trans (y4.mono x3.size); obtain ⟨p0, p1, _, _⟩ := cells2 ((x4.block _ (lt_of_block bA)).trans bA))
          | (go_at_call 23; refine (hRt _ hb4).mono ?_; rintro e w5 ⟨rfl, y5⟩; clear hRt; have hb5 := hb4.trans (y5.mono hb4.size); have x5 := x4.trans (y5.mono x4.size))
          | (go_at_call 19; refine (hPa2 _ (by first | exact hb7 | exact hb6b | exact hb5)).mono ?_; rintro e w8 ⟨v2, v3, rfl, hS8, y8⟩; clear hPa2; obtain ⟨⟨E0, F0, rfl, _⟩, ⟨E1, F1, rfl, _⟩⟩ := id hS8; have hb8 := Below.trans (by first | exact hb7 | exact hb6b | exact hb5) (y8.mono (by first | exact hb7.size | exact hb6b.size | exact hb5.size)); have hal8 := (Below.refl _ w8).alloc (Nat.le_refl _) (.cells #[.slice E0 x.consts.length F0, .slice E1 x.funcs.length F1] 39); have hb8b := hb8.trans (hal8.mono hb8.size); have hS8b := (hS8.keep upF_all).keep (below_keep hal8))
          | (go_at_call 21; refine (hPr2 _ _ _ hb8b hS8b).mono ?_; rintro e w9 ⟨rfl, y9⟩; clear hPr2; have hb9 := hb8b.trans (y9.mono hb8b.size))
          | (go_at_call 12; refine (hK _ (by first | exact hb9 | exact hb8b)).mono ?_; rintro e w10 ⟨rfl, y10⟩; have hb10 := Below.trans (by first | exact hb9 | exact hb8b) (y10.mono (by first | exact hb9.size | exact hb8b.size)))
          | fail)
        go_ret
        exact ⟨rfl, hb10⟩
    · have hbq : (bad == 0) = false := by simpa using hb0
      clear hPr2
      clear h2 hfx
      cases hr : s.right with
      | true =>
        rw [hr] at hRt
        by_cases hl : (printS s).length ≤ 65536
        · rw [print_parse_back hr hl] at hPa1
          have hl' : ((printS s).length : Int) ≤ 65536 := by omega
          generalize printS s = t1 at *
          go_enter Tryz.func6, Tryz.ntmps6
          go_wp2_with (first
            | (go_at_call 18; refine hCl.mono ?_; rintro e w3 ⟨u0, u1, rfl, hX, x3⟩; clear hCl; have hb3 := hb2.trans (x3.mono hb2.size); obtain ⟨⟨A2, C2, rfl, _⟩, ⟨A3, C3, rfl, _⟩⟩ := id hX; have hP1 := hPr1 _ _ w3 hb3 hX; clear hPr1)
            | (go_at_call 21; refine hP1.mono ?_; rintro e w4 ⟨rfl, y4⟩; clear hP1; have hb4 := hb3.trans (y4.mono hb3.size); have x4 := x3.trans (y4.mono x3.size); obtain ⟨p0, p1, _, _⟩ := cells2 ((x4.block _ (lt_of_block bA)).trans bA))
            | (go_at_call 23; refine (hRt _ hb4).mono ?_; rintro e w5 ⟨rfl, y5⟩; clear hRt; have hb5 := hb4.trans (y5.mono hb4.size); have x5 := x4.trans (y5.mono x4.size))
            | (go_at_call 19; refine (hPa1 _ hb5).mono ?_; rintro e w6 ⟨v0, v1, rfl, hS6, y6⟩; clear hPa1; obtain ⟨⟨B0, D0, rfl, _⟩, ⟨B1, D1, rfl, _⟩⟩ := id hS6; have hb6 := hb5.trans (y6.mono hb5.size); have x6 := x5.trans (y6.mono x5.size); have hal := (Below.refl _ w6).alloc (Nat.le_refl _) (.cells #[.slice B0 s.consts.length D0, .slice B1 s.funcs.length D1] 39); have hb6b := hb6.trans (hal.mono hb6.size); have x6b := x6.trans (hal.mono x6.size); obtain ⟨q0, q1, _, _⟩ := cells2 ((x6.block _ (lt_of_block bA)).trans bA); have hlt6 := lt_of_block ((x6.block _ (lt_of_block bA)).trans bA); have hS6b := (hS6.keep upF_all).keep (below_keep hal); have hE6 := hSm _ _ _ hb6b hS6b; clear hSm)
            | (go_at_call 15; refine hE6.mono ?_; rintro e w7 ⟨rfl, y7⟩; clear hE6; have hb7 := hb6b.trans (y7.mono hb6b.size))
            | (go_at_call 19; refine (hPa2 _ (by first | exact hb7 | exact hb6b | exact hb5)).mono ?_; rintro e w8 ⟨v2, v3, rfl, hS8, y8⟩; clear hPa2; obtain ⟨⟨E0, F0, rfl, _⟩, ⟨E1, F1, rfl, _⟩⟩ := id hS8; have hb8 := Below.trans (by first | exact hb7 | exact hb6b | exact hb5) (y8.mono (by first | exact hb7.size | exact hb6b.size | exact hb5.size)); have hal8 := (Below.refl _ w8).alloc (Nat.le_refl _) (.cells #[.slice E0 x.consts.length F0, .slice E1 x.funcs.length F1] 39); have hb8b := hb8.trans (hal8.mono hb8.size); have hS8b := (hS8.keep upF_all).keep (below_keep hal8))
            | (go_at_call 12; refine (hK _ (by first | exact hb9 | exact hb8b)).mono ?_; rintro e w10 ⟨rfl, y10⟩; have hb10 := Below.trans (by first | exact hb9 | exact hb8b) (y10.mono (by first | exact hb9.size | exact hb8b.size)))
            | fail)
          go_ret
          exact ⟨rfl, hb10⟩
        · have hl' : ¬ ((printS s).length : Int) ≤ 65536 := by omega
          generalize parseS (printS s) = r1 at hPa1
          generalize printS s = t1 at *
          obtain ⟨s1, b1⟩ := r1
          go_enter Tryz.func6, Tryz.ntmps6
          go_wp2_with (first
            | (go_at_call 18; refine hCl.mono ?_; rintro e w3 ⟨u0, u1, rfl, hX, x3⟩; clear hCl; have hb3 := hb2.trans (x3.mono hb2.size); obtain ⟨⟨A2, C2, rfl, _⟩, ⟨A3, C3, rfl, _⟩⟩ := id hX; have hP1 := hPr1 _ _ w3 hb3 hX; clear hPr1)
            | (go_at_call 21; refine hP1.mono ?_; rintro e w4 ⟨rfl, y4⟩; clear hP1; have hb4 := hb3.trans (y4.mono hb3.size); have x4 := x3.trans (y4.mono x3.size); obtain ⟨p0, p1, _, _⟩ := cells2 ((x4.block _ (lt_of_block bA)).trans bA))
            | (go_at_call 23; refine (hRt _ hb4).mono ?_; rintro e w5 ⟨rfl, y5⟩; clear hRt; have hb5 := hb4.trans (y5.mono hb4.size); have x5 := x4.trans (y5.mono x4.size))
            | (go_at_call 19; refine (hPa1 _ hb5).mono ?_; rintro e w6 ⟨v0, v1, rfl, hS6, y6⟩; clear hPa1; obtain ⟨⟨B0, D0, rfl, _⟩, ⟨B1, D1, rfl, _⟩⟩ := id hS6; have hb6 := hb5.trans (y6.mono hb5.size); have x6 := x5.trans (y6.mono x5.size); have hal := (Below.refl _ w6).alloc (Nat.le_refl _) (.cells #[.slice B0 s1.consts.length D0, .slice B1 s1.funcs.length D1] 39); have hb6b := hb6.trans (hal.mono hb6.size); have x6b := x6.trans (hal.mono x6.size); obtain ⟨q0, q1, _, _⟩ := cells2 ((x6.block _ (lt_of_block bA)).trans bA); have hlt6 := lt_of_block ((x6.block _ (lt_of_block bA)).trans bA); have hS6b := (hS6.keep upF_all).keep (below_keep hal))
            | (go_at_call 19; refine (hPa2 _ (by first | exact hb7 | exact hb6b | exact hb5)).mono ?_; rintro e w8 ⟨v2, v3, rfl, hS8, y8⟩; clear hPa2; obtain ⟨⟨E0, F0, rfl, _⟩, ⟨E1, F1, rfl, _⟩⟩ := id hS8; have hb8 := Below.trans (by first | exact hb7 | exact hb6b | exact hb5) (y8.mono (by first | exact hb7.size | exact hb6b.size | exact hb5.size)); have hal8 := (Below.refl _ w8).alloc (Nat.le_refl _) (.cells #[.slice E0 x.consts.length F0, .slice E1 x.funcs.length F1] 39); have hb8b := hb8.trans (hal8.mono hb8.size); have hS8b := (hS8.keep upF_all).keep (below_keep hal8))
            | (go_at_call 12; refine (hK _ (by first | exact hb9 | exact hb8b)).mono ?_; rintro e w10 ⟨rfl, y10⟩; have hb10 := Below.trans (by first | exact hb9 | exact hb8b) (y10.mono (by first | exact hb9.size | exact hb8b.size)))
            | fail)
          go_ret
          exact ⟨rfl, hb10⟩
      | false =>
        rw [hr] at hRt
        rw [printS_no hr] at hPr1
        clear hPa1 hSm
        go_enter Tryz.func6, Tryz.ntmps6
        go_wp2_with (first
          | (go_at_call 18; refine hCl.mono ?_; rintro e w3 ⟨u0, u1, rfl, hX, x3⟩; clear hCl; have hb3 := hb2.trans (x3.mono hb2.size); obtain ⟨⟨A2, C2, rfl, _⟩, ⟨A3, C3, rfl, _⟩⟩ := id hX; have hP1 := hPr1 _ _ w3 hb3 hX; clear hPr1)
          | (go_at_call 21; refine hP1.mono ?_; rintro e w4 ⟨rfl, y4⟩; clear hP1; have hb4 := hb3.trans (y4.mono hb3.size); have x4 := x3.trans (y4.mono x3.size); obtain ⟨p0, p1, _, _⟩ := cells2 ((x4.block _ (lt_of_block bA)).trans bA))
          | (go_at_call 23; refine (hRt _ hb4).mono ?_; rintro e w5 ⟨rfl, y5⟩; clear hRt; have hb5 := hb4.trans (y5.mono hb4.size); have x5 := x4.trans (y5.mono x4.size))
          | (go_at_call 19; refine (hPa2 _ (by first | exact hb7 | exact hb6b | exact hb5)).mono ?_; rintro e w8 ⟨v2, v3, rfl, hS8, y8⟩; clear hPa2; obtain ⟨⟨E0, F0, rfl, _⟩, ⟨E1, F1, rfl, _⟩⟩ := id hS8; have hb8 := Below.trans (by first | exact hb7 | exact hb6b | exact hb5) (y8.mono (by first | exact hb7.size | exact hb6b.size | exact hb5.size)); have hal8 := (Below.refl _ w8).alloc (Nat.le_refl _) (.cells #[.slice E0 x.consts.length F0, .slice E1 x.funcs.length F1] 39); have hb8b := hb8.trans (hal8.mono hb8.size); have hS8b := (hS8.keep upF_all).keep (below_keep hal8))
          | (go_at_call 12; refine (hK _ (by first | exact hb9 | exact hb8b)).mono ?_; rintro e w10 ⟨rfl, y10⟩; have hb10 := Below.trans (by first | exact hb9 | exact hb8b) (y10.mono (by first | exact hb9.size | exact hb8b.size)))
          | fail)
        go_ret
        exact ⟨rfl, hb10⟩
end Go.Proofs.YtbjipcpoiiegkaaGreatDoor
