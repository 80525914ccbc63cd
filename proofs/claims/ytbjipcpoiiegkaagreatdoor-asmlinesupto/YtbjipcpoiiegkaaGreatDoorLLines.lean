/- The law AsmLines. -/
import Derived.Test.YtbjipcpoiiegkaaGreatDoorBD
import Derived.Test.YtbjipcpoiiegkaaGreatDoorAX
import Derived.Test.YtbjipcpoiiegkaaGreatDoorPA
import Derived.Deep.RegionHeld3
namespace Go.Proofs.YtbjipcpoiiegkaaGreatDoor
open Go.RowKit Go.Shelf
set_option maxRecDepth 100000 in
set_option maxHeartbeats 1000000 in
theorem lines_walk (o a : Int) (h0 : -9223372036854775808 ≤ a) (h1 : a ≤ 9223372036854775807) (s : List UInt8) (hs : s.length ≤ 1048576) (w : World) (hM : Marks w) (hL : Laid w) :
    Calls Tryz.prog 3 #[.agg #[.int .i64 o, .int .i64 a], .string ⟨s.toArray⟩] w fun e w' => e = .returned (.bool true) ∧ Below w.heap.size w w' := by
  have hbA := (Below.refl _ w).alloc (Nat.le_refl _) (.cells #[.int .i64 o, .int .i64 a] 23)
  have hR := read_any s hs _ (hL.keep hbA)
  have hR2 := fun W => rread_any s hs W
  have hLn := fun W (hW : Below w.heap.size w W) => line_any o a h0 h1 W (hL.keep hW).pow
  have hLr := fun W => rline_any o a h0 h1 W
  have hK := fun W (hW : Below w.heap.size w W) => knows5_any W (hM.keep hW) (hL.keep hW)
  generalize insS s = r at hR hR2
  generalize hx : r.getD (0, 0) = x at *
  generalize lineS (o, a) = ln at hLn hLr
  go_enter Tryz.func3, Tryz.ntmps3
  go_wp2_with (first
    | (go_at_call 8; refine hR.mono ?_; rintro e w1 ⟨rfl, hb1⟩; clear hR)
    | (go_at_call 9; refine (hR2 _).mono ?_; rintro e w3 ⟨rfl, hb3⟩; clear hR2)
    | fail)
  obtain ⟨x0, x1⟩ := x
  simp only at hb3 ⊢
  obtain ⟨W4, hW4⟩ : ∃ W4, W4 = w3.alloc (.cells #[.int .i64 x0, .int .i64 x1] 23) := ⟨_, rfl⟩
  have hb01 := hbA.trans (hb1.mono hbA.size)
  have hb02 := hb01.alloc hb01.size (.cells #[.int .i64 x0, .int .i64 x1] 23)
  have hb03 := hb02.trans (hb3.mono hb02.size)
  have hb34 : Below w3.heap.size w3 W4 := by rw [hW4]; exact (Below.refl _ w3).alloc (Nat.le_refl _) _
  have hb04 := hb03.trans (hb34.mono hb03.size)
  obtain ⟨p0, p1, _, _⟩ := cells2 (heap_alloc_new w (.cells #[.int .i64 o, .int .i64 a] 23))
  obtain ⟨q0, q1, _, _⟩ := cells2 (heap_alloc_new w1 (.cells #[.int .i64 x0, .int .i64 x1] 23))
  obtain ⟨r0, r1, _, _⟩ := cells2 (heap_alloc_new w3 (.cells #[.int .i64 x0, .int .i64 x1] 23))
  rw [← hW4] at r0 r1 ⊢
  have k3 := fun a v h => below_keep hb34 a v (below_keep hb3 a v h)
  have k1 := fun a v h => k3 a v (alloc_keep w1 (.cells #[.int .i64 x0, .int .i64 x1] 23) a v (below_keep hb1 a v h))
  replace p0 := k1 _ _ p0
  replace p1 := k1 _ _ p1
  replace q0 := k3 _ _ q0
  replace q1 := k3 _ _ q1
  clear k1 k3 hW4 hb34 hb3 hb03 hb02 hb01 hb1
  obtain ⟨S, hS⟩ : ∃ S : World → Prop, S = (fun W => (W.cell? ⟨w.heap.size, 0, none⟩ = some (.int .i64 o) ∧ W.cell? ⟨w.heap.size, 1, none⟩ = some (.int .i64 a)) ∧ (W.cell? ⟨w1.heap.size, 0, none⟩ = some (.int .i64 x0) ∧ W.cell? ⟨w1.heap.size, 1, none⟩ = some (.int .i64 x1)) ∧ (W.cell? ⟨w3.heap.size, 0, none⟩ = some (.int .i64 x0) ∧ W.cell? ⟨w3.heap.size, 1, none⟩ = some (.int .i64 x1))) := ⟨_, rfl⟩
  have hSk : ∀ W, Below W4.heap.size W4 W → S W := fun W hW => by
    rw [hS]
    have hk := below_keep hW
    exact ⟨⟨hk _ _ p0, hk _ _ p1⟩, ⟨hk _ _ q0, hk _ _ q1⟩, ⟨hk _ _ r0, hk _ _ r1⟩⟩
  rw [hS] at hSk
  clear hS S
  have hLn := hLn W4.drew hb04.drew
  have e0 : (x0 == x0) = true := by simp
  have e1 : (x1 == x1) = true := by simp
  go_region_held3 (fun W => (W.cell? ⟨w.heap.size, 0, none⟩ = some (.int .i64 o) ∧ W.cell? ⟨w.heap.size, 1, none⟩ = some (.int .i64 a)) ∧ (W.cell? ⟨w1.heap.size, 0, none⟩ = some (.int .i64 x0) ∧ W.cell? ⟨w1.heap.size, 1, none⟩ = some (.int .i64 x1)) ∧ (W.cell? ⟨w3.heap.size, 0, none⟩ = some (.int .i64 x0) ∧ W.cell? ⟨w3.heap.size, 1, none⟩ = some (.int .i64 x1))) (first | go_keep | exact hSk _ hb7 | exact hSk _ hb6 | exact hSk _ hb5) (first
    | (go_at_call 10; refine hLn.mono ?_; rintro e w5 ⟨rfl, hb5'⟩; clear hLn; have hb5 := (Below.refl _ W4).drew.trans hb5')
    | (go_at_call 11; refine (hLr _).mono ?_; rintro e w6 ⟨rfl, hb6'⟩; clear hLr; have hb6 := hb5.trans (hb6'.mono hb5.size); have hK6 := hK w6 (hb04.trans (hb6.mono hb04.size)))
    | (go_at_call 12; refine hK6.mono ?_; rintro e w7 ⟨rfl, hb7'⟩; clear hK6; have hb7 := hb6.trans (hb7'.mono hb6.size)))
  go_wp2_with fail
  go_ret
  exact ⟨rfl, hb04.trans (hb7.mono hb04.size)⟩
end Go.Proofs.YtbjipcpoiiegkaaGreatDoor
