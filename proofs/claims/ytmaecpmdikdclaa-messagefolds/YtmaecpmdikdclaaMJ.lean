/- Layer 17: the law's knows. -/
import Derived.Test.YtmaecpmdikdclaaMI
namespace Go.Proofs.Ytmaecpmdikdclaa
open Go.RowKit
def knA : Rec17 := ⟨2, 0, 0, 0, [⟨1, [97]⟩, ⟨1, [98]⟩]⟩
def knB : Rec17 := ⟨2, 0, 0, 1, [⟨2, [99]⟩]⟩
theorem kn_fold : foldS zeroS [knA, knB] = some ⟨0, 0, 0, [⟨1, [97]⟩, ⟨2, [99]⟩]⟩ := by decide
theorem kn_right : knA.ok = true := by decide
theorem num17_any (n : Int) (w : World) : Calls Try.prog 17 #[.int .i64 n] w fun e w' => e = .returned (.int .i64 n) ∧ w' = w := by
  go_enter Try.func17, Try.ntmps17
  go_wp2_with fail
  go_ret
  exact ⟨rfl, rfl⟩
set_option maxRecDepth 100000 in
set_option maxHeartbeats 1000000 in
theorem knows17_any (w : World) : Calls Try.prog 20 #[] w fun e w' => e = .returned (.bool true) ∧ Below w.heap.size w w' := by
  obtain ⟨A1, hA1⟩ : ∃ W, W = w.alloc (.cells #[.int .i64 1, .string ⟨#[97]⟩, .int .i64 1, .string ⟨#[98]⟩] 109) := ⟨_, rfl⟩
  obtain ⟨A2, hA2⟩ : ∃ W, W = A1.alloc (.cells #[.int .i64 2, .int .i64 0, .int .i64 0, .int .i64 0, .slice (some ⟨w.heap.size, 0, none⟩) 2 2] 50) := ⟨_, rfl⟩
  obtain ⟨A3, hA3⟩ : ∃ W, W = A2.alloc (.cells #[.int .i64 2, .string ⟨#[99]⟩] 109) := ⟨_, rfl⟩
  obtain ⟨A4, hA4⟩ : ∃ W, W = A3.alloc (.cells #[.int .i64 2, .int .i64 0, .int .i64 0, .int .i64 1, .slice (some ⟨w.heap.size + 1 + 1, 0, none⟩) 1 1] 50) := ⟨_, rfl⟩
  obtain ⟨W1, hW1⟩ : ∃ W, W = A4.alloc (.cells #[.int .i64 2, .int .i64 0, .int .i64 0, .int .i64 0, .slice (some ⟨w.heap.size, 0, none⟩) 2 2, .int .i64 2, .int .i64 0, .int .i64 0, .int .i64 1, .slice (some ⟨w.heap.size + 1 + 1, 0, none⟩) 1 1] 50) := ⟨_, rfl⟩
  have z1 : A1.heap.size = w.heap.size + 1 := by rw [hA1]; simp
  have z2 : A2.heap.size = w.heap.size + 1 + 1 := by rw [hA2]; simp [z1]
  have z3 : A3.heap.size = w.heap.size + 1 + 1 + 1 := by rw [hA3]; simp [z2]
  have z4 : A4.heap.size = w.heap.size + 1 + 1 + 1 + 1 := by rw [hA4]; simp [z3]
  have k4 : Below A4.heap.size A4 W1 := by rw [hW1]; exact (Below.refl _ _).alloc (Nat.le_refl _) _
  have k3 : Below A3.heap.size A3 W1 := by
    have : Below A3.heap.size A3 A4 := by rw [hA4]; exact (Below.refl _ _).alloc (Nat.le_refl _) _
    exact this.trans (k4.mono this.size)
  have k2 : Below A2.heap.size A2 W1 := by
    have : Below A2.heap.size A2 A3 := by rw [hA3]; exact (Below.refl _ _).alloc (Nat.le_refl _) _
    exact this.trans (k3.mono this.size)
  have k1 : Below A1.heap.size A1 W1 := by
    have : Below A1.heap.size A1 A2 := by rw [hA2]; exact (Below.refl _ _).alloc (Nat.le_refl _) _
    exact this.trans (k2.mono this.size)
  have k0 : Below w.heap.size w W1 := by
    have : Below w.heap.size w A1 := by rw [hA1]; exact (Below.refl _ _).alloc (Nat.le_refl _) _
    exact this.trans (k1.mono this.size)
  have b0 : W1.heap[w.heap.size]? = some (.cells #[.int .i64 1, .string ⟨#[97]⟩, .int .i64 1, .string ⟨#[98]⟩] 109 (0, 0)) := by
    rw [k1.block _ (by omega), hA1]; exact heap_alloc_new w _
  have b1 : W1.heap[w.heap.size + 1]? = some (.cells #[.int .i64 2, .int .i64 0, .int .i64 0, .int .i64 0, .slice (some ⟨w.heap.size, 0, none⟩) 2 2] 50 (0, 0)) := by
    rw [k2.block _ (by omega), ← z1, hA2]; exact heap_alloc_new A1 _
  have b2 : W1.heap[w.heap.size + 1 + 1]? = some (.cells #[.int .i64 2, .string ⟨#[99]⟩] 109 (0, 0)) := by
    rw [k3.block _ (by omega), ← z2, hA3]; exact heap_alloc_new A2 _
  have b4 : W1.heap[w.heap.size + 1 + 1 + 1 + 1]? = some (.cells #[.int .i64 2, .int .i64 0, .int .i64 0, .int .i64 0, .slice (some ⟨w.heap.size, 0, none⟩) 2 2, .int .i64 2, .int .i64 0, .int .i64 0, .int .i64 1, .slice (some ⟨w.heap.size + 1 + 1, 0, none⟩) 1 1] 50 (0, 0)) := by
    rw [← z4, hW1]; exact heap_alloc_new A4 _
  have eA : ∀ W, Below W1.heap.size W1 W → EsAt W.cell? (some ⟨w.heap.size, 0, none⟩) knA.log := fun W hW => .inr ⟨_, _, rfl, fun j hj => by
    have e := (hW.block _ (lt_of_block b0)).trans b0
    match j, hj with
    | 0, _ => exact ⟨by rw [Lib.cell_of_heap e]; rfl, by rw [Lib.cell_of_heap e]; rfl⟩
    | 1, _ => exact ⟨by rw [Lib.cell_of_heap e]; rfl, by rw [Lib.cell_of_heap e]; rfl⟩⟩
  have eB : EsAt W1.cell? (some ⟨w.heap.size + 1 + 1, 0, none⟩) knB.log := .inr ⟨_, _, rfl, fun j hj => by
    match j, hj with
    | 0, _ => exact ⟨by rw [Lib.cell_of_heap b2]; rfl, by rw [Lib.cell_of_heap b2]; rfl⟩⟩
  have hF := fold_any17 (some ⟨w.heap.size + 1 + 1 + 1 + 1, 0, none⟩) 2 2 [knA, knB] W1 rfl (.inr ⟨_, _, rfl, fun j hj => by
    match j, hj with
    | 0, _ => exact ⟨by rw [Lib.cell_of_heap b4]; rfl, by rw [Lib.cell_of_heap b4]; rfl, by rw [Lib.cell_of_heap b4]; rfl, by rw [Lib.cell_of_heap b4]; rfl, some ⟨w.heap.size, 0, none⟩, 2, by rw [Lib.cell_of_heap b4]; rfl, rfl, eA _ (Below.refl _ _), (show ∀ x ∈ knA.log, x.d.length ≤ 9223372036854775807 by decide), (show knA.log.length ≤ 9000000000000 by decide)⟩
    | 1, _ => exact ⟨by rw [Lib.cell_of_heap b4]; rfl, by rw [Lib.cell_of_heap b4]; rfl, by rw [Lib.cell_of_heap b4]; rfl, by rw [Lib.cell_of_heap b4]; rfl, some ⟨w.heap.size + 1 + 1, 0, none⟩, 1, by rw [Lib.cell_of_heap b4]; rfl, rfl, eB, (show ∀ x ∈ knB.log, x.d.length ≤ 9223372036854775807 by decide), (show knB.log.length ≤ 9000000000000 by decide)⟩⟩) (by omega)
  have hR : ∀ W, Below W1.heap.size W1 W → Calls Try.prog 26 #[recV 2 0 0 0 (.slice (some ⟨w.heap.size, 0, none⟩) 2 2)] W fun e w' => e = .returned (.bool true) ∧ Below W.heap.size W w' := fun W hW => by
    have := rightRec17_any knA (some ⟨w.heap.size, 0, none⟩) 2 2 W rfl (eA W hW) (by decide)
    rw [kn_right] at this
    exact this
  have hbx : ∀ W, Below W1.heap.size W1 W → W.cell? ⟨w.heap.size + 1, 0, none⟩ = some (.int .i64 2) ∧ W.cell? ⟨w.heap.size + 1, 1, none⟩ = some (.int .i64 0) ∧ W.cell? ⟨w.heap.size + 1, 2, none⟩ = some (.int .i64 0) ∧ W.cell? ⟨w.heap.size + 1, 3, none⟩ = some (.int .i64 0) ∧ W.cell? ⟨w.heap.size + 1, 4, none⟩ = some (.slice (some ⟨w.heap.size, 0, none⟩) 2 2) := fun W h => by
    have e := (h.block _ (lt_of_block b1)).trans b1
    refine ⟨?_, ?_, ?_, ?_, ?_⟩ <;> (rw [Lib.cell_of_heap e]; rfl)
  clear b0 b1 b2 b4 eA eB k1 k2 k3 k4 z1 z2 z3 z4
  subst hA1 hA2 hA3 hA4
  go_enter Try.func20, Try.ntmps20
  go_wp2_with fail
  rw [← hW1]
  clear hW1
  refine hF.mono ?_
  clear hF
  rintro e w2 ⟨hb2, ⟨h0, _⟩ | ⟨s, a, c, h0, rfl, hrow⟩⟩
  · rw [kn_fold] at h0; cases h0
  rw [kn_fold] at h0
  injection h0 with h0
  subst h0
  obtain ⟨_, _, _, e1, hE⟩ := es_of_row hrow
  injection e1 with e1 e2 e3
  subst e1 e3
  obtain ⟨g, o, e1, c0, c1⟩ := hE.get (j := 0) (by decide)
  obtain ⟨_, _, e2, d0, d1⟩ := hE.get (j := 1) (by decide)
  subst e1
  injection e2 with e2
  injection e2 with q1 q2
  subst q1 q2
  obtain ⟨W3, hW3⟩ : ∃ W, W = w2.alloc (.cells #[.int .i64 0, .int .i64 0, .int .i64 0, .slice (some ⟨g, o, none⟩) 2 c] 64) := ⟨_, rfl⟩
  have hb3 : Below w2.heap.size w2 W3 := by rw [hW3]; exact (Below.refl _ _).alloc (Nat.le_refl _) _
  have hb13 := hb2.trans (hb3.mono hb2.size)
  have hR3 := hR W3 hb13
  obtain ⟨x0, x1, x2, x3, x4⟩ := hbx w2 hb2
  obtain ⟨y0, y1, y2, y3, y4⟩ := hbx W3 hb13
  have c2 : W3.cell? ⟨g, o + 1, none⟩ = some (.string ⟨#[97]⟩) := by simpa using below_keep hb3 _ _ c1
  have d2 : W3.cell? ⟨g, o + 2 + 1, none⟩ = some (.string ⟨#[99]⟩) := by simpa using below_keep hb3 _ _ d1
  have c3 : w2.cell? ⟨g, o + 1, none⟩ = some (.string ⟨#[97]⟩) := by simpa using c1
  have d3 : w2.cell? ⟨g, o + 2 + 1, none⟩ = some (.string ⟨#[99]⟩) := by simpa using d1
  have hgl : g < w2.heap.size := World.block_lt_of_cell? _ _ c3
  have hl1 : w.heap.size + 1 < w2.heap.size := World.block_lt_of_cell? _ _ x0
  clear hR hbx hrow hE c0 d0 c1 d1 e2 c2 d2
  dsimp only [List.length_cons, List.length_nil]
  go_wp2_with (go_at_call 26; rw [← hW3]; refine hR3.mono ?_; clear hR3; rintro e w4 ⟨rfl, hb4⟩)
  go_ret
  exact ⟨rfl, k0.trans ((hb13.trans (hb4.mono hb13.size)).mono k0.size)⟩
end Go.Proofs.Ytmaecpmdikdclaa
