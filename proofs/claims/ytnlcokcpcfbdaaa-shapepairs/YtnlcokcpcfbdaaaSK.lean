/- law06: num, knows. -/
import Derived.Test.YtnlcokcpcfbdaaaSJ
import Derived.Test.YtnlcokcpcfbdaaaCL
namespace Go.Proofs.Ytnlcokcpcfbdaaa
open Go.RowKit
theorem num6_any (x : Int) (w : World) : Calls Try.prog 16 #[.int .i64 x] w fun e w' => e = .returned (.int .i64 x) ∧ w' = w := by
  go_enter Try.func16, Try.ntmps16
  go_wp2
  go_ret
  exact ⟨rfl, rfl⟩
def kA : List (Int × Int) := [(48, 0), (49, 0), (50, 0)]
def kB : List (Int × Int) := [(51, 1), (52, 0), (50, 0)]
theorem goodA : goodS kA = true := by decide
theorem goodB : goodS kB = true := by decide
theorem matchA : matchS kA = [1, 2, 0] := by decide
theorem matchB : matchS kB = [2, 2, 0] := by decide
theorem six_cells {w : World} {b : Nat} {a0 a1 a2 a3 a4 a5 : Int} (h : w.heap[b]? = some (.cells #[.int .i64 a0, .int .i64 a1, .int .i64 a2, .int .i64 a3, .int .i64 a4, .int .i64 a5] 36 (0, 0))) : ∀ j (hj : j < [(a0, a1), (a2, a3), (a4, a5)].length), w.cell? ⟨b, 0 + j * 2, none⟩ = some (.int .i64 [(a0, a1), (a2, a3), (a4, a5)][j].1) ∧ w.cell? ⟨b, 0 + j * 2 + 1, none⟩ = some (.int .i64 [(a0, a1), (a2, a3), (a4, a5)][j].2) := by
  intro j hj
  rcases j with _ | _ | _ | j
  · simp [World.cell?, h]
  · simp [World.cell?, h]
  · simp [World.cell?, h]
  · simp at hj; omega
theorem NumBlk.ns {g : Nat} {ms : List Int} {W : World} (h : NumBlk g ms W) : NsAt W.cell? (some ⟨g, 0, none⟩) ms := .inr ⟨g, 0, rfl, fun j hj => by rw [Nat.zero_add]; exact (h.at j hj).1⟩
theorem NumBlk.keep {g : Nat} {ms : List Int} {W W' : World} (h : NumBlk g ms W) (hb : Below W.heap.size W W') : NumBlk g ms W' := (hb.block _ (blk_lt h)).trans h
theorem matchK (cs : List (Int × Int)) (hg : goodS cs = true) (hn : cs.length ≤ 1000) (b : Nat) (w : World) (hc : ∀ j (h : j < cs.length), w.cell? ⟨b, 0 + j * 2, none⟩ = some (.int .i64 cs[j].1) ∧ w.cell? ⟨b, 0 + j * 2 + 1, none⟩ = some (.int .i64 cs[j].2)) : Calls Try.prog 11 #[.slice (some ⟨b, 0, none⟩) cs.length cs.length] w fun e w' => ∃ g, e = .returned (.tuple #[.slice (some ⟨g, 0, none⟩) cs.length cs.length, .int .i64 0]) ∧ NumBlk g (matchS cs) w' ∧ Below w.heap.size w w' := by
  refine (match_any cs (some ⟨b, 0, none⟩) cs.length b 0 (.inr rfl) (by omega) w hc).mono ?_
  rintro e w' ⟨h1, h2⟩
  rw [if_pos hg] at h1
  obtain ⟨g, _, he, hN⟩ := h1
  exact ⟨g, he, hN, h2⟩
set_option maxRecDepth 100000 in
set_option maxHeartbeats 1000000 in
theorem knows6_any (w : World) : Calls Try.prog 9 #[] w fun e w' => e = .returned (.bool true) ∧ Below w.heap.size w w' := by
  have hA : ∀ W B b, W.heap.size = b → Hid (Below B w W) → Calls Try.prog 11 #[.slice (some ⟨b, 0, none⟩) 3 3] (W.alloc (.cells #[.int .i64 48, .int .i64 0, .int .i64 49, .int .i64 0, .int .i64 50, .int .i64 0] 36)) fun e w' => ∃ g, e = .returned (.tuple #[.slice (some ⟨g, 0, none⟩) 3 3, .int .i64 0]) ∧ Hid (NumBlk g [1, 2, 0] w') ∧ Below W.heap.size W w' := by
    rintro W B b rfl -
    refine (matchK kA goodA (by decide) W.heap.size _ (six_cells (heap_alloc_new W _))).mono ?_
    rintro e w' ⟨g, he, hN, hb⟩
    rw [matchA] at hN
    exact ⟨g, he, hid6 hN, ((Below.refl _ W).alloc (Nat.le_refl _) _).trans (hb.mono (by simp))⟩
  have hB : ∀ W b, W.heap.size = b → Calls Try.prog 11 #[.slice (some ⟨b, 0, none⟩) 3 3] (W.alloc (.cells #[.int .i64 51, .int .i64 1, .int .i64 52, .int .i64 0, .int .i64 50, .int .i64 0] 36)) fun e w' => ∃ g, e = .returned (.tuple #[.slice (some ⟨g, 0, none⟩) 3 3, .int .i64 0]) ∧ Hid (NumBlk g [2, 2, 0] w') ∧ Below W.heap.size W w' := by
    rintro W b rfl
    refine (matchK kB goodB (by decide) W.heap.size _ (six_cells (heap_alloc_new W _))).mono ?_
    rintro e w' ⟨g, he, hN, hb⟩
    rw [matchB] at hN
    exact ⟨g, he, hid6 hN, ((Below.refl _ W).alloc (Nat.le_refl _) _).trans (hb.mono (by simp))⟩
  have hI : ∀ W g (x y z : Int), NumBlk g [x, y, z] W → Calls Try.prog 15 #[.slice (some ⟨g, 0, none⟩) 3 3, .slice (some ⟨W.heap.size, 0, none⟩) 3 3] (W.alloc (.cells #[.int .i64 x, .int .i64 y, .int .i64 z] 3)) fun e w' => e = .returned (.bool true) ∧ Below W.heap.size W w' := by
    intro W g x y z h
    have b1 := (Below.refl _ W).alloc (Nat.le_refl _) (.cells #[.int .i64 x, .int .i64 y, .int .i64 z] 3)
    refine (lints_any (some ⟨g, 0, none⟩) (some ⟨W.heap.size, 0, none⟩) 3 3 3 3 [x, y, z] [x, y, z] rfl rfl _ (h.alloc _).ns (NumBlk.ns (g := W.heap.size) (ms := [x, y, z]) (heap_alloc_new W _)) (by omega) (by omega)).mono ?_
    rintro e w' ⟨he, k, rfl⟩
    exact ⟨by rw [he]; simp, below_draws2 b1 k⟩
  go_enter Try.func9, Try.ntmps9
  go_wp2_with (first
    | (go_at_call 11; first | (refine (hA w w.heap.size _ rfl (hid6 (Below.refl _ _))).mono ?_; clear hA; rintro e w1 ⟨g1, rfl, N1, b1⟩) | (refine (hB w1 _ rfl).mono ?_; clear hB; rintro e w2 ⟨g2, rfl, N2, b2⟩; have hI1 := hid6 (hI w2 g1 1 2 0 (N1.out.keep b2))))
    | (go_at_call 16; refine (num6_any _ _).mono ?_; rintro e w9 ⟨rfl, rfl⟩)
    | (go_at_call 15; first | (refine hI1.out.mono ?_; clear hI1; rintro e w3 ⟨rfl, b3⟩; have hI2 := hid6 (hI _ g2 2 2 0 (N2.out.keep b3))) | (refine hI2.out.mono ?_; clear hI2; rintro e w4 ⟨rfl, b4⟩))
    | fail)
  go_ret
  exact ⟨rfl, b1.trans ((b2.mono b1.size).trans ((b3.mono (Nat.le_trans b1.size b2.size)).trans (b4.mono (Nat.le_trans (Nat.le_trans b1.size b2.size) b3.size))))⟩
end Go.Proofs.Ytnlcokcpcfbdaaa
