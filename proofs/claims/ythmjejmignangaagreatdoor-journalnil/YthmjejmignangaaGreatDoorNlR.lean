/- Layer 16: the document's disk of layer 15: one Write on an empty one. -/
import Derived.Test.YthmjejmignangaaGreatDoorES
import Derived.Deep.Cut
namespace Go.Proofs.YthmjejmignangaaGreatDoor
open Go.RowKit
theorem right_any16 (b : Bt) (w : World) (hb : b.length ≤ 9223372036854775807) : Calls Tryz.prog 38 #[sv b] w fun e w' => e = .returned (.bool (nameB b)) ∧ w' = w := by
  go_enter Tryz.func38, Tryz.ntmps38
  go_wp2_with fail
  have HA : Hid (∀ i, i ≤ b.length → (∀ j (h : j < b.length), j < i → byteB b[j] = true) → i = b.length → nameB b = (decide (1 ≤ b.length) && decide (b.length ≤ 16))) := hidb fun i hi h e => by
    have : b.all byteB = true := List.all_eq_true.2 fun x hx => by
      obtain ⟨j, hj, rfl⟩ := List.getElem_of_mem hx
      exact h j hj (by omega)
    simp [nameB, this]
  go_loopw [3] (fun iv wr => ∃ i : Nat, iv = .int .i64 i ∧ i ≤ b.length ∧ wr = w ∧ Hid (∀ j (h : j < b.length), j < i → byteB b[j] = true)) (fun iv _ => b.length - (intOf iv).toNat)
  case atStart => exact ⟨0, rfl, by omega, rfl, hidb fun j _ h => absurd h (Nat.not_lt_zero _)⟩
  case round =>
    obtain ⟨i, rfl, hi, rfl, HI⟩ := hrel
    by_cases hl : i < b.length
    · have HF : Hid (byteB b[i] = false → nameB b = false) := hidb fun h => by
        have : b.all byteB = false := by
          rw [List.all_eq_false]
          exact ⟨b[i], List.getElem_mem hl, by simp [h]⟩
        simp [nameB, this]
      have HX : Hid ((⟨b.toArray⟩ : ByteArray)[i] = b[i]) := hidb rfl
      go_wp2_with fail
      · rename_i x1
        go_ret
        rw [HF.out (by rw [HX.out] at x1; unfold byteB; simp; omega)]
        exact ⟨rfl, rfl⟩
      · rename_i x2
        refine ⟨⟨i + 1, by go_num, by omega, by first | rfl | trivial, hidb fun j hj hji => ?_⟩, by simp [intOf]; omega⟩
        by_cases e : j < i
        · exact HI.out j hj e
        · obtain rfl : j = i := by omega
          rw [HX.out] at x2
          unfold byteB; simp; omega
      · rename_i x1
        go_ret
        rw [HF.out (by rw [HX.out] at x1; unfold byteB; simp; omega)]
        exact ⟨rfl, rfl⟩
    · have HE := hidb (HA.out i hi HI.out (by omega))
      by_cases h1 : 1 ≤ b.length
      · by_cases h2 : b.length ≤ 16
        · go_wp2_with fail
          go_ret
          rw [HE.out]
          simp [h1, h2]
          omega
        · go_wp2_with fail
          go_ret
          rw [HE.out]
          simp [h1, h2]
          omega
      · go_wp2_with fail
        go_ret
        rw [HE.out]
        simp [h1]
theorem rnew16 (w : World) : Calls Tryz.prog 19 #[.int .i64 10] w fun e w' => e = .returned (.pointer (some ⟨w.heap.size, 0, none⟩)) ∧ w' = w.alloc (.cells #[.int .i64 10, .int .i64 (-1), .bool false, .slice none 0 0] 97) := by
  go_enter Tryz.func19, Tryz.ntmps19
  go_wp2_with fail
  go_ret
  exact ⟨rfl, rfl⟩
theorem rfind16 (g : Nat) (s : Bt) (w : World) (hg : g < w.heap.size) (h3 : w.cell? ⟨g, 3, none⟩ = some (.slice none 0 0)) : Calls Tryz.prog 37 #[.pointer (some ⟨g, 0, none⟩), sv s] w fun e w' => e = .returned (.tuple #[.int .i64 0, .bool false]) ∧ w' = w := by
  go_enter Tryz.func37, Tryz.ntmps37
  go_wp2_with fail
  go_loopw [6] (fun iv wr => iv = .int .i64 0 ∧ wr = w) (fun _ _ => 0)
  case atStart => exact ⟨rfl, rfl⟩
  case round =>
    obtain ⟨rfl, rfl⟩ := hrel
    go_wp2_with fail
    go_ret2
    exact ⟨rfl, rfl⟩
theorem rused16 (g : Nat) (w : World) (hg : g < w.heap.size) (h3 : w.cell? ⟨g, 3, none⟩ = some (.slice none 0 0)) : Calls Tryz.prog 39 #[.pointer (some ⟨g, 0, none⟩)] w fun e w' => e = .returned (.int .i64 0) ∧ w' = w := by
  go_enter Tryz.func39, Tryz.ntmps39
  go_wp2_with fail
  go_loopw [3, 4] (fun nv iv wr => nv = .int .i64 0 ∧ iv = .int .i64 0 ∧ wr = w) (fun _ _ _ => 0)
  case atStart => exact ⟨rfl, rfl, rfl⟩
  case round =>
    obtain ⟨rfl, rfl, rfl⟩ := hrel
    go_wp2_with fail
    go_ret
    exact ⟨rfl, rfl⟩
theorem roperate16 (g : Nat) (w : World) (h1 : w.cell? ⟨g, 1, none⟩ = some (.int .i64 (-1))) : Calls Tryz.prog 40 #[.pointer (some ⟨g, 0, none⟩)] w fun e w' => e = .returned (.bool true) ∧ w' = w := by
  go_enter Tryz.func40, Tryz.ntmps40
  go_wp2_with fail
  go_ret
  exact ⟨rfl, rfl⟩
/-- A disk of the document's, of which nothing was told yet. -/
def D0 (g : Nat) (w : World) : Prop := w.cell? ⟨g, 0, none⟩ = some (.int .i64 10) ∧ w.cell? ⟨g, 1, none⟩ = some (.int .i64 (-1)) ∧ w.cell? ⟨g, 2, none⟩ = some (.bool false) ∧ w.cell? ⟨g, 3, none⟩ = some (.slice none 0 0) ∧ g < w.heap.size ∧ ∀ k, w.frozen? ⟨g, k, none⟩ = false
theorem d0_below {g : Nat} {w w' : World} (h : D0 g w) (b : Below w.heap.size w w') : D0 g w' := by
  obtain ⟨h0, h1, h2, h3, h4, h5⟩ := h
  have k := fun j => b.cell (p := ⟨g, j, none⟩) h4
  exact ⟨(k 0).trans h0, (k 1).trans h1, (k 2).trans h2, (k 3).trans h3, Nat.lt_of_lt_of_le h4 b.size, fun j => by
    rw [← h5 j]
    unfold World.frozen?
    rw [b.block g h4]⟩
set_option maxHeartbeats 4000000 in
set_option maxRecDepth 100000 in
theorem rwrite_no16 (g : Nat) (s : Bt) (w : World) (hs : s.length ≤ 9223372036854775807) (hn : nameB s = false) (h : D0 g w) : Calls Tryz.prog 20 #[.pointer (some ⟨g, 0, none⟩), sv s, .int .i64 0, .string ⟨#[]⟩] w fun e w' => e = .returned (.int .i64 1) ∧ w' = w := by
  obtain ⟨h0, h1, h2, h3, h4, h5⟩ := h
  have HF := hidb (rfind16 g s w h4 h3)
  have HR := hidb (right_any16 s w hs)
  rw [hn] at HR
  go_enter Tryz.func20, Tryz.ntmps20
  go_wp2_with (first
    | (go_at_call 37; refine HF.out.mono ?_; clear HF; rintro e w1 ⟨rfl, e1⟩; obtain rfl := e1.symm)
    | (go_at_call 38; refine HR.out.mono ?_; clear HR; rintro e w2 ⟨rfl, e2⟩; obtain rfl := e2.symm)
    | fail)
  go_ret
  exact ⟨rfl, rfl⟩
/-- Behind the file's making: the disk's files are one, at Q. -/
def Mid16 (g Q c : Nat) (V U : World) : Prop := U.cell? ⟨g, 3, none⟩ = some (.slice (some ⟨Q, 0, none⟩) 1 c) ∧ U.cell? ⟨Q, 1, none⟩ = some (.slice none 0 0) ∧ g < U.heap.size ∧ Q < U.heap.size ∧ (∀ k, U.frozen? ⟨Q, k, none⟩ = false) ∧ g < Q ∧ Below g V U
theorem mid16 {g : Nat} {V : World} (s : Bt) (h : D0 g V) (A B : Obj) (c : Nat) (z : Array Value) : Mid16 g (V.heap.size + 1 + 1) c V ((((V.alloc A).alloc B).alloc (.cells (#[sv s, .slice none 0 0] ++ z) 102)).setCell ⟨g, 3, none⟩ (.slice (some ⟨V.heap.size + 1 + 1, 0, none⟩) 1 c)).drew.drew := by
  obtain ⟨h0, h1, h2, h3, h4, h5⟩ := h
  have hb : Below V.heap.size V (((V.alloc A).alloc B).alloc (.cells (#[sv s, .slice none 0 0] ++ z) 102)) := (((Below.refl _ V).alloc (Nat.le_refl _) A).alloc (by simp) B).alloc (by simp; omega) _
  have hn := heap_alloc_new ((V.alloc A).alloc B) (.cells (#[sv s, .slice none 0 0] ++ z) 102)
  simp only [World.size_alloc] at hn
  have hn2 := (Below.heap_setCell (((V.alloc A).alloc B).alloc (.cells (#[sv s, .slice none 0 0] ++ z) 102)) ⟨g, 3, none⟩ (.slice (some ⟨V.heap.size + 1 + 1, 0, none⟩) 1 c) (V.heap.size + 1 + 1) (by simp; omega)).trans hn
  refine ⟨?_, ?_, ?_, ?_, ?_, by omega, ?_⟩
  · have h6 := (hb.cell (p := ⟨g, 3, none⟩) h4).trans h3
    exact World.cell?_setCell_same _ _ _ h6
  · exact (Lib.cell_of_heap hn2 1).trans (by rw [Array.getElem?_append_left (by simp)]; rfl)
  · show g < (World.setCell _ _ _).heap.size
    rw [World.size_setCell]; simp; omega
  · show V.heap.size + 1 + 1 < (World.setCell _ _ _).heap.size
    rw [World.size_setCell]; simp
  · exact fun k => Lib.frozen_of_heap hn2 k
  · exact (((hb.mono (Nat.le_of_lt h4)).setCell (Nat.le_refl g) _).drew).drew
end Go.Proofs.YthmjejmignangaaGreatDoor
