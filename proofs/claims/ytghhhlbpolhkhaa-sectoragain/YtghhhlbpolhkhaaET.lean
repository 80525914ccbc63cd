/- Layer 15: a disk that nobody made; the law SectorNil. -/
import Derived.Test.YtghhhlbpolhkhaaES
namespace Go.Proofs.Ytghhhlbpolhkhaa
open Go.RowKit
/-- One that nobody made. -/
def Unm (q : Option Addr) (w : World) : Prop := q = none ∨ ∃ b, b < w.heap.size ∧ q = some ⟨b, 0, none⟩ ∧ w.cell? ⟨b, 0, none⟩ = some (.pointer none)
theorem Unm.below {q : Option Addr} {w w' : World} (h : Unm q w) (k : Below w.heap.size w w') : Unm q w' := by
  rcases h with h | ⟨b, h0, h1, h2⟩
  · exact .inl h
  · exact .inr ⟨b, Nat.lt_of_lt_of_le h0 k.size, h1, (k.cell (p := ⟨b, 0, none⟩) h0).trans h2⟩
theorem made_no (q : Option Addr) (w : World) (h : Unm q w) : Calls Try.prog 20 #[.pointer q] w fun e w' => e = .returned (.bool false) ∧ w' = w := by
  rcases h with rfl | ⟨b, h0, rfl, c⟩ <;>
  · go_enter Try.func20, Try.ntmps20
    go_wp2_with fail
    go_ret
    exact ⟨rfl, rfl⟩
theorem ready_no (q : Option Addr) (w : World) (h : Unm q w) : Calls Try.prog 25 #[.pointer q] w fun e w' => e = .returned (.int .i64 1) ∧ w' = w := by
  have HM := hidb (made_no q w h)
  clear h
  go_enter Try.func25, Try.ntmps25
  go_wp2_with (first | (go_at_call 20; refine HM.out.mono ?_; clear HM; rintro e w1 ⟨rfl, rfl⟩) | fail)
  go_ret
  exact ⟨rfl, rfl⟩
set_option maxRecDepth 100000 in
theorem crash_no (q : Option Addr) (a : Option Addr) (n c : Nat) (w : World) (h : Unm q w) : Calls Try.prog 7 #[.pointer q, .slice a n c] w fun e w' => e = .returned (.tuple #[]) ∧ w' = w := by
  have HM := hidb (made_no q w h)
  clear h
  go_enter Try.func7, Try.ntmps7
  go_wp2_with (first | (go_at_call 20; refine HM.out.mono ?_; clear HM; rintro e w1 ⟨rfl, rfl⟩) | fail)
  exact bodyPost_ret (results_none rfl _ _ _) rfl ⟨rfl, rfl⟩
set_option maxRecDepth 100000 in
theorem read_no (q : Option Addr) (s : Bt) (w : World) (h : Unm q w) : Calls Try.prog 8 #[.pointer q, sv s] w fun e w' => e = .returned (.tuple #[.slice none 0 0, .int .i64 1]) ∧ w' = w := by
  have HM := hidb (ready_no q w h)
  clear h
  go_enter Try.func8, Try.ntmps8
  go_wp2_with (first | (go_at_call 25; refine HM.out.mono ?_; clear HM; rintro e w1 ⟨rfl, rfl⟩) | fail)
  go_ret2
  exact ⟨rfl, rfl⟩
set_option maxRecDepth 100000 in
theorem write_no (q : Option Addr) (s : Bt) (k : Int) (b : Bt) (w : World) (h : Unm q w) : Calls Try.prog 10 #[.pointer q, sv s, .int .i64 k, sv b] w fun e w' => e = .returned (.int .i64 1) ∧ w' = w := by
  have HM := hidb (ready_no q w h)
  clear h
  go_enter Try.func10, Try.ntmps10
  go_wp2_with (first | (go_at_call 25; refine HM.out.mono ?_; clear HM; rintro e w1 ⟨rfl, rfl⟩) | fail)
  go_ret
  exact ⟨rfl, rfl⟩
set_option maxRecDepth 100000 in
theorem sync_no (q : Option Addr) (s : Bt) (w : World) (h : Unm q w) : Calls Try.prog 11 #[.pointer q, sv s] w fun e w' => e = .returned (.int .i64 1) ∧ w' = w := by
  have HM := hidb (ready_no q w h)
  clear h
  go_enter Try.func11, Try.ntmps11
  go_wp2_with (first | (go_at_call 25; refine HM.out.mono ?_; clear HM; rintro e w1 ⟨rfl, rfl⟩) | fail)
  go_ret
  exact ⟨rfl, rfl⟩
set_option maxRecDepth 100000 in
theorem files_no (q : Option Addr) (w : World) (h : Unm q w) : Calls Try.prog 12 #[.pointer q] w fun e w' => e = .returned (.slice none 0 0) ∧ w' = w := by
  have HM := hidb (made_no q w h)
  clear h
  go_enter Try.func12, Try.ntmps12
  go_wp2_with (first | (go_at_call 20; refine HM.out.mono ?_; clear HM; rintro e w1 ⟨rfl, rfl⟩) | fail)
  go_ret
  exact ⟨rfl, rfl⟩
set_option maxRecDepth 100000 in
theorem used_no (q : Option Addr) (w : World) (h : Unm q w) : Calls Try.prog 13 #[.pointer q] w fun e w' => e = .returned (.int .i64 0) ∧ w' = w := by
  have HM := hidb (made_no q w h)
  clear h
  go_enter Try.func13, Try.ntmps13
  go_wp2_with (first | (go_at_call 20; refine HM.out.mono ?_; clear HM; rintro e w1 ⟨rfl, rfl⟩) | fail)
  go_ret
  exact ⟨rfl, rfl⟩
set_option maxRecDepth 100000 in
theorem down_no (q : Option Addr) (w : World) (h : Unm q w) : Calls Try.prog 14 #[.pointer q] w fun e w' => e = .returned (.bool false) ∧ w' = w := by
  have HM := hidb (made_no q w h)
  clear h
  go_enter Try.func14, Try.ntmps14
  go_wp2_with (first | (go_at_call 20; refine HM.out.mono ?_; clear HM; rintro e w1 ⟨rfl, rfl⟩) | fail)
  go_ret
  exact ⟨rfl, rfl⟩
set_option maxRecDepth 100000 in
theorem cut_no (q : Option Addr) (k : Int) (w : World) (h : Unm q w) : Calls Try.prog 15 #[.pointer q, .int .i64 k] w fun e w' => e = .returned (.tuple #[]) ∧ w' = w := by
  have HM := hidb (made_no q w h)
  clear h
  go_enter Try.func15, Try.ntmps15
  go_wp2_with (first | (go_at_call 20; refine HM.out.mono ?_; clear HM; rintro e w1 ⟨rfl, rfl⟩) | fail)
  go_end0
  exact ⟨rfl, rfl⟩
/-- While the law runs. -/
structure NI (W0 : World) (q : Option Addr) (W : World) : Prop where
  s : Unm q W
  b : Below W0.heap.size W0 W
set_option maxRecDepth 100000 in
set_option maxHeartbeats 2000000 in
theorem sectorNil_any (kd at_ : Int) (fl b : Bt) (fa : Option Addr) (fn fc : Nat) (w : World) : Calls Try.prog 3 #[.agg #[.int .i64 kd, .int .i64 at_, sv fl, sv b, .slice fa fn fc]] w fun e w' => e = .returned (.bool true) ∧ Below w.heap.size w w' := by
  obtain ⟨W0, hW0⟩ : ∃ W0, W0 = w.alloc (.cells #[.int .i64 kd, .int .i64 at_, sv fl, sv b, .slice fa fn fc] 24) := ⟨_, rfl⟩
  have hb0 : Below w.heap.size w W0 := by rw [hW0]; exact (Below.refl _ w).alloc (Nat.le_refl _) _
  have hx : W0.heap[w.heap.size]? = some (.cells #[.int .i64 kd, .int .i64 at_, sv fl, sv b, .slice fa fn fc] 24 (0, 0)) := by rw [hW0]; exact heap_alloc_new w _
  have HC : Hid (∀ q W, NI W0 q W → W.cell? ⟨w.heap.size, 1, none⟩ = some (.int .i64 at_) ∧ W.cell? ⟨w.heap.size, 2, none⟩ = some (sv fl) ∧ W.cell? ⟨w.heap.size, 3, none⟩ = some (sv b) ∧ W.cell? ⟨w.heap.size, 4, none⟩ = some (.slice fa fn fc)) := hidb fun q W h => by
    have := (h.b.block _ (heap_ltb hx)).trans hx
    exact ⟨Lib.cell_of_heap this 1, Lib.cell_of_heap this 2, Lib.cell_of_heap this 3, Lib.cell_of_heap this 4⟩
  have HK := hidb knows15_any
  have HE : Hid (NI W0 none W0 ∧ ∀ W W', (Below W0.heap.size W0 W → Below W.heap.size W W' → Below w.heap.size w W')) := hidb ⟨⟨.inl rfl, Below.refl _ _⟩, fun W W' h1 h2 => (hb0.trans (h1.mono hb0.size)).trans (h2.mono (Nat.le_trans hb0.size h1.size))⟩
  clear hx hb0
  go_enter Try.func3, Try.ntmps3
  go_wp2_with fail
  rw [← hW0]
  clear hW0
  have HN := hidb num15_any
  generalize hZ : w.heap.size = Z at *
  have HZ := hidb hZ
  clear hZ
  go_loopw [3, 4] (fun dv iv wr => ∃ (i : Nat) (q : Option Addr), iv = .int .i64 i ∧ i ≤ 2 ∧ dv = .pointer q ∧ Hid (NI W0 q wr)) (fun _ iv _ => 2 - (intOf iv).toNat)
  case atStart => exact ⟨0, none, rfl, by omega, rfl, hidb HE.out.1⟩
  case round =>
    obtain ⟨i, q, rfl, hi, rfl, HI⟩ := hrel
    obtain ⟨c1, c2, c3, c4⟩ := HC.out q wr HI.out
    by_cases hlt : i < 2
    · go_wp2_with (first
        | (go_at_call 7; refine (crash_no _ _ _ _ _ HI.out.s).mono ?_; rintro e w1 ⟨rfl, rfl⟩)
        | (go_at_call 8; refine (read_no _ _ _ HI.out.s).mono ?_; rintro e w1 ⟨rfl, rfl⟩)
        | (go_at_call 10; refine (write_no _ _ _ _ _ HI.out.s).mono ?_; rintro e w1 ⟨rfl, rfl⟩)
        | (go_at_call 11; refine (sync_no _ _ _ HI.out.s).mono ?_; rintro e w1 ⟨rfl, rfl⟩)
        | (go_at_call 12; refine (files_no _ _ HI.out.s).mono ?_; rintro e w1 ⟨rfl, rfl⟩)
        | (go_at_call 13; refine (used_no _ _ HI.out.s).mono ?_; rintro e w1 ⟨rfl, rfl⟩)
        | (go_at_call 14; refine (down_no _ _ HI.out.s).mono ?_; rintro e w1 ⟨rfl, rfl⟩)
        | (go_at_call 15; refine (cut_no _ _ _ HI.out.s).mono ?_; rintro e w1 ⟨rfl, rfl⟩)
        | (go_at_call 9; refine (HN.out _ _).mono ?_; rintro e w1 ⟨rfl, rfl⟩)
        | fail)
      have hB : Below w1.heap.size w1 (w1.alloc (.cells #[.pointer none] 41)) := (Below.refl _ w1).alloc (Nat.le_refl _) _
      refine ⟨⟨i + 1, _, by go_num, by omega, rfl, hidb ⟨.inr ⟨_, by simp, rfl, Lib.cell_of_heap (heap_alloc_new w1 _) 0⟩, HI.out.b.trans (hB.mono HI.out.b.size)⟩⟩, by simp [intOf]; omega⟩
    · go_wp2_with (first
        | (go_at_call 16; refine (HK.out _).mono ?_; clear HK; rintro e w1 ⟨rfl, hb⟩)
        | fail)
      go_ret
      rw [HZ.out]
      exact ⟨rfl, HE.out.2 wr w1 HI.out.b hb⟩
end Go.Proofs.Ytghhhlbpolhkhaa
