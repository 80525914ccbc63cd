/- Layer 11: the law StoreNil. -/
import Derived.Test.YticihfbhnbkjjaaDoorKF
import Derived.Test.YticihfbhnbkjjaaDoorKN
namespace Go.Proofs.YticihfbhnbkjjaaDoor
open Go.RowKit
/-- While the law runs: both were made by nobody; its argument's box is as it was. -/
structure NI (W0 : World) (q1 q2 : Option Addr) (W : World) : Prop where
  s : Unm q1 W
  t : Unm q2 W
  b : Below W0.heap.size W0 W
theorem NI.step {W0 W W' : World} {q1 q2 : Option Addr} (h : NI W0 q1 q2 W) (k : Below W.heap.size W W') : NI W0 q1 q2 W' := ⟨h.s.below k, h.t.below k, h.b.trans (k.mono h.b.size)⟩
set_option maxRecDepth 100000 in
set_option maxHeartbeats 2000000 in
theorem storeNil_any (kd nn : Int) (k v : Bt) (w : World) : Calls Tryd.prog 4 #[.agg #[.int .i64 kd, .int .i64 nn, sv k, sv v]] w fun e w' => e = .returned (.bool true) ∧ Below w.heap.size w w' := by
  obtain ⟨W0, hW0⟩ : ∃ W0, W0 = w.alloc (.cells #[.int .i64 kd, .int .i64 nn, sv k, sv v] 32) := ⟨_, rfl⟩
  have hb0 : Below w.heap.size w W0 := by rw [hW0]; exact (Below.refl _ w).alloc (Nat.le_refl _) _
  have hx : W0.heap[w.heap.size]? = some (.cells #[.int .i64 kd, .int .i64 nn, sv k, sv v] 32 (0, 0)) := by rw [hW0]; exact heap_alloc_new w _
  have HC : Hid (∀ q1 q2 W, NI W0 q1 q2 W → W.cell? ⟨w.heap.size, 2, none⟩ = some (sv k) ∧ W.cell? ⟨w.heap.size, 3, none⟩ = some (sv v)) := hidb fun q1 q2 W h => by
    have := (h.b.block _ (heap_ltb hx)).trans hx
    exact ⟨Lib.cell_of_heap this 2, Lib.cell_of_heap this 3⟩
  have HK := hidb knows11_any
  have HE : Hid (∀ W W', NI W0 none none W0 ∧ (Below W0.heap.size W0 W → Below W.heap.size W W' → Below w.heap.size w W')) := hidb fun W W' => ⟨⟨.inl rfl, .inl rfl, Below.refl _ _⟩, fun h1 h2 => (hb0.trans (h1.mono hb0.size)).trans (h2.mono (Nat.le_trans hb0.size h1.size))⟩
  clear hx hb0
  go_enter Tryd.func4, Tryd.ntmps4
  go_wp2_with fail
  rw [← hW0]
  clear hW0
  have HN := hidb num11_any
  generalize hZ : w.heap.size = Z at *
  have HZ := hidb hZ
  clear hZ
  go_loopw [3, 4, 5] (fun sv' tv iv wr => ∃ (i : Nat) (q1 q2 : Option Addr), iv = .int .i64 i ∧ i ≤ 2 ∧ sv' = .pointer q1 ∧ tv = .pointer q2 ∧ Hid (NI W0 q1 q2 wr)) (fun _ _ iv _ => 2 - (intOf iv).toNat)
  case atStart => exact ⟨0, none, none, rfl, by omega, rfl, rfl, hidb (HE.out W0 W0).1⟩
  case round =>
    obtain ⟨i, q1, q2, rfl, hi, rfl, rfl, HI⟩ := hrel
    obtain ⟨c2, c3⟩ := HC.out q1 q2 wr HI.out
    by_cases hlt : i < 2
    · go_wp2_with (first
        | (go_at_call 9; refine (sget_no _ _ _ HI.out.s).mono ?_; rintro e w1 ⟨rfl, rfl⟩)
        | (go_at_call 10; refine (snext_no _ _ _ HI.out.s).mono ?_; rintro e w1 ⟨rfl, rfl⟩)
        | (go_at_call 11; refine (xload_no _ _ _ HI.out.t).mono ?_; rintro e w1 ⟨rfl, rfl⟩)
        | (go_at_call 12; refine (xnext_no _ _ _ HI.out.t).mono ?_; rintro e w1 ⟨rfl, rfl⟩)
        | (go_at_call 14; refine (sput_no _ _ _ _ HI.out.s).mono ?_; rintro e w1 ⟨rfl, rfl⟩)
        | (go_at_call 13; refine (HN.out _ _).mono ?_; rintro e w1 ⟨rfl, rfl⟩)
        | (go_at_call 15; refine (sdel_no _ _ _ HI.out.s).mono ?_; rintro e w1 ⟨rfl, rfl⟩)
        | (go_at_call 16; refine (slen_no _ _ HI.out.s).mono ?_; rintro e w1 ⟨rfl, rfl⟩)
        | (go_at_call 17; refine (shash_no _ _ HI.out.s).mono ?_; rintro e w1 ⟨rfl, rfl⟩)
        | (go_at_call 18; refine (sbytes_no _ _ HI.out.s).mono ?_; rintro e w2 ⟨rfl, hb⟩; replace HI := hidb (HI.out.step hb); clear c2 c3 hb; obtain ⟨c2, c3⟩ := HC.out q1 q2 w2 HI.out)
        | (go_at_call 19; refine (sscan_no _ [] [] _ _ HI.out.s).mono ?_; rintro e w3 ⟨rfl, hb⟩; replace HI := hidb (HI.out.step hb); clear c2 c3 hb; obtain ⟨c2, c3⟩ := HC.out q1 q2 w3 HI.out)
        | (go_at_call 20; refine (xchanges_no _ _ HI.out.t).mono ?_; rintro e w4 ⟨rfl, hb⟩; replace HI := hidb (HI.out.step hb); clear c2 c3 hb; obtain ⟨c2, c3⟩ := HC.out q1 q2 w4 HI.out)
        | (go_at_call 21; refine (xsave_no _ _ _ _ HI.out.t).mono ?_; rintro e w1 ⟨rfl, rfl⟩)
        | (go_at_call 22; refine (xwipe_no _ _ _ HI.out.t).mono ?_; rintro e w1 ⟨rfl, rfl⟩)
        | (go_at_call 23; refine (xcommit_no _ _ HI.out.t).mono ?_; rintro e w1 ⟨rfl, rfl⟩)
        | (go_at_call 24; refine (sclone_no _ _ HI.out.s).mono ?_; rintro e w1 ⟨rfl, rfl⟩)
        | (go_at_call 25; refine (begin_no _ _ HI.out.s).mono ?_; rintro e w1 ⟨rfl, rfl⟩)
        | fail)
      have hB : Below w1.heap.size w1 ((w1.alloc (.cells #[.pointer none] 52)).alloc (.cells #[.pointer none, .pointer none] 55)) := ((Below.refl _ w1).alloc (Nat.le_refl _) _).alloc (by simp) _
      have hs := HI.out.b.size
      refine ⟨⟨i + 1, _, _, by go_num, by omega, rfl, rfl, hidb ⟨.inr ⟨_, by simp; omega, rfl, ?_⟩, .inr ⟨_, by simp, rfl, ?_⟩, HI.out.b.trans (hB.mono hs)⟩⟩, by simp [intOf]; omega⟩
      · have e := (Below.heap_alloc (w1.alloc (.cells #[.pointer none] 52)) (.cells #[.pointer none, .pointer none] 55) w1.heap.size (by simp)).trans (heap_alloc_new w1 _)
        exact Lib.cell_of_heap e 0
      · have e := heap_alloc_new (w1.alloc (.cells #[.pointer none] 52)) (.cells #[.pointer none, .pointer none] 55)
        rw [World.size_alloc] at e
        exact Lib.cell_of_heap e 0
    · go_wp2_with (first
        | (go_at_call 7; refine (HK.out _).mono ?_; clear HK; rintro e w1 ⟨rfl, hb⟩)
        | fail)
      go_ret
      rw [HZ.out]
      exact ⟨rfl, (HE.out wr w1).2 HI.out.b hb⟩
end Go.Proofs.YticihfbhnbkjjaaDoor
