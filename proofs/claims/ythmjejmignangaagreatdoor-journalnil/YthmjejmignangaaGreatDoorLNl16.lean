/- Layer 16: the law JournalNil. -/
import Derived.Test.YthmjejmignangaaGreatDoorNlS
import Derived.Test.YthmjejmignangaaGreatDoorJNw
namespace Go.Proofs.YthmjejmignangaaGreatDoor
open Go.RowKit
theorem d0_new (w : World) : D0 w.heap.size (w.alloc (.cells #[.int .i64 10, .int .i64 (-1), .bool false, .slice none 0 0] 97)) := by
  have h := heap_alloc_new w (.cells #[.int .i64 10, .int .i64 (-1), .bool false, .slice none 0 0] 97)
  exact ⟨Lib.cell_of_heap h 0, Lib.cell_of_heap h 1, Lib.cell_of_heap h 2, Lib.cell_of_heap h 3, lt_of_block h, fun k => Lib.frozen_of_heap h k⟩
/-- The document's answer on a new disk. -/
theorem rfirst16 (file : Bt) (hf : file.length ≤ 9223372036854775807) (w : World) : Calls Tryz.prog 20 #[.pointer (some ⟨w.heap.size, 0, none⟩), sv file, .int .i64 0, .string ⟨#[]⟩] (w.alloc (.cells #[.int .i64 10, .int .i64 (-1), .bool false, .slice none 0 0] 97)) fun e w' => e = .returned (.int .i64 (if nameB file = false then 1 else 0)) ∧ Below w.heap.size w w' := by
  have hb : Below w.heap.size w (w.alloc (.cells #[.int .i64 10, .int .i64 (-1), .bool false, .slice none 0 0] 97)) := (Below.refl _ w).alloc (Nat.le_refl _) _
  cases hn : nameB file with
  | false =>
    refine (rwrite_no16 _ file _ hf hn (d0_new w)).mono fun e w' ⟨h1, h2⟩ => ⟨by rw [h1]; rfl, ?_⟩
    rw [h2]
    exact hb
  | true =>
    refine (rwrite_yes16 _ file _ hf hn (d0_new w)).mono fun e w' ⟨h1, h2⟩ => ⟨by rw [h1]; rfl, hb.trans h2⟩
set_option maxRecDepth 100000 in
set_option maxHeartbeats 4000000 in
theorem jnil16_any (a : Option Addr) (n c : Nat) (file : Bt) (hf : file.length ≤ 9223372036854775807) (w : World) : Calls Tryz.prog 4 #[.slice a n c, sv file] w fun e w' => e = .returned (.bool true) ∧ Below w.heap.size w w' := by
  have HK := hidb knows_any16
  go_enter Tryz.func4, Tryz.ntmps4
  go_upto_region 4 with fail
  go_loopw [5, 6, 7] (fun dv jv iv wr => ∃ (i : Nat) (qd qj : Option Addr), dv = .pointer qd ∧ jv = .pointer qj ∧ iv = .int .i64 i ∧ i ≤ 2 ∧ Hid (Unm16 qd wr ∧ Unm16 qj wr ∧ Below w.heap.size w wr)) (fun _ _ iv _ => 2 - (intOf iv).toNat)
  case atStart => exact ⟨0, none, none, rfl, rfl, rfl, by omega, hidb ⟨.inl rfl, .inl rfl, Below.refl _ _⟩⟩
  case round =>
    obtain ⟨i, qd, qj, rfl, rfl, rfl, hi, HU⟩ := hrel
    by_cases h2 : i < 2
    · have HO := hidb (open_no16 qd wr HU.out.1)
      have HJ : Hid (∀ V, Below wr.heap.size wr V → Unm16 qj V) := hidb fun V hV => HU.out.2.1.below hV
      have h2' : (i : Int) < 2 := by omega
      go_wp2_with (first
        | (go_at_call 12; refine HO.out.mono ?_; clear HO; rintro e W1 ⟨rfl, hb1⟩; have HB1 := hidb hb1; clear hb1)
        | (go_at_call 13; refine (num_any16 _ _).mono ?_; rintro e Wn ⟨rfl, e2⟩; obtain rfl := e2.symm)
        | (go_at_call 14; refine (jappend_no16 qj a n c _ (HJ.out _ HB1.out)).mono ?_; rintro e Wa ⟨rfl, e3⟩; obtain rfl := e3.symm)
        | (go_at_call 15; refine (jsync_no16 qj _ (HJ.out _ HB1.out)).mono ?_; rintro e Wb ⟨rfl, e4⟩; obtain rfl := e4.symm)
        | (go_at_call 16; refine (jlen_no16 qj _ (HJ.out _ HB1.out)).mono ?_; rintro e Wc ⟨rfl, e5⟩; obtain rfl := e5.symm)
        | (go_at_call 17; refine (jepoch_no16 qj _ (HJ.out _ HB1.out)).mono ?_; rintro e Wd ⟨rfl, e6⟩; obtain rfl := e6.symm)
        | fail)
      refine ⟨⟨i + 1, _, _, rfl, rfl, by simp, by omega, hidb ?_⟩, by simp [intOf]; omega⟩
      have hn1 := heap_alloc_new W1 (.cells #[.pointer none] 43)
      have hn2 := heap_alloc_new (W1.alloc (.cells #[.pointer none] 43)) (.cells #[.pointer none] 46)
      rw [World.size_alloc] at hn2
      have hn3 : ((W1.alloc (.cells #[.pointer none] 43)).alloc (.cells #[.pointer none] 46)).heap[W1.heap.size]? = some (.cells #[.pointer none] 43 (0, 0)) := (Below.heap_alloc _ _ _ (by simp)).trans hn1
      have hbb : Below w.heap.size w ((W1.alloc (.cells #[.pointer none] 43)).alloc (.cells #[.pointer none] 46)) := by
        have h5 := HU.out.2.2.trans (HB1.out.mono HU.out.2.2.size)
        exact (h5.alloc h5.size _).alloc (by have := h5.size; simp; omega) _
      exact ⟨.inr ⟨_, lt_of_block hn3, rfl, Lib.cell_of_heap hn3 0⟩, .inr ⟨_, lt_of_block hn2, rfl, Lib.cell_of_heap hn2 0⟩, hbb⟩
    · obtain rfl : i = 2 := by omega
      have HD := hidb (disk_any16 10 (by omega) (by omega) wr)
      have HF : Hid (∀ (V : World) db, Hid (DkAt (fun k => k < wr.heap.size) db (newD 10) V ∧ Below wr.heap.size wr V) → Calls Tryz.prog 20 #[.pointer (some ⟨V.heap.size, 0, none⟩), sv file, .int .i64 0, .string ⟨#[]⟩] (V.alloc (.cells #[.int .i64 10, .int .i64 (-1), .bool false, .slice none 0 0] 97)) fun e w' => e = .returned (.int .i64 (if nameB file = false then 1 else 0)) ∧ Hid (DkAt (fun k => k < wr.heap.size) db (newD 10) w' ∧ Below wr.heap.size wr w')) := hidb fun V db h =>
        (rfirst16 file hf V).mono fun e w' ⟨h1, h2⟩ => ⟨h1, hidb ⟨h.out.1.below h2, h.out.2.trans (h2.mono h.out.2.size)⟩⟩
      have HOp : Hid (∀ (V : World) db, Hid (DkAt (fun k => k < wr.heap.size) db (newD 10) V ∧ Below wr.heap.size wr V) → _) := hidb fun V db h => open_fresh16 file hf wr h.out.1 h.out.2
      have HE : Hid (∀ W W', Below wr.heap.size wr W → Below W.heap.size W W' → Below w.heap.size w W') := hidb fun W W' h1 h2 => HU.out.2.2.trans ((h1.mono HU.out.2.2.size).trans (h2.mono (Nat.le_trans HU.out.2.2.size h1.size)))
      clear HU
      cases hn : nameB file with
      | false =>
        simp only [hn, if_true] at HF HOp
        go_wp2_with (first
          | (go_at_call 18; refine HD.out.mono ?_; clear HD; rintro e V1 ⟨db, rfl, h1⟩)
          | (go_at_call 19; refine (rnew16 _).mono ?_; rintro e V2 ⟨rfl, e2⟩; obtain rfl := e2.symm)
          | (go_at_call 20; refine (HF.out _ _ h1).mono ?_; clear HF; rintro e V3 ⟨rfl, h3⟩)
          | (go_at_call 12; refine (HOp.out _ _ h3).mono ?_; clear HOp; rintro e V4 ⟨q, a4, n4, c4, rfl, h4, hq⟩; obtain rfl := hq.1 trivial; clear hq)
          | (go_at_call 13; refine (num_any16 _ _).mono ?_; rintro e Wn ⟨rfl, e5⟩; obtain rfl := e5.symm)
          | (go_at_call 11; refine (HK.out _).mono ?_; rintro e V5 ⟨rfl, h5⟩)
          | fail)
        go_ret
        exact ⟨rfl, HE.out _ _ h4.out h5⟩
      | true =>
        simp only [hn, Bool.true_eq_false, if_false] at HF HOp
        go_wp2_with (first
          | (go_at_call 18; refine HD.out.mono ?_; clear HD; rintro e V1 ⟨db, rfl, h1⟩)
          | (go_at_call 19; refine (rnew16 _).mono ?_; rintro e V2 ⟨rfl, e2⟩; obtain rfl := e2.symm)
          | (go_at_call 20; refine (HF.out _ _ h1).mono ?_; clear HF; rintro e V3 ⟨rfl, h3⟩)
          | (go_at_call 12; refine (HOp.out _ _ h3).mono ?_; clear HOp; rintro e V4 ⟨q, a4, n4, c4, rfl, h4, hq⟩; obtain ⟨qa, rfl⟩ : ∃ x, q = some x := Option.ne_none_iff_exists'.1 fun e => (hq.2 e).elim; clear hq)
          | (go_at_call 13; refine (num_any16 _ _).mono ?_; rintro e Wn ⟨rfl, e5⟩; obtain rfl := e5.symm)
          | (go_at_call 11; refine (HK.out _).mono ?_; rintro e V5 ⟨rfl, h5⟩)
          | fail)
        go_ret
        exact ⟨rfl, HE.out _ _ h4.out h5⟩
end Go.Proofs.YthmjejmignangaaGreatDoor
