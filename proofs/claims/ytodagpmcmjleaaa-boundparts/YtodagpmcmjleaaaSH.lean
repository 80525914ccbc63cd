/- slices.Repeat of a list of one number. -/
import Derived.Test.YtodagpmcmjleaaaSF
import Derived.Test.YtodagpmcmjleaaaShelf
import Derived.Laws.CopyOwn
namespace Go.Proofs.Ytodagpmcmjleaaa
open Go.RowKit
/-- The first k of n numbers are laid. -/
def fillS (n k : Nat) : List Int := List.replicate k (-1) ++ List.replicate (n - k) 0
theorem fillS_len {n k : Nat} (h : k ≤ n) : (fillS n k).length = n := by simp [fillS]; omega
theorem fillS_all (n : Nat) : fillS n n = List.replicate n (-1) := by simp [fillS]
theorem fillS_at {n k j : Nat} (h : j < k) : (fillS n k)[j]? = some (-1) := by
  rw [fillS, List.getElem?_append_left (by simpa using h)]
  simp [h]
theorem splice_fill {n k m : Nat} (h : k + m ≤ n) : splice (cellsN (fillS n k)) k (cellsN (List.replicate m (-1))) = cellsN (fillS n (k + m)) := by
  simp only [splice, cellsN, fillS, List.map_append, List.map_replicate, List.length_replicate]
  rw [List.take_append_of_le_length (by simp), List.take_of_length_le (by simp), List.drop_append, List.drop_of_length_le (by simp), ← List.append_assoc, List.replicate_append_replicate]
  rw [List.length_replicate, List.drop_replicate, show n - k - (k + m - k) = n - (k + m) by omega, List.nil_append]
/-- A copy that lays more of them. -/
theorem copy_fill (W : World) (g n k m : Nat) (dp sp : Option Addr) (dl dc sl sc : Nat) (hg : NumBlk g (fillS n k) W) (hm : m = Nat.min sl dl) (hk : k + m ≤ n) (hp : 0 < m → dp = some ⟨g, k, none⟩ ∧ ∃ ad, sp = some ad ∧ ∀ j, j < m → W.cell? (ad.add j) = some (.int .i64 (-1))) :
    ∃ W2, (Builtin.copy_ #[23, 23] 3 #[.slice dp dl dc, .slice sp sl sc]).run Try.prog W = .ok (.int .i64 m) W2 ∧ NumBlk g (fillS n (k + m)) W2 ∧ Below g W W2 := by
  have hsz : (Try.prog.info? 3).map (·.size) = some 1 := by
    obtain ⟨i0, hi, hz0, hz1, hz2⟩ := info_parts (show (Try.prog.info? 3).map (fun i => (i.zero, i.size, i.bytes)) = some (some (.int .i64 0), 1, 8) by kernel_rfl)
    rw [hi]; simp [hz1]
  by_cases h0 : m = 0
  · have hr := run_copy_none (P := Try.prog) W 23 23 3 3 dp sp dl dc sl sc Try.underlying23 hsz (by rw [← hm]; exact h0)
    refine ⟨W, ?_, ?_, Below.refl _ _⟩
    · rw [hr, h0]; rfl
    · rw [h0]; exact hg
  · obtain ⟨rfl, ad, rfl, hc⟩ := hp (by omega)
    have hlen : (cellsN (List.replicate m (-1))).length = m := by simp [cellsN]
    have hr := run_copy_row (P := Try.prog) W 23 23 3 3 g k dl dc ad sl sc _ 3 (cellsN (List.replicate m (-1))) Try.underlying23 hsz hg (by rw [hlen]; exact hm) (by
      intro j v hv
      have hj : j < m := by rw [← hlen]; exact (List.getElem?_eq_some_iff.1 hv).1
      simp only [cellsN, List.map_replicate] at hv
      rw [List.getElem?_replicate, if_pos hj] at hv
      cases hv
      exact hc j hj) (by rw [hlen]; simp [cellsN, fillS_len (show k ≤ n by omega)]; omega) (cellsN_one _)
    refine ⟨_, hr.trans (by rw [hlen]; rfl), ?_, below_setRow (Below.refl _ _) (Nat.le_refl _) _⟩
    unfold NumBlk
    rw [← splice_fill hk, splice, hlen, ← List.append_assoc]
    exact setRow_heap _ _ _ _ _ _ hg
set_option maxRecDepth 100000 in
set_option maxHeartbeats 1000000 in
theorem repeat_any (b0 : Nat) (n : Nat) (hn : n ≤ 9000000000000) (w : World) (h0 : w.cell? ⟨b0, 0, none⟩ = some (.int .i64 (-1))) :
    Calls Try.prog 24 #[.slice (some ⟨b0, 0, none⟩) 1 1, .int .i64 n] w fun e w' => e = .returned (.slice (some ⟨w.heap.size, 0, none⟩) n n) ∧ NumBlk w.heap.size (List.replicate n (-1)) w' ∧ Below w.heap.size w w' := by
  have hMul : ∀ W, Calls Try.prog 40 #[.int .u64 1, .int .u64 n] W fun e w' => e = .returned (.tuple #[.int .u64 0, .int .u64 n]) ∧ w' = W := fun W => by
    have := Try.bits_Mul 1 n (by omega) (by omega) W
    rw [show 1 * n / 18446744073709551616 = 0 by omega, show 1 * n % 18446744073709551616 = n by omega] at this
    exact this
  obtain ⟨i0, hi, hz0, hz1, hz2⟩ := info_parts (show (Try.prog.info? 3).map (fun i => (i.zero, i.size, i.bytes)) = some (some (.int .i64 0), 1, 8) by kernel_rfl)
  have hw : IntKind.u64.wrap (n : Int) = (n : Int) := by rw [IntKind.wrap_u64]; omega
  have hw2 : IntKind.i64.wrap (n : Int) = (n : Int) := by rw [IntKind.wrap_i64]; omega
  have hbl := World.block_lt_of_cell? w _ h0
  have hmk : (Instr.makeSlice 23 (.int .i64 (n : Int)) (.int .i64 (n : Int))).run Try.prog w = .ok (.slice (some ⟨w.heap.size, 0, none⟩) n n) (w.alloc (.cells (cellsN (fillS n 0)).toArray 3)) := by
    have hr := run_make (P := Try.prog) w 23 3 i0 (.int .i64 0) Try.underlying23 hi hz0 .i64 .i64 (n : Int) (n : Int) (by omega) (Int.le_refl _) (by rw [hz2]; omega) (by omega)
    rw [hr, hz1]
    simp only [Int.toNat_natCast, Nat.mul_one]
    have e : (madeCells (Value.cells (.int .i64 0)) n) = (cellsN (fillS n 0)).toArray := by
      apply Array.toList_inj.1
      rw [show Value.cells (.int .i64 0) = #[.int .i64 0] from rfl, toList_madeCells_one]
      simp [cellsN, fillS]
    rw [e]
  have hb1 := (Below.refl _ w).alloc (Nat.le_refl _) (.cells (cellsN (fillS n 0)).toArray 3)
  obtain ⟨q, hq⟩ : ∃ q, q = Nat.min 1 n := ⟨_, rfl⟩
  have hq1 : q ≤ n ∧ (0 < n → 0 < q) := by rw [hq]; show min 1 n ≤ n ∧ (0 < n → 0 < min 1 n); omega
  obtain ⟨w2, hcp, hG2, hB2⟩ := copy_fill (w.alloc (.cells (cellsN (fillS n 0)).toArray 3)) w.heap.size n 0 q (some ⟨w.heap.size, 0, none⟩) (some ⟨b0, 0, none⟩) n n 1 1 (heap_alloc_new w _) hq (by omega) (fun _ => ⟨rfl, _, rfl, fun j hj => by
    have : j = 0 := by rw [hq] at hj; have : j < min 1 n := hj; omega
    subst this
    rw [Addr.add_lit, Nat.zero_add]
    exact (hb1.cell hbl).trans h0⟩)
  have HG2 := hid6 (And.intro hG2 ((hb1.mono (Nat.le_refl _)).trans hB2))
  rw [Nat.zero_add] at HG2
  clear hi hz0 hz1 hz2 hG2 hB2 hq hb1
  generalize (cellsN (fillS n 0)).toArray = cur0 at hmk hcp
  go_enter Try.func24, Try.ntmps24
  go_wp2_with (first
    | (go_at_call 40; refine (hMul _).mono ?_; rintro e w' ⟨rfl, e1⟩; rw [e1]; clear e1)
    | fail)
  go_loopw [8] (fun i wr => ∃ k : Nat, k ≤ n ∧ (0 < n → 0 < k) ∧ i = .int .i64 k ∧ Hid (NumBlk w.heap.size (fillS n k) wr ∧ Below w.heap.size w wr)) (fun i _ => n - (intOf i).toNat)
  case atStart => exact ⟨q, hq1.1, hq1.2, rfl, HG2⟩
  case round =>
    obtain ⟨k, hk, hk0, rfl, HR⟩ := hrel
    clear hcp hmk hMul HG2
    by_cases hlt : k < n
    · have hkk := hk0 (by omega)
      obtain ⟨m, hm⟩ : ∃ m, m = Nat.min k (n - k) := ⟨_, rfl⟩
      have hm1 : 0 < m ∧ k + m ≤ n := by rw [hm]; show 0 < min k (n - k) ∧ k + min k (n - k) ≤ n; omega
      obtain ⟨w3, hcp3, hG3, hB3⟩ := copy_fill wr.drew w.heap.size n k m (some ⟨w.heap.size, k, none⟩) (some ⟨w.heap.size, 0, none⟩) (n - k) (n - k) k n HR.out.1 hm hm1.2 (fun _ => ⟨rfl, _, rfl, fun j hj => by
        have hj2 : j < k := by rw [hm] at hj; have : j < min k (n - k) := hj; omega
        rw [Addr.add_lit, Nat.zero_add]
        obtain ⟨e, _⟩ := HR.out.1.at j (by rw [fillS_len hk]; omega)
        have e2 := fillS_at (n := n) hj2
        rw [List.getElem?_eq_getElem (by rw [fillS_len hk]; omega)] at e2
        have e3 : (fillS n k)[j]'(by rw [fillS_len hk]; omega) = -1 := by simpa using e2
        rw [e3] at e
        exact e⟩)
      have H3 := hid6 (And.intro hG3 (HR.out.2.drew.trans hB3))
      have hn1 : ¬ n = k := by omega
      have hwk : IntKind.i64.wrap ((k : Int) + (m : Int)) = (k : Int) + (m : Int) := by rw [IntKind.wrap_i64]; omega
      clear hG3 hB3 hm
      go_wp2_with fail
      go_region_law fail
      all_goals simp [Act.put]
      all_goals go_wp2_with fail
      all_goals exact ⟨⟨k + m, hm1.2, fun _ => by omega, by simp, H3⟩, by simp [intOf]; omega⟩
    · have : k = n := by omega
      subst this
      go_wp2_with fail
      go_ret
      exact ⟨rfl, by rw [← fillS_all]; exact HR.out.1, HR.out.2⟩
end Go.Proofs.Ytodagpmcmjleaaa
