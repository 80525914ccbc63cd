/- slices.Repeat of a list of one number. What Match does at each place. -/
import Derived.Test.YtodagpmcmjleaaaGreatSE
import Derived.Test.YtodagpmcmjleaaaGreatShelf
import Derived.Laws.CopyOwn
import Derived.Deep.RegionHeld3
namespace Go.Proofs.YtodagpmcmjleaaaGreat
open Go.RowKit
/-- The first k of n numbers are laid. -/
def fillS (n k : Nat) : List Int := List.replicate k (-1) ++ List.replicate (n - k) 0
theorem fillS_len {n k : Nat} (h : k ≤ n) : (fillS n k).length = n := by simp [fillS]; omega
theorem fillS_all (n : Nat) : fillS n n = List.replicate n (-1) := by simp [fillS]
theorem fillS_at {n k j : Nat} (h : j < k) : (fillS n k)[j]? = some (-1) := by
  rw [fillS, List.getElem?_append_left (by simpa using h)]
  simp [h]
theorem splice_fill {n k m : Nat} (h : k + m ≤ n) : splice (cellsN (fillS n k)) k (cellsN (List.replicate m (-1))) = cellsN (fillS n (k + m)) := by
  simp only [splice, cellsN, fillS, List.map_append, List.map_replicate, List.length_replicate]
  rw [List.take_append_of_le_length (by simp), List.take_of_length_le (by simp), List.drop_append, List.drop_of_length_le (by simp), ← List.append_assoc, List.replicate_append_replicate]
  rw [List.length_replicate, List.drop_replicate, show n - k - (k + m - k) = n - (k + m) by omega, List.nil_append]
/-- A copy that lays more of them. -/
theorem copy_fill (W : World) (g n k m : Nat) (dp sp : Option Addr) (dl dc sl sc : Nat) (hg : NumBlk g (fillS n k) W) (hm : m = Nat.min sl dl) (hk : k + m ≤ n) (hp : 0 < m → dp = some ⟨g, k, none⟩ ∧ ∃ ad, sp = some ad ∧ ∀ j, j < m → W.cell? (ad.add j) = some (.int .i64 (-1))) :
    ∃ W2, (Builtin.copy_ #[27, 27] 3 #[.slice dp dl dc, .slice sp sl sc]).run Tryz.prog W = .ok (.int .i64 m) W2 ∧ NumBlk g (fillS n (k + m)) W2 ∧ Below g W W2 := by
  have hsz : (Tryz.prog.info? 3).map (·.size) = some 1 := by
    obtain ⟨i0, hi, hz0, hz1, hz2⟩ := info_parts (show (Tryz.prog.info? 3).map (fun i => (i.zero, i.size, i.bytes)) = some (some (.int .i64 0), 1, 8) by kernel_rfl)
    rw [hi]; simp [hz1]
  by_cases h0 : m = 0
  · have hr := run_copy_none (P := Tryz.prog) W 27 27 3 3 dp sp dl dc sl sc Tryz.underlying27 hsz (by rw [← hm]; exact h0)
    refine ⟨W, ?_, ?_, Below.refl _ _⟩
    · rw [hr, h0]; rfl
    · rw [h0]; exact hg
  · obtain ⟨rfl, ad, rfl, hc⟩ := hp (by omega)
    have hlen : (cellsN (List.replicate m (-1))).length = m := by simp [cellsN]
    have hr := run_copy_row (P := Tryz.prog) W 27 27 3 3 g k dl dc ad sl sc _ 3 (cellsN (List.replicate m (-1))) Tryz.underlying27 hsz hg (by rw [hlen]; exact hm) (by
      intro j v hv
      have hj : j < m := by rw [← hlen]; exact (List.getElem?_eq_some_iff.1 hv).1
      simp only [cellsN, List.map_replicate] at hv
      rw [List.getElem?_replicate, if_pos hj] at hv
      cases hv
      exact hc j hj) (by rw [hlen]; simp [cellsN, fillS_len (show k ≤ n by omega)]; omega) (cellsN_one _)
    refine ⟨_, hr.trans (by rw [hlen]; rfl), ?_, below_setRow (Below.refl _ _) (Nat.le_refl _) _⟩
    unfold NumBlk
    rw [← splice_fill hk, splice, hlen, ← List.append_assoc]
    exact setRow_heap _ _ _ _ _ _ hg
set_option maxRecDepth 100000 in
set_option maxHeartbeats 1000000 in
theorem repeat_any (b0 : Nat) (n : Nat) (hn : n ≤ 9000000000000) (w : World) (h0 : w.cell? ⟨b0, 0, none⟩ = some (.int .i64 (-1))) :
    Calls Tryz.prog 41 #[.slice (some ⟨b0, 0, none⟩) 1 1, .int .i64 n] w fun e w' => e = .returned (.slice (some ⟨w.heap.size, 0, none⟩) n n) ∧ NumBlk w.heap.size (List.replicate n (-1)) w' ∧ Below w.heap.size w w' := by
  have hMul : ∀ W, Calls Tryz.prog 62 #[.int .u64 1, .int .u64 n] W fun e w' => e = .returned (.tuple #[.int .u64 0, .int .u64 n]) ∧ w' = W := fun W => by
    have := Tryz.bits_Mul 1 n (by omega) (by omega) W
    rw [show 1 * n / 18446744073709551616 = 0 by omega, show 1 * n % 18446744073709551616 = n by omega] at this
    exact this
  obtain ⟨i0, hi, hz0, hz1, hz2⟩ := info_parts (show (Tryz.prog.info? 3).map (fun i => (i.zero, i.size, i.bytes)) = some (some (.int .i64 0), 1, 8) by kernel_rfl)
  have hw : IntKind.u64.wrap (n : Int) = (n : Int) := by rw [IntKind.wrap_u64]; omega
  have hw2 : IntKind.i64.wrap (n : Int) = (n : Int) := by rw [IntKind.wrap_i64]; omega
  have hbl := World.block_lt_of_cell? w _ h0
  have hmk : (Instr.makeSlice 27 (.int .i64 (n : Int)) (.int .i64 (n : Int))).run Tryz.prog w = .ok (.slice (some ⟨w.heap.size, 0, none⟩) n n) (w.alloc (.cells (cellsN (fillS n 0)).toArray 3)) := by
    have hr := run_make (P := Tryz.prog) w 27 3 i0 (.int .i64 0) Tryz.underlying27 hi hz0 .i64 .i64 (n : Int) (n : Int) (by omega) (Int.le_refl _) (by rw [hz2]; omega) (by omega)
    rw [hr, hz1]
    simp only [Int.toNat_natCast, Nat.mul_one]
    have e : (madeCells (Value.cells (.int .i64 0)) n) = (cellsN (fillS n 0)).toArray := by
      apply Array.toList_inj.1
      rw [show Value.cells (.int .i64 0) = #[.int .i64 0] from rfl, toList_madeCells_one]
      simp [cellsN, fillS]
    rw [e]
  have hb1 := (Below.refl _ w).alloc (Nat.le_refl _) (.cells (cellsN (fillS n 0)).toArray 3)
  obtain ⟨q, hq⟩ : ∃ q, q = Nat.min 1 n := ⟨_, rfl⟩
  have hq1 : q ≤ n ∧ (0 < n → 0 < q) := by rw [hq]; show min 1 n ≤ n ∧ (0 < n → 0 < min 1 n); omega
  obtain ⟨w2, hcp, hG2, hB2⟩ := copy_fill (w.alloc (.cells (cellsN (fillS n 0)).toArray 3)) w.heap.size n 0 q (some ⟨w.heap.size, 0, none⟩) (some ⟨b0, 0, none⟩) n n 1 1 (heap_alloc_new w _) hq (by omega) (fun _ => ⟨rfl, _, rfl, fun j hj => by
    have : j = 0 := by rw [hq] at hj; have : j < min 1 n := hj; omega
    subst this
    rw [Addr.add_lit, Nat.zero_add]
    exact (hb1.cell hbl).trans h0⟩)
  have HG2 := hid6 (And.intro hG2 ((hb1.mono (Nat.le_refl _)).trans hB2))
  rw [Nat.zero_add] at HG2
  clear hi hz0 hz1 hz2 hG2 hB2 hq hb1
  generalize (cellsN (fillS n 0)).toArray = cur0 at hmk hcp
  go_enter Tryz.func41, Tryz.ntmps41
  go_wp2_with (first
    | (go_at_call 62; refine (hMul _).mono ?_; rintro e w' ⟨rfl, e1⟩; rw [e1]; clear e1)
    | fail)
  go_loopw [8] (fun i wr => ∃ k : Nat, k ≤ n ∧ (0 < n → 0 < k) ∧ i = .int .i64 k ∧ Hid (NumBlk w.heap.size (fillS n k) wr ∧ Below w.heap.size w wr)) (fun i _ => n - (intOf i).toNat)
  case atStart => exact ⟨q, hq1.1, hq1.2, rfl, HG2⟩
  case round =>
    obtain ⟨k, hk, hk0, rfl, HR⟩ := hrel
    clear hcp hmk hMul HG2
    by_cases hlt : k < n
    · have hkk := hk0 (by omega)
      obtain ⟨m, hm⟩ : ∃ m, m = Nat.min k (n - k) := ⟨_, rfl⟩
      have hm1 : 0 < m ∧ k + m ≤ n := by rw [hm]; show 0 < min k (n - k) ∧ k + min k (n - k) ≤ n; omega
      obtain ⟨w3, hcp3, hG3, hB3⟩ := copy_fill wr.drew w.heap.size n k m (some ⟨w.heap.size, k, none⟩) (some ⟨w.heap.size, 0, none⟩) (n - k) (n - k) k n HR.out.1 hm hm1.2 (fun _ => ⟨rfl, _, rfl, fun j hj => by
        have hj2 : j < k := by rw [hm] at hj; have : j < min k (n - k) := hj; omega
        rw [Addr.add_lit, Nat.zero_add]
        obtain ⟨e, _⟩ := HR.out.1.at j (by rw [fillS_len hk]; omega)
        have e2 := fillS_at (n := n) hj2
        rw [List.getElem?_eq_getElem (by rw [fillS_len hk]; omega)] at e2
        have e3 : (fillS n k)[j]'(by rw [fillS_len hk]; omega) = -1 := by simpa using e2
        rw [e3] at e
        exact e⟩)
      have H3 := hid6 (And.intro hG3 (HR.out.2.drew.trans hB3))
      have hn1 : ¬ n = k := by omega
      have hwk : IntKind.i64.wrap ((k : Int) + (m : Int)) = (k : Int) + (m : Int) := by rw [IntKind.wrap_i64]; omega
      clear hG3 hB3 hm
      go_wp2_with fail
      go_region_law fail
      all_goals simp [Act.put]
      all_goals go_wp2_with fail
      all_goals exact ⟨⟨k + m, hm1.2, fun _ => by omega, by simp, H3⟩, by simp [intOf]; omega⟩
    · have : k = n := by omega
      subst this
      go_wp2_with fail
      go_ret
      exact ⟨rfl, by rw [← fillS_all]; exact HR.out.1, HR.out.2⟩
end Go.Proofs.YtodagpmcmjleaaaGreat
namespace Go.Proofs.YtodagpmcmjleaaaGreat
open Go.RowKit
def oOf (x : Int) : Option Nat := if x = -1 then none else some x.toNat
/-- What is noted at place k. -/
def visS (nn : Int) (k : Nat) (L : List Blk) (ms : List Int) : List Int :=
  if nn = 50 then (match L.getLast? with | none => ms | some b => pairS ms b.s.toNat (oOf b.o) k)
  else if nn = 52 then (match firstIx L Blk.l L.length with | none => ms | some i => ms.set k ((L[i]?.map Blk.s).getD 0))
  else ms
def Blk.ok (n : Nat) (b : Blk) : Prop := 0 ≤ b.s ∧ b.s < n ∧ (b.o = -1 ∨ 0 ≤ b.o ∧ b.o < n)
theorem Stk.only {p g : Nat} {L : List Blk} {a : Option Addr} {cap : Nat} {W W' : World} (h : Stk (p + 1) p L a cap W) (ho : Only g W W') (hg : g < p) : Stk (p + 1) p L a cap W' := by
  refine ⟨ho.obj h.box (by omega), ?_⟩
  have hk := h.row.kept ho (by
    rcases hb : (Value.slice a L.length cap).ownBlock with _ | q
    · exact .inl rfl
    · right
      intro e
      have := (h.row.lt q hb).1
      cases e
      omega)
  exact hk
theorem pairS_len (ms : List Int) (s : Nat) (o : Option Nat) (t : Nat) : (pairS ms s o t).length = ms.length := by cases o <;> simp [pairS]
theorem visS_len (nn : Int) (k : Nat) (L : List Blk) (ms : List Int) : (visS nn k L ms).length = ms.length := by
  unfold visS
  split
  · split
    · rfl
    · exact pairS_len _ _ _ _
  · split
    · split
      · rfl
      · simp
    · rfl
set_option maxRecDepth 100000 in
set_option maxHeartbeats 1000000 in
theorem visit_any {p g cB mB cb co cc n k : Nat} {nn : Int} {ms : List Int} {L : List Blk} {a : Option Addr} {cap : Nat} (W : World) (hS : Stk (p + 1) p L a cap W) (hl : L.length ≤ 8) (hk : k < n) (hml : ms.length = n) (hok : ∀ b ∈ L, b.ok n) (hst : standS nn L = true)
    (hcb : W.heap[cB]? = some (.cells #[.slice (some ⟨cb, co, none⟩) n cc] 42 (0, 0))) (hmb : W.heap[mB]? = some (.cells #[.slice (some ⟨g, 0, none⟩) n n] 27 (0, 0))) (hc : W.cell? ⟨cb, co + k * 2, none⟩ = some (.int .i64 nn)) (hB : NumBlk g ms W) (hgp : g < p) :
    Calls Tryz.prog 43 #[.int .i64 k, .pointer (some ⟨p, 0, none⟩), .pointer (some ⟨cB, 0, none⟩), .pointer (some ⟨mB, 0, none⟩)] W fun e w' => e = .returned (.tuple #[]) ∧ Stk (p + 1) p L a cap w' ∧ NumBlk g (visS nn k L ms) w' ∧ Only g W w' := by
  obtain ⟨x0, _⟩ := one_cell hcb
  obtain ⟨x1, _⟩ := one_cell hmb
  have hkeep : ∀ w, Below W.heap.size W w → w.cell? ⟨mB, 0, none⟩ = some (.slice (some ⟨g, 0, none⟩) n n) := fun w hb => (hb.cell (blk_lt hmb)).trans x1
  by_cases n1 : nn = 50
  · subst n1
    rcases List.eq_nil_or_concat L with rfl | ⟨M, b, rfl⟩
    · simp [standS] at hst
    rw [List.concat_eq_append] at hS hl hok ⊢
    obtain ⟨gg, rfl, _⟩ := hS.at (by simp)
    have hT := top_any W.drew (hS.keep (Below.refl _ W).drew) (fun _ => rfl) (by omega) (some M.length) (hid6 (first_snoc M b))
    have hat : ∀ wr, Below W.heap.size W wr → wr.cell? ⟨gg, M.length * 3, none⟩ = some (.int .i64 b.s) ∧ wr.cell? ⟨gg, M.length * 3 + 1, none⟩ = some (.int .i64 b.o) ∧ wr.cell? ⟨gg, M.length * 3 + 2, none⟩ = some (.bool b.l) := fun wr hb => by
      obtain ⟨g', e, _, _, _, hc⟩ := (hS.keep hb).at (by simp)
      cases e
      simpa using hc M.length (by simp)
    obtain ⟨ok1, ok2, ok3⟩ := hok b (by simp)
    obtain ⟨s, hs⟩ : ∃ s : Nat, b.s = s := ⟨b.s.toNat, by omega⟩
    have HE : Hid (visS 50 k (M ++ [b]) ms = pairS ms s (oOf b.o) k) := hid6 (by simp [visS, hs])
    have ho : b.o = oInt (oOf b.o) := by
      unfold oOf
      rcases ok3 with h | ⟨h1, h2⟩
      · rw [if_pos h, h]; rfl
      · rw [if_neg (by omega)]; simp only [oInt]; omega
    have hoo : ∀ x, oOf b.o = some x → x < n := by
      intro x hx
      unfold oOf at hx
      split at hx
      · cases hx
      · cases hx; omega
    have hsn : s < n := by omega
    rw [hs, ho] at hat
    generalize oOf b.o = o at hat HE hoo
    have hP := fun w (h : NumBlk g ms w) => pair_any g ms n n hml s k o b.l hsn hk hoo w h
    simp only [Blk.v] at hP
    simp only [ptrIx] at hT
    generalize oInt o = oi at hat hP
    generalize b.l = bl at hat hP
    generalize M.length = q at hat hT
    have hmg : mB ≠ g := by
      rintro rfl
      unfold NumBlk at hB
      rw [hmb] at hB
      simp at hB
    have hgg : gg ≠ g := by
      have := (hS.row.lt gg rfl).1
      omega
    have hS4 : ∀ w, Below W.heap.size W w → w.cell? ⟨mB, 0, none⟩ = some (.slice (some ⟨g, 0, none⟩) n n) ∧ w.cell? ⟨gg, q * 3, none⟩ = some (.int .i64 s) ∧ w.cell? ⟨gg, q * 3 + 1, none⟩ = some (.int .i64 oi) ∧ w.cell? ⟨gg, q * 3 + 2, none⟩ = some (.bool bl) := fun w hb => ⟨hkeep w hb, hat w hb⟩
    have hS5 : ∀ w w', Below W.heap.size W w → Only g w w' → w'.cell? ⟨mB, 0, none⟩ = some (.slice (some ⟨g, 0, none⟩) n n) ∧ w'.cell? ⟨gg, q * 3, none⟩ = some (.int .i64 s) ∧ w'.cell? ⟨gg, q * 3 + 1, none⟩ = some (.int .i64 oi) ∧ w'.cell? ⟨gg, q * 3 + 2, none⟩ = some (.bool bl) := fun w w' hb ho => by
      obtain ⟨e0, e1, e2, e3⟩ := hS4 w hb
      exact ⟨ho.cell e0 (by simpa using hmg), ho.cell e1 (by simpa using hgg), ho.cell e2 (by simpa using hgg), ho.cell e3 (by simpa using hgg)⟩
    obtain ⟨_, y0, y1, y2⟩ := hS4 W (Below.refl _ _)
    have HS := hid6 hS
    have HB := hid6 hB
    have HP := hid6 hP
    clear hS hB hok hst ok1 ok2 ok3 hs ho hoo hcb hmb hP
    go_enter Tryz.func43, Tryz.ntmps43
    go_wp2_with fail
    go_region_held3 (fun W => W.cell? ⟨mB, 0, none⟩ = some (.slice (some ⟨g, 0, none⟩) n n) ∧ W.cell? ⟨gg, q * 3, none⟩ = some (.int .i64 s) ∧ W.cell? ⟨gg, q * 3 + 1, none⟩ = some (.int .i64 oi) ∧ W.cell? ⟨gg, q * 3 + 2, none⟩ = some (.bool bl)) (first | go_keep | exact hS5 _ _ hb2 hO3 | exact hS4 _ hb2 | exact hS4 _ (Below.refl _ W).drew) (first
      | (go_at_call 45; refine hT.mono ?_; clear hT; rintro e w2 ⟨rfl, hb2'⟩; have hb2 : Below W.heap.size W w2 := (Below.refl _ W).drew.trans hb2'; skip)
      | (go_at_call 44; refine (HP.out _ ((hb2.block _ (blk_lt HB.out)).trans HB.out)).mono ?_; rintro e w3 ⟨rfl, hB3, hO3⟩))
    all_goals
      go_wp2_with fail
      go_end0
      exact ⟨rfl, (HS.out.keep hb2).only hO3 hgp, by rw [HE.out]; exact hB3, (Only.below hb2).trans hO3⟩
  by_cases n2 : nn = 52
  · subst n2
    have hsome : (firstIx L Blk.l L.length).isSome = true := by simpa [standS] using hst
    obtain ⟨i, hi⟩ := Option.isSome_iff_exists.1 hsome
    obtain ⟨hil, b, hb, _⟩ := firstIx_lt hi
    obtain ⟨gg, rfl, _⟩ := hS.at (by omega)
    have hT := inner_any W.drew (hS.keep (Below.refl _ W).drew) (fun _ => rfl) (by omega) (some i) (hid6 hi)
    have hbi : L[i]'hil = b := by rw [List.getElem?_eq_getElem hil] at hb; exact Option.some.inj hb
    have hat : ∀ wr, Below W.heap.size W wr → wr.cell? ⟨gg, i * 3, none⟩ = some (.int .i64 b.s) := fun wr hb => by
      obtain ⟨g', e, _, _, _, hc⟩ := (hS.keep hb).at (by omega)
      cases e
      rw [← hbi]
      exact (hc i hil).1
    have HE : Hid (visS 52 k L ms = ms.set k b.s) := hid6 (by simp [visS, hi, hb])
    simp only [ptrIx] at hT
    generalize b.s = s at hat HE
    have hmg : mB ≠ g := by
      rintro rfl
      unfold NumBlk at hB
      rw [hmb] at hB
      simp at hB
    have hgg : gg ≠ g := by
      have := (hS.row.lt gg rfl).1
      omega
    have hS4 : ∀ w, Below W.heap.size W w → w.cell? ⟨mB, 0, none⟩ = some (.slice (some ⟨g, 0, none⟩) n n) ∧ w.cell? ⟨gg, i * 3, none⟩ = some (.int .i64 s) := fun w hb => ⟨hkeep w hb, hat w hb⟩
    have hS5 : ∀ w w', Below W.heap.size W w → Only g w w' → w'.cell? ⟨mB, 0, none⟩ = some (.slice (some ⟨g, 0, none⟩) n n) ∧ w'.cell? ⟨gg, i * 3, none⟩ = some (.int .i64 s) := fun w w' hb ho => by
      obtain ⟨e0, e1⟩ := hS4 w hb
      exact ⟨ho.cell e0 (by simpa using hmg), ho.cell e1 (by simpa using hgg)⟩
    obtain ⟨_, y0⟩ := hS4 W (Below.refl _ _)
    have HZ : Hid (∀ w, Below W.heap.size W w → NumBlk g ms w) := hid6 fun w hb => (hb.block _ (blk_lt hB)).trans hB
    have HS := hid6 hS
    clear hS hB hok hst hcb hmb hi hsome hb hbi
    go_enter Tryz.func43, Tryz.ntmps43
    go_wp2_with fail
    go_region_held3 (fun W => W.cell? ⟨mB, 0, none⟩ = some (.slice (some ⟨g, 0, none⟩) n n) ∧ W.cell? ⟨gg, i * 3, none⟩ = some (.int .i64 s)) (first | exact ⟨x1, y0⟩ | exact hS5 _ _ hb2 (Only.set g k _ _) | exact hS4 _ hb2 | go_keep) (first
      | (go_at_call 46; refine hT.mono ?_; clear hT; rintro e w2 ⟨rfl, hb2'⟩; have hb2 : Below W.heap.size W w2 := (Below.refl _ W).drew.trans hb2'; obtain ⟨z0, z1⟩ := (HZ.out _ hb2).at k (by omega)))
    all_goals
      go_wp2_with fail
      go_end0
      exact ⟨rfl, (HS.out.keep hb2).only (Only.set g k _ _) hgp, by rw [HE.out]; exact (HZ.out _ hb2).set k _, (Only.below hb2).trans (Only.set g k _ _)⟩
  · have HE : Hid (visS nn k L ms = ms) := hid6 (by simp [visS, n1, n2])
    have HH := hid6 (And.intro hS hB)
    clear hS hB hst
    go_enter Tryz.func43, Tryz.ntmps43
    go_wp2_with fail
    go_end0
    exact ⟨rfl, HH.out.1, by rw [HE.out]; exact HH.out.2, Only.refl _ _⟩
end Go.Proofs.YtodagpmcmjleaaaGreat
