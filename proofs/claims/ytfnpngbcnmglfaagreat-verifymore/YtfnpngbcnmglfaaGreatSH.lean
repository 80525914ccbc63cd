/- slices.Repeat of a list of one number. What Match does at each place. shape.Match. -/
import Derived.Test.YtfnpngbcnmglfaaGreatSE
import Derived.Test.YtfnpngbcnmglfaaGreatShelf
import Derived.Laws.CopyOwn
import Derived.Deep.RegionHeld3
namespace Go.Proofs.YtfnpngbcnmglfaaGreat
open Go.RowKit
/-- The first k of n numbers are laid. -/
def fillS (n k : Nat) : List Int := List.replicate k (-1) ++ List.replicate (n - k) 0
theorem fillS_len {n k : Nat} (h : k ≤ n) : (fillS n k).length = n := by simp [fillS]; omega
theorem fillS_all (n : Nat) : fillS n n = List.replicate n (-1) := by simp [fillS]
theorem fillS_at {n k j : Nat} (h : j < k) : (fillS n k)[j]? = some (-1) := by
  rw [fillS, List.getElem?_append_left (by simpa using h)]
  simp [h]
theorem splice_fill {n k m : Nat} (h : k + m ≤ n) : splice (cellsN (fillS n k)) k (cellsN (List.replicate m (-1))) = cellsN (fillS n (k + m)) := by
  simp only [splice, cellsN, fillS, List.map_append, List.map_replicate, List.length_replicate]
  rw [List.take_append_of_le_length (by simp), List.take_of_length_le (by simp), List.drop_append, List.drop_of_length_le (by simp), ← List.append_assoc, List.replicate_append_replicate]
  rw [List.length_replicate, List.drop_replicate, show n - k - (k + m - k) = n - (k + m) by omega, List.nil_append]
/-- A copy that lays more of them. -/
theorem copy_fill (W : World) (g n k m : Nat) (dp sp : Option Addr) (dl dc sl sc : Nat) (hg : NumBlk g (fillS n k) W) (hm : m = Nat.min sl dl) (hk : k + m ≤ n) (hp : 0 < m → dp = some ⟨g, k, none⟩ ∧ ∃ ad, sp = some ad ∧ ∀ j, j < m → W.cell? (ad.add j) = some (.int .i64 (-1))) :
    ∃ W2, (Builtin.copy_ #[28, 28] 3 #[.slice dp dl dc, .slice sp sl sc]).run Tryz.prog W = .ok (.int .i64 m) W2 ∧ NumBlk g (fillS n (k + m)) W2 ∧ Below g W W2 := by
  have hsz : (Tryz.prog.info? 3).map (·.size) = some 1 := by
    obtain ⟨i0, hi, hz0, hz1, hz2⟩ := info_parts (show (Tryz.prog.info? 3).map (fun i => (i.zero, i.size, i.bytes)) = some (some (.int .i64 0), 1, 8) by kernel_rfl)
    rw [hi]; simp [hz1]
  by_cases h0 : m = 0
  · have hr := run_copy_none (P := Tryz.prog) W 28 28 3 3 dp sp dl dc sl sc Tryz.underlying28 hsz (by rw [← hm]; exact h0)
    refine ⟨W, ?_, ?_, Below.refl _ _⟩
    · rw [hr, h0]; rfl
    · rw [h0]; exact hg
  · obtain ⟨rfl, ad, rfl, hc⟩ := hp (by omega)
    have hlen : (cellsN (List.replicate m (-1))).length = m := by simp [cellsN]
    have hr := run_copy_row (P := Tryz.prog) W 28 28 3 3 g k dl dc ad sl sc _ 3 (cellsN (List.replicate m (-1))) Tryz.underlying28 hsz hg (by rw [hlen]; exact hm) (by
      intro j v hv
      have hj : j < m := by rw [← hlen]; exact (List.getElem?_eq_some_iff.1 hv).1
      simp only [cellsN, List.map_replicate] at hv
      rw [List.getElem?_replicate, if_pos hj] at hv
      cases hv
      exact hc j hj) (by rw [hlen]; simp [cellsN, fillS_len (show k ≤ n by omega)]; omega) (cellsN_one _)
    refine ⟨_, hr.trans (by rw [hlen]; rfl), ?_, below_setRow (Below.refl _ _) (Nat.le_refl _) _⟩
    unfold NumBlk
    rw [← splice_fill hk, splice, hlen, ← List.append_assoc]
    exact setRow_heap _ _ _ _ _ _ hg
set_option maxRecDepth 100000 in
set_option maxHeartbeats 1000000 in
theorem repeat_any (b0 : Nat) (n : Nat) (hn : n ≤ 9000000000000) (w : World) (h0 : w.cell? ⟨b0, 0, none⟩ = some (.int .i64 (-1))) :
    Calls Tryz.prog 131 #[.slice (some ⟨b0, 0, none⟩) 1 1, .int .i64 n] w fun e w' => e = .returned (.slice (some ⟨w.heap.size, 0, none⟩) n n) ∧ NumBlk w.heap.size (List.replicate n (-1)) w' ∧ Below w.heap.size w w' := by
  have hMul : ∀ W, Calls Tryz.prog 174 #[.int .u64 1, .int .u64 n] W fun e w' => e = .returned (.tuple #[.int .u64 0, .int .u64 n]) ∧ w' = W := fun W => by
    have := Tryz.bits_Mul 1 n (by omega) (by omega) W
    rw [show 1 * n / 18446744073709551616 = 0 by omega, show 1 * n % 18446744073709551616 = n by omega] at this
    exact this
  obtain ⟨i0, hi, hz0, hz1, hz2⟩ := info_parts (show (Tryz.prog.info? 3).map (fun i => (i.zero, i.size, i.bytes)) = some (some (.int .i64 0), 1, 8) by kernel_rfl)
  have hw : IntKind.u64.wrap (n : Int) = (n : Int) := by rw [IntKind.wrap_u64]; omega
  have hw2 : IntKind.i64.wrap (n : Int) = (n : Int) := by rw [IntKind.wrap_i64]; omega
  have hbl := World.block_lt_of_cell? w _ h0
  have hmk : (Instr.makeSlice 28 (.int .i64 (n : Int)) (.int .i64 (n : Int))).run Tryz.prog w = .ok (.slice (some ⟨w.heap.size, 0, none⟩) n n) (w.alloc (.cells (cellsN (fillS n 0)).toArray 3)) := by
    have hr := run_make (P := Tryz.prog) w 28 3 i0 (.int .i64 0) Tryz.underlying28 hi hz0 .i64 .i64 (n : Int) (n : Int) (by omega) (Int.le_refl _) (by rw [hz2]; omega) (by omega)
    rw [hr, hz1]
    simp only [Int.toNat_natCast, Nat.mul_one]
    have e : (madeCells (Value.cells (.int .i64 0)) n) = (cellsN (fillS n 0)).toArray := by
      apply Array.toList_inj.1
      rw [show Value.cells (.int .i64 0) = #[.int .i64 0] from rfl, toList_madeCells_one]
      simp [cellsN, fillS]
    rw [e]
  have hb1 := (Below.refl _ w).alloc (Nat.le_refl _) (.cells (cellsN (fillS n 0)).toArray 3)
  obtain ⟨q, hq⟩ : ∃ q, q = Nat.min 1 n := ⟨_, rfl⟩
  have hq1 : q ≤ n ∧ (0 < n → 0 < q) := by rw [hq]; show min 1 n ≤ n ∧ (0 < n → 0 < min 1 n); omega
  obtain ⟨w2, hcp, hG2, hB2⟩ := copy_fill (w.alloc (.cells (cellsN (fillS n 0)).toArray 3)) w.heap.size n 0 q (some ⟨w.heap.size, 0, none⟩) (some ⟨b0, 0, none⟩) n n 1 1 (heap_alloc_new w _) hq (by omega) (fun _ => ⟨rfl, _, rfl, fun j hj => by
    have : j = 0 := by rw [hq] at hj; have : j < min 1 n := hj; omega
    subst this
    rw [Addr.add_lit, Nat.zero_add]
    exact (hb1.cell hbl).trans h0⟩)
  have HG2 := hid6 (And.intro hG2 ((hb1.mono (Nat.le_refl _)).trans hB2))
  rw [Nat.zero_add] at HG2
  clear hi hz0 hz1 hz2 hG2 hB2 hq hb1
  generalize (cellsN (fillS n 0)).toArray = cur0 at hmk hcp
  go_enter Tryz.func131, Tryz.ntmps131
  go_wp2_with (first
    | (go_at_call 174; refine (hMul _).mono ?_; rintro e w' ⟨rfl, e1⟩; rw [e1]; clear e1)
    | fail)
  go_loopw [8] (fun i wr => ∃ k : Nat, k ≤ n ∧ (0 < n → 0 < k) ∧ i = .int .i64 k ∧ Hid (NumBlk w.heap.size (fillS n k) wr ∧ Below w.heap.size w wr)) (fun i _ => n - (intOf i).toNat)
  case atStart => exact ⟨q, hq1.1, hq1.2, rfl, HG2⟩
  case round =>
    obtain ⟨k, hk, hk0, rfl, HR⟩ := hrel
    clear hcp hmk hMul HG2
    by_cases hlt : k < n
    · have hkk := hk0 (by omega)
      obtain ⟨m, hm⟩ : ∃ m, m = Nat.min k (n - k) := ⟨_, rfl⟩
      have hm1 : 0 < m ∧ k + m ≤ n := by rw [hm]; show 0 < min k (n - k) ∧ k + min k (n - k) ≤ n; omega
      obtain ⟨w3, hcp3, hG3, hB3⟩ := copy_fill wr.drew w.heap.size n k m (some ⟨w.heap.size, k, none⟩) (some ⟨w.heap.size, 0, none⟩) (n - k) (n - k) k n HR.out.1 hm hm1.2 (fun _ => ⟨rfl, _, rfl, fun j hj => by
        have hj2 : j < k := by rw [hm] at hj; have : j < min k (n - k) := hj; omega
        rw [Addr.add_lit, Nat.zero_add]
        obtain ⟨e, _⟩ := HR.out.1.at j (by rw [fillS_len hk]; omega)
        have e2 := fillS_at (n := n) hj2
        rw [List.getElem?_eq_getElem (by rw [fillS_len hk]; omega)] at e2
        have e3 : (fillS n k)[j]'(by rw [fillS_len hk]; omega) = -1 := by simpa using e2
        rw [e3] at e
        exact e⟩)
      have H3 := hid6 (And.intro hG3 (HR.out.2.drew.trans hB3))
      have hn1 : ¬ n = k := by omega
      have hwk : IntKind.i64.wrap ((k : Int) + (m : Int)) = (k : Int) + (m : Int) := by rw [IntKind.wrap_i64]; omega
      clear hG3 hB3 hm
      go_wp2_with fail
      go_region_law fail
      all_goals simp [Act.put]
      all_goals go_wp2_with fail
      all_goals exact ⟨⟨k + m, hm1.2, fun _ => by omega, by simp, H3⟩, by simp [intOf]; omega⟩
    · have : k = n := by omega
      subst this
      go_wp2_with fail
      go_ret
      exact ⟨rfl, by rw [← fillS_all]; exact HR.out.1, HR.out.2⟩
end Go.Proofs.YtfnpngbcnmglfaaGreat
namespace Go.Proofs.YtfnpngbcnmglfaaGreat
open Go.RowKit
def oOf (x : Int) : Option Nat := if x = -1 then none else some x.toNat
/-- What is noted at place k. -/
def visS (nn : Int) (k : Nat) (L : List Blk) (ms : List Int) : List Int :=
  if nn = 50 then (match L.getLast? with | none => ms | some b => pairS ms b.s.toNat (oOf b.o) k)
  else if nn = 52 then (match firstIx L Blk.l L.length with | none => ms | some i => ms.set k ((L[i]?.map Blk.s).getD 0))
  else ms
def Blk.ok (n : Nat) (b : Blk) : Prop := 0 ≤ b.s ∧ b.s < n ∧ (b.o = -1 ∨ 0 ≤ b.o ∧ b.o < n)
theorem Stk.only {p g : Nat} {L : List Blk} {a : Option Addr} {cap : Nat} {W W' : World} (h : Stk (p + 1) p L a cap W) (ho : Only g W W') (hg : g < p) : Stk (p + 1) p L a cap W' := by
  refine ⟨ho.obj h.box (by omega), ?_⟩
  have hk := h.row.kept ho (by
    rcases hb : (Value.slice a L.length cap).ownBlock with _ | q
    · exact .inl rfl
    · right
      intro e
      have := (h.row.lt q hb).1
      cases e
      omega)
  exact hk
theorem pairS_len (ms : List Int) (s : Nat) (o : Option Nat) (t : Nat) : (pairS ms s o t).length = ms.length := by cases o <;> simp [pairS]
theorem visS_len (nn : Int) (k : Nat) (L : List Blk) (ms : List Int) : (visS nn k L ms).length = ms.length := by
  unfold visS
  split
  · split
    · rfl
    · exact pairS_len _ _ _ _
  · split
    · split
      · rfl
      · simp
    · rfl
set_option maxRecDepth 100000 in
set_option maxHeartbeats 1000000 in
theorem visit_any {p g cB mB cb co cc n k : Nat} {nn : Int} {ms : List Int} {L : List Blk} {a : Option Addr} {cap : Nat} (W : World) (hS : Stk (p + 1) p L a cap W) (hl : L.length ≤ 8) (hk : k < n) (hml : ms.length = n) (hok : ∀ b ∈ L, b.ok n) (hst : standS nn L = true)
    (hcb : W.heap[cB]? = some (.cells #[.slice (some ⟨cb, co, none⟩) n cc] 47 (0, 0))) (hmb : W.heap[mB]? = some (.cells #[.slice (some ⟨g, 0, none⟩) n n] 28 (0, 0))) (hc : W.cell? ⟨cb, co + k * 2, none⟩ = some (.int .i64 nn)) (hB : NumBlk g ms W) (hgp : g < p) :
    Calls Tryz.prog 133 #[.int .i64 k, .pointer (some ⟨p, 0, none⟩), .pointer (some ⟨cB, 0, none⟩), .pointer (some ⟨mB, 0, none⟩)] W fun e w' => e = .returned (.tuple #[]) ∧ Stk (p + 1) p L a cap w' ∧ NumBlk g (visS nn k L ms) w' ∧ Only g W w' := by
  obtain ⟨x0, _⟩ := one_cell hcb
  obtain ⟨x1, _⟩ := one_cell hmb
  have hkeep : ∀ w, Below W.heap.size W w → w.cell? ⟨mB, 0, none⟩ = some (.slice (some ⟨g, 0, none⟩) n n) := fun w hb => (hb.cell (blk_lt hmb)).trans x1
  by_cases n1 : nn = 50
  · subst n1
    rcases List.eq_nil_or_concat L with rfl | ⟨M, b, rfl⟩
    · simp [standS] at hst
    rw [List.concat_eq_append] at hS hl hok ⊢
    obtain ⟨gg, rfl, _⟩ := hS.at (by simp)
    have hT := top_any W.drew (hS.keep (Below.refl _ W).drew) (fun _ => rfl) (by omega) (some M.length) (hid6 (first_snoc M b))
    have hat : ∀ wr, Below W.heap.size W wr → wr.cell? ⟨gg, M.length * 3, none⟩ = some (.int .i64 b.s) ∧ wr.cell? ⟨gg, M.length * 3 + 1, none⟩ = some (.int .i64 b.o) ∧ wr.cell? ⟨gg, M.length * 3 + 2, none⟩ = some (.bool b.l) := fun wr hb => by
      obtain ⟨g', e, _, _, _, hc⟩ := (hS.keep hb).at (by simp)
      cases e
      simpa using hc M.length (by simp)
    obtain ⟨ok1, ok2, ok3⟩ := hok b (by simp)
    obtain ⟨s, hs⟩ : ∃ s : Nat, b.s = s := ⟨b.s.toNat, by omega⟩
    have HE : Hid (visS 50 k (M ++ [b]) ms = pairS ms s (oOf b.o) k) := hid6 (by simp [visS, hs])
    have ho : b.o = oInt (oOf b.o) := by
      unfold oOf
      rcases ok3 with h | ⟨h1, h2⟩
      · rw [if_pos h, h]; rfl
      · rw [if_neg (by omega)]; simp only [oInt]; omega
    have hoo : ∀ x, oOf b.o = some x → x < n := by
      intro x hx
      unfold oOf at hx
      split at hx
      · cases hx
      · cases hx; omega
    have hsn : s < n := by omega
    rw [hs, ho] at hat
    generalize oOf b.o = o at hat HE hoo
    have hP := fun w (h : NumBlk g ms w) => pair_any g ms n n hml s k o b.l hsn hk hoo w h
    simp only [Blk.v] at hP
    simp only [ptrIx] at hT
    generalize oInt o = oi at hat hP
    generalize b.l = bl at hat hP
    generalize M.length = q at hat hT
    have hmg : mB ≠ g := by
      rintro rfl
      unfold NumBlk at hB
      rw [hmb] at hB
      simp at hB
    have hgg : gg ≠ g := by
      have := (hS.row.lt gg rfl).1
      omega
    have hS4 : ∀ w, Below W.heap.size W w → w.cell? ⟨mB, 0, none⟩ = some (.slice (some ⟨g, 0, none⟩) n n) ∧ w.cell? ⟨gg, q * 3, none⟩ = some (.int .i64 s) ∧ w.cell? ⟨gg, q * 3 + 1, none⟩ = some (.int .i64 oi) ∧ w.cell? ⟨gg, q * 3 + 2, none⟩ = some (.bool bl) := fun w hb => ⟨hkeep w hb, hat w hb⟩
    have hS5 : ∀ w w', Below W.heap.size W w → Only g w w' → w'.cell? ⟨mB, 0, none⟩ = some (.slice (some ⟨g, 0, none⟩) n n) ∧ w'.cell? ⟨gg, q * 3, none⟩ = some (.int .i64 s) ∧ w'.cell? ⟨gg, q * 3 + 1, none⟩ = some (.int .i64 oi) ∧ w'.cell? ⟨gg, q * 3 + 2, none⟩ = some (.bool bl) := fun w w' hb ho => by
      obtain ⟨e0, e1, e2, e3⟩ := hS4 w hb
      exact ⟨ho.cell e0 (by simpa using hmg), ho.cell e1 (by simpa using hgg), ho.cell e2 (by simpa using hgg), ho.cell e3 (by simpa using hgg)⟩
    obtain ⟨_, y0, y1, y2⟩ := hS4 W (Below.refl _ _)
    have HS := hid6 hS
    have HB := hid6 hB
    have HP := hid6 hP
    clear hS hB hok hst ok1 ok2 ok3 hs ho hoo hcb hmb hP
    go_enter Tryz.func133, Tryz.ntmps133
    go_wp2_with fail
    go_region_held3 (fun W => W.cell? ⟨mB, 0, none⟩ = some (.slice (some ⟨g, 0, none⟩) n n) ∧ W.cell? ⟨gg, q * 3, none⟩ = some (.int .i64 s) ∧ W.cell? ⟨gg, q * 3 + 1, none⟩ = some (.int .i64 oi) ∧ W.cell? ⟨gg, q * 3 + 2, none⟩ = some (.bool bl)) (first | go_keep | exact hS5 _ _ hb2 hO3 | exact hS4 _ hb2 | exact hS4 _ (Below.refl _ W).drew) (first
      | (go_at_call 135; refine hT.mono ?_; clear hT; rintro e w2 ⟨rfl, hb2'⟩; have hb2 : Below W.heap.size W w2 := (Below.refl _ W).drew.trans hb2'; skip)
      | (go_at_call 134; refine (HP.out _ ((hb2.block _ (blk_lt HB.out)).trans HB.out)).mono ?_; rintro e w3 ⟨rfl, hB3, hO3⟩))
    all_goals
      go_wp2_with fail
      go_end0
      exact ⟨rfl, (HS.out.keep hb2).only hO3 hgp, by rw [HE.out]; exact hB3, (Only.below hb2).trans hO3⟩
  by_cases n2 : nn = 52
  · subst n2
    have hsome : (firstIx L Blk.l L.length).isSome = true := by simpa [standS] using hst
    obtain ⟨i, hi⟩ := Option.isSome_iff_exists.1 hsome
    obtain ⟨hil, b, hb, _⟩ := firstIx_lt hi
    obtain ⟨gg, rfl, _⟩ := hS.at (by omega)
    have hT := inner_any W.drew (hS.keep (Below.refl _ W).drew) (fun _ => rfl) (by omega) (some i) (hid6 hi)
    have hbi : L[i]'hil = b := by rw [List.getElem?_eq_getElem hil] at hb; exact Option.some.inj hb
    have hat : ∀ wr, Below W.heap.size W wr → wr.cell? ⟨gg, i * 3, none⟩ = some (.int .i64 b.s) := fun wr hb => by
      obtain ⟨g', e, _, _, _, hc⟩ := (hS.keep hb).at (by omega)
      cases e
      rw [← hbi]
      exact (hc i hil).1
    have HE : Hid (visS 52 k L ms = ms.set k b.s) := hid6 (by simp [visS, hi, hb])
    simp only [ptrIx] at hT
    generalize b.s = s at hat HE
    have hmg : mB ≠ g := by
      rintro rfl
      unfold NumBlk at hB
      rw [hmb] at hB
      simp at hB
    have hgg : gg ≠ g := by
      have := (hS.row.lt gg rfl).1
      omega
    have hS4 : ∀ w, Below W.heap.size W w → w.cell? ⟨mB, 0, none⟩ = some (.slice (some ⟨g, 0, none⟩) n n) ∧ w.cell? ⟨gg, i * 3, none⟩ = some (.int .i64 s) := fun w hb => ⟨hkeep w hb, hat w hb⟩
    have hS5 : ∀ w w', Below W.heap.size W w → Only g w w' → w'.cell? ⟨mB, 0, none⟩ = some (.slice (some ⟨g, 0, none⟩) n n) ∧ w'.cell? ⟨gg, i * 3, none⟩ = some (.int .i64 s) := fun w w' hb ho => by
      obtain ⟨e0, e1⟩ := hS4 w hb
      exact ⟨ho.cell e0 (by simpa using hmg), ho.cell e1 (by simpa using hgg)⟩
    obtain ⟨_, y0⟩ := hS4 W (Below.refl _ _)
    have HZ : Hid (∀ w, Below W.heap.size W w → NumBlk g ms w) := hid6 fun w hb => (hb.block _ (blk_lt hB)).trans hB
    have HS := hid6 hS
    clear hS hB hok hst hcb hmb hi hsome hb hbi
    go_enter Tryz.func133, Tryz.ntmps133
    go_wp2_with fail
    go_region_held3 (fun W => W.cell? ⟨mB, 0, none⟩ = some (.slice (some ⟨g, 0, none⟩) n n) ∧ W.cell? ⟨gg, i * 3, none⟩ = some (.int .i64 s)) (first | exact ⟨x1, y0⟩ | exact hS5 _ _ hb2 (Only.set g k _ _) | exact hS4 _ hb2 | go_keep) (first
      | (go_at_call 136; refine hT.mono ?_; clear hT; rintro e w2 ⟨rfl, hb2'⟩; have hb2 : Below W.heap.size W w2 := (Below.refl _ W).drew.trans hb2'; obtain ⟨z0, z1⟩ := (HZ.out _ hb2).at k (by omega)))
    all_goals
      go_wp2_with fail
      go_end0
      exact ⟨rfl, (HS.out.keep hb2).only (Only.set g k _ _) hgp, by rw [HE.out]; exact (HZ.out _ hb2).set k _, (Only.below hb2).trans (Only.set g k _ _)⟩
  · have HE : Hid (visS nn k L ms = ms) := hid6 (by simp [visS, n1, n2])
    have HH := hid6 (And.intro hS hB)
    clear hS hB hst
    go_enter Tryz.func133, Tryz.ntmps133
    go_wp2_with fail
    go_end0
    exact ⟨rfl, HH.out.1, by rw [HE.out]; exact HH.out.2, Only.refl _ _⟩
end Go.Proofs.YtfnpngbcnmglfaaGreat
namespace Go.Proofs.YtfnpngbcnmglfaaGreat
open Go.RowKit
/-- The blocks and the notes ahead of place k. -/
def mst (cs : List (Int × Int)) : Nat → List Blk × List Int
  | 0 => ([], List.replicate cs.length (-1))
  | k + 1 => (stepS ((opsI cs).getD k 0) k (mst cs k).1, visS ((opsI cs).getD k 0) k (mst cs k).1 (mst cs k).2)
def okv (n : Nat) (x : Int) : Prop := 0 ≤ x ∧ x < n
theorem set_ok {n i j : Nat} {ms : List Int} {v : Int} (h : okv n (ms.getD j 0)) (hv : okv n v) : okv n ((ms.set i v).getD j 0) := by
  rw [List.getD_eq_getElem?_getD, List.getElem?_set]
  split
  · split
    · exact hv
    · rw [List.getD_eq_getElem?_getD, List.getElem?_eq_none (by omega)] at h
      exact h
  · rw [← List.getD_eq_getElem?_getD]; exact h
theorem set_ok' {n j : Nat} {ms : List Int} {v : Int} (hj : j < ms.length) (hv : okv n v) : okv n ((ms.set j v).getD j 0) := by
  rw [List.getD_eq_getElem?_getD, List.getElem?_set_self hj]
  exact hv
theorem oOf_lt {n : Nat} {x : Int} (h : x = -1 ∨ 0 ≤ x ∧ x < n) : ∀ o, oOf x = some o → o < n := by
  intro o ho
  unfold oOf at ho
  split at ho
  · cases ho
  · cases ho; omega
theorem visS_ok {n k j : Nat} {nn : Int} {L : List Blk} {ms : List Int} (hk : k < n) (hL : ∀ b ∈ L, b.ok n) (h : okv n (ms.getD j 0)) : okv n ((visS nn k L ms).getD j 0) := by
  have hkv : okv n (k : Int) := ⟨by omega, by omega⟩
  unfold visS
  split
  · split
    · exact h
    · rename_i b hb
      obtain ⟨s1, s2, s3⟩ := hL b (List.mem_of_getLast? hb)
      have hsv : okv n ((b.s.toNat : Nat) : Int) := ⟨by omega, by omega⟩
      cases ho : oOf b.o with
      | none => exact set_ok (set_ok h hkv) hsv
      | some o =>
        have := oOf_lt s3 o ho
        exact set_ok (set_ok (set_ok (set_ok h hkv) hsv) ⟨by omega, by omega⟩) hkv
  · split
    · split
      · exact h
      · rename_i i hi
        obtain ⟨_, b, hb, _⟩ := firstIx_lt hi
        obtain ⟨s1, s2, _⟩ := hL b (List.mem_of_getElem? hb)
        rw [hb]
        exact set_ok h ⟨s1, s2⟩
    · exact h
theorem step_ok {n k : Nat} {nn : Int} {L : List Blk} (hk : k < n) (hL : ∀ b ∈ L, b.ok n) : ∀ b ∈ stepS nn k L, b.ok n := by
  intro b hb
  unfold stepS at hb
  split at hb
  · rcases List.mem_append.1 hb with h | h
    · exact hL b h
    · simp at h
      subst h
      exact ⟨by simp, by simp; omega, .inl rfl⟩
  · split at hb
    · split at hb
      · exact hL b hb
      · rename_i b' hb'
        rcases List.mem_append.1 hb with h | h
        · exact hL b ((List.dropLast_sublist _).subset h)
        · simp at h
          subst h
          obtain ⟨s1, s2, _⟩ := hL b' (List.mem_of_getLast? hb')
          exact ⟨s1, s2, .inr ⟨by simp, by simp; omega⟩⟩
    · split at hb
      · exact hL b ((List.dropLast_sublist _).subset hb)
      · exact hL b hb
theorem run_prev {cs : List (Int × Int)} {k : Nat} {L' : List Blk} (hk : k < cs.length) (h : runS (opsI (cs.take (k + 1))) 0 [] = some L') : ∃ L, runS (opsI (cs.take k)) 0 [] = some L ∧ standS cs[k].1 L = true ∧ L' = stepS cs[k].1 k L := by
  cases hr : runS (opsI (cs.take k)) 0 [] with
  | none =>
    rw [List.take_succ_eq_append_getElem hk, opsI, List.map_append, runS_append, show List.map Prod.fst (cs.take k) = opsI (cs.take k) from rfl, hr] at h
    cases h
  | some L =>
    refine ⟨L, rfl, ?_⟩
    cases hs : standS cs[k].1 L with
    | true =>
      have := run_next hk hr hs
      rw [h] at this
      exact ⟨rfl, Option.some.inj this⟩
    | false =>
      rw [List.take_succ_eq_append_getElem hk, opsI, List.map_append, runS_append, show List.map Prod.fst (cs.take k) = opsI (cs.take k) from rfl, hr] at h
      simp [runS, hs] at h
theorem ops_at {cs : List (Int × Int)} {k : Nat} (hk : k < cs.length) : (opsI cs).getD k 0 = cs[k].1 := by
  rw [List.getD_eq_getElem?_getD, opsI, List.getElem?_map, List.getElem?_eq_getElem hk]; rfl
theorem mst_len (cs : List (Int × Int)) : ∀ k, (mst cs k).2.length = cs.length
  | 0 => by simp [mst]
  | k + 1 => by simp only [mst]; rw [visS_len]; exact mst_len cs k
theorem mst_inv (cs : List (Int × Int)) : ∀ k L, k ≤ cs.length → runS (opsI (cs.take k)) 0 [] = some L → (mst cs k).1 = L ∧ (∀ b ∈ L, b.ok cs.length) ∧ ∀ j (_ : j < k) (h2 : j < cs.length), cs[j].1 = 52 → okv cs.length ((mst cs k).2.getD j 0)
  | 0, L, _, h => by
    simp [opsI, runS] at h
    subst h
    exact ⟨rfl, fun b hb => (by cases hb), fun j h => (by omega)⟩
  | k + 1, L', hk, h => by
    obtain ⟨L, h1, hs, rfl⟩ := run_prev (by omega) h
    obtain ⟨i1, i2, i3⟩ := mst_inv cs k L (by omega) h1
    have hop := ops_at (cs := cs) (k := k) (by omega)
    refine ⟨by simp only [mst]; rw [hop, i1], step_ok (by omega) i2, ?_⟩
    intro j hj hj2 h52
    simp only [mst]
    rw [hop, i1]
    by_cases e : j = k
    · subst e
      rw [h52] at hs ⊢
      have hsome : (firstIx L Blk.l L.length).isSome = true := by simpa [standS] using hs
      obtain ⟨i, hi⟩ := Option.isSome_iff_exists.1 hsome
      obtain ⟨_, b, hb, _⟩ := firstIx_lt hi
      obtain ⟨s1, s2, _⟩ := i2 b (List.mem_of_getElem? hb)
      have : visS 52 j L (mst cs j).2 = (mst cs j).2.set j b.s := by simp [visS, hi, hb]
      rw [this]
      exact set_ok' (by rw [mst_len]; omega) ⟨s1, s2⟩
    · exact visS_ok (by omega) i2 (i3 j (by omega) hj2 h52)
/-- Where all lead, if they are of good shape. -/
def matchS (cs : List (Int × Int)) : List Int := leadS (opsI cs) (mst cs cs.length).2 cs.length
def goodS (cs : List (Int × Int)) : Bool := decide (runS (opsI cs) 0 [] = some [])
def MatchEnd (cs : List (Int × Int)) (w : World) (e : Ending) (w' : World) : Prop :=
  (if goodS cs = true then ∃ g, w.heap.size ≤ g ∧ e = .returned (.tuple #[.slice (some ⟨g, 0, none⟩) cs.length cs.length, .int .i64 0]) ∧ NumBlk g (matchS cs) w' else e = .returned (.tuple #[.slice none 0 0, .int .i64 31])) ∧ Below w.heap.size w w'
/-- What holds of the boxes while Match walks. -/
structure MJ (cs : List (Int × Int)) (ca : Option Addr) (cc cb co cB mB g B : Nat) (w0 : World) (k : Nat) (W : World) : Prop where
  c : W.heap[cB]? = some (.cells #[.slice ca cs.length cc] 47 (0, 0))
  m : W.heap[mB]? = some (.cells #[.slice (some ⟨g, 0, none⟩) cs.length cs.length] 28 (0, 0))
  n : NumBlk g (mst cs k).2 W
  a : ∀ j (h : j < cs.length), W.cell? ⟨cb, co + j * 2, none⟩ = some (.int .i64 cs[j].1) ∧ W.cell? ⟨cb, co + j * 2 + 1, none⟩ = some (.int .i64 cs[j].2)
  b : Below B w0 W
theorem Only.belowB {g B : Nat} {W W' : World} (h : Only g W W') (hB : B ≤ g) (hg : g < W.heap.size) : Below B W W' := ⟨h.os, h.tape, h.output, h.size, fun k hk => h.block k (by omega) (fun e => by cases e; omega)⟩
theorem blk_ne {W : World} {a b : Nat} {x y : Array Value} {s t : TypeId} {u v : Nat × Nat} (ha : W.heap[a]? = some (.cells x s u)) (hb : W.heap[b]? = some (.cells y t v)) (hne : s ≠ t) : a ≠ b := by
  rintro rfl
  rw [ha] at hb
  cases hb
  exact hne rfl
theorem mwalk (cs : List (Int × Int)) (ca : Option Addr) (cc cb co cB mB g B : Nat) (w0 W : World) (hca : cs = [] ∨ ca = some ⟨cb, co, none⟩) (hn : cs.length ≤ 9000000000000) (hcb : 0 < cs.length → cb < B) (hBg : B ≤ g) (hBW : B ≤ W.heap.size) (h0 : MJ cs ca cc cb co cB mB g B w0 0 W) :
    Calls Tryz.prog 132 #[.slice ca cs.length cc, .func (.func 133) #[] #[.pointer (some ⟨cB, 0, none⟩), .pointer (some ⟨mB, 0, none⟩)]] W (WalkEnd cs (MJ cs ca cc cb co cB mB g B w0)) := by
  refine walk_any cs ca cc cb co hca hn W (MJ cs ca cc cb co cB mB g B w0) (fun _ _ h => h.a) ?_ 133 _ (Go.Proofs.enters_of Tryz.func133 (by kernel_rfl) rfl) ?_ h0
  · intro k w1 w2 h mv bl
    refine ⟨mv.2 _ _ _ _ (by decide) (by decide) h.c, mv.2 _ _ _ _ (by decide) (by decide) h.m, mv.2 _ _ _ _ (by decide) (by decide) h.n, fun j hj => ?_, h.b.trans (bl.mono hBW)⟩
    have := hcb (by omega)
    obtain ⟨a0, a1⟩ := h.a j hj
    exact ⟨(bl.cell (by show cb < _; omega)).trans a0, (bl.cell (by show cb < _; omega)).trans a1⟩
  · intro k hk p L a cap w1 hp hrun hst hl8 hS hJ
    obtain ⟨i1, i2, _⟩ := mst_inv cs k L (by omega) hrun
    have hcb' := hcb (by omega)
    have hgl : g < W.heap.size := blk_lt h0.n
    have ha : ca = some ⟨cb, co, none⟩ := by
      rcases hca with h | h
      · rw [h] at hk; cases hk
      · exact h
    have hJc := hJ.c
    rw [ha] at hJc
    refine (visit_any (nn := cs[k].1) (ms := (mst cs k).2) w1 hS hl8 hk (mst_len cs k) i2 hst hJc hJ.m (hJ.a k hk).1 hJ.n (by omega)).mono ?_
    rintro e w2 ⟨rfl, hS2, hN2, hO2⟩
    have hcg := blk_ne hJ.c hJ.n (by decide)
    have hmg := blk_ne hJ.m hJ.n (by decide)
    refine ⟨rfl, ⟨a, cap, hS2⟩, ⟨hO2.obj hJ.c hcg, hO2.obj hJ.m hmg, ?_, fun j hj => ?_, hJ.b.trans (hO2.belowB hBg (blk_lt hJ.n))⟩, hO2.size, fun q cur z hq => hO2.obj hq (blk_ne hq hJ.n (by decide))⟩
    · simp only [mst]
      rw [ops_at hk, i1]
      exact hN2
    · obtain ⟨a0, a1⟩ := hJ.a j hj
      have hne : some cb ≠ some g := fun e => by cases e; omega
      exact ⟨hO2.cell a0 hne, hO2.cell a1 hne⟩
set_option maxRecDepth 100000 in
set_option maxHeartbeats 1000000 in
theorem match_any (cs : List (Int × Int)) (ca : Option Addr) (cc cb co : Nat) (hca : cs = [] ∨ ca = some ⟨cb, co, none⟩) (hn : cs.length ≤ 9000000000000) (w : World)
    (hc : ∀ j (h : j < cs.length), w.cell? ⟨cb, co + j * 2, none⟩ = some (.int .i64 cs[j].1) ∧ w.cell? ⟨cb, co + j * 2 + 1, none⟩ = some (.int .i64 cs[j].2)) :
    Calls Tryz.prog 81 #[.slice ca cs.length cc] w (MatchEnd cs w) := by
  have hcb : 0 < cs.length → cb < w.heap.size := fun h0 => World.block_lt_of_cell? w _ (hc 0 h0).1
  obtain ⟨n, hn'⟩ : ∃ n, n = cs.length := ⟨_, rfl⟩
  have HN := hid6 hn'
  rw [← hn'] at hn ⊢
  have HC := hid6 hc
  have HA := hid6 hca
  have HCB := hid6 hcb
  clear hc hca hcb hn'
  have hb1 := (((Below.refl _ w).alloc (Nat.le_refl _) (.cells #[.slice ca n cc] 47)).alloc (by simp) (.cells #[.int .i64 (-1)] 3))
  have hx1 : ((w.alloc (.cells #[.slice ca n cc] 47)).alloc (.cells #[.int .i64 (-1)] 3)).heap[w.heap.size]? = some (.cells #[.slice ca n cc] 47 (0, 0)) := by
    rw [((Below.refl _ (w.alloc (.cells #[.slice ca n cc] 47))).alloc (Nat.le_refl _) (.cells #[.int .i64 (-1)] 3)).block _ (by simp)]
    exact heap_alloc_new w _
  obtain ⟨w1, hw1⟩ : ∃ w1, w1 = (w.alloc (.cells #[.slice ca n cc] 47)).alloc (.cells #[.int .i64 (-1)] 3) := ⟨_, rfl⟩
  have hs1 : w1.heap.size = w.heap.size + 2 := by rw [hw1]; simp
  have hR : Calls Tryz.prog 131 #[.slice (some ⟨w.heap.size + 1, 0, none⟩) 1 1, .int .i64 n] w1 fun e w2 => ∃ G, w.heap.size ≤ G ∧ e = .returned (.slice (some ⟨G, 0, none⟩) n n) ∧ Hid (NumBlk G (List.replicate n (-1)) w2 ∧ w2.heap[w.heap.size]? = some (.cells #[.slice ca n cc] 47 (0, 0)) ∧ Below w.heap.size w w2) := by
    refine (repeat_any (w.heap.size + 1) n hn w1 (by
      rw [hw1]
      have := (one_cell (heap_alloc_new (w.alloc (.cells #[.slice ca n cc] 47)) (.cells #[.int .i64 (-1)] 3))).1
      rw [World.size_alloc] at this
      exact this)).mono ?_
    rintro e w2 ⟨rfl, h2, h3⟩
    refine ⟨_, by omega, rfl, hid6 ⟨h2, ?_, ?_⟩⟩
    · rw [h3.block _ (by omega), hw1]
      exact hx1
    · rw [← hw1] at hb1
      exact hb1.trans (h3.mono (by omega))
  rw [hw1] at hR
  clear hw1 hs1 hx1 hb1
  have HJ0 : Hid (∀ w2 G, w.heap.size ≤ G → NumBlk G (List.replicate n (-1)) w2 ∧ w2.heap[w.heap.size]? = some (.cells #[.slice ca n cc] 47 (0, 0)) ∧ Below w.heap.size w w2 → Calls Tryz.prog 132 #[.slice ca n cc, .func (.func 133) #[] #[.pointer (some ⟨w.heap.size, 0, none⟩), .pointer (some ⟨w2.heap.size, 0, none⟩)]] (w2.alloc (.cells #[.slice (some ⟨G, 0, none⟩) n n] 28)) (WalkEnd cs (MJ cs ca cc cb co w.heap.size w2.heap.size G w.heap.size w))) := hid6 (by
    rintro w2 G hG ⟨h1, h2, h3⟩
    have e := HN.out
    subst e
    have b2 := (Below.refl _ w2).alloc (Nat.le_refl _) (.cells #[.slice (some ⟨G, 0, none⟩) cs.length cs.length] 28)
    have b3 := h3.trans (b2.mono h3.size)
    refine mwalk cs ca cc cb co w.heap.size w2.heap.size G w.heap.size w _ HA.out hn HCB.out hG b3.size ⟨(b2.block _ (blk_lt h2)).trans h2, heap_alloc_new w2 _, h1.alloc _, fun j hj => ?_, b3⟩
    have hl := HCB.out (by omega)
    obtain ⟨a0, a1⟩ := HC.out j hj
    exact ⟨(b3.cell hl).trans a0, (b3.cell hl).trans a1⟩)
  cases hgd : goodS cs with
  | false =>
    have HF : Hid (decide (runS (opsI cs) 0 [] = some []) = false) := hid6 hgd
    have HM : Hid (∀ e w', e = .returned (.tuple #[.slice none 0 0, .int .i64 31]) → Below w.heap.size w w' → MatchEnd cs w e w') := hid6 fun e w' he hb => ⟨by rw [hgd]; exact he, hb⟩
    clear hgd
    go_enter Tryz.func81, Tryz.ntmps81
    go_wp2_with (first
      | (go_at_call 131; refine hR.mono ?_; clear hR; rintro e w2 ⟨G, hG, rfl, H2⟩; have hc2 := (one_cell H2.out.2.1).1; have hl2 := blk_lt H2.out.2.1)
      | (go_at_call 132; refine (HJ0.out w2 G hG H2.out).mono ?_; rintro e w3 ⟨he, k, hJ, _⟩; rw [HF.out] at he; subst he)
      | fail)
    go_ret2
    exact HM.out _ _ rfl hJ.b
  | true =>
    have HF : Hid (decide (runS (opsI cs) 0 [] = some []) = true) := hid6 hgd
    have HM : Hid (∀ e w' G, w.heap.size ≤ G → e = .returned (.tuple #[.slice (some ⟨G, 0, none⟩) n n, .int .i64 0]) → NumBlk G (matchS cs) w' → Below w.heap.size w w' → MatchEnd cs w e w') := hid6 fun e w' G hG he hN hb => ⟨by rw [hgd]; rw [HN.out] at he; exact ⟨G, hG, he, hN⟩, hb⟩
    have HL : Hid (∀ mB G W, w.heap.size ≤ G → MJ cs ca cc cb co w.heap.size mB G w.heap.size w cs.length W → Calls Tryz.prog 137 #[.slice ca n cc, .slice (some ⟨G, 0, none⟩) n n] W fun e w' => e = .returned (.tuple #[]) ∧ NumBlk G (matchS cs) w' ∧ Only G W w') := hid6 (by
      intro mB G W hG hJ
      have e := HN.out
      subst e
      have hrun : runS (opsI (cs.take cs.length)) 0 [] = some [] := by rw [List.take_length]; exact of_decide_eq_true HF.out
      obtain ⟨_, _, i3⟩ := mst_inv cs cs.length [] (Nat.le_refl _) hrun
      by_cases h0 : cs = []
      · subst h0
        exact lead_any [] ca cc (G + 1) co (.inl rfl) hn G _ (mst_len _ _) _ (Nat.le_refl _) (by omega) (fun k h => by cases h) W (fun j h => by cases h) hJ.n
      · have hl : cb < w.heap.size := HCB.out (List.length_pos_iff.2 h0)
        exact lead_any cs ca cc cb co HA.out hn G _ (mst_len _ _) _ (Nat.le_refl _) (by omega) (fun k h h52 => i3 k h h h52) W hJ.a hJ.n)
    clear hgd
    go_enter Tryz.func81, Tryz.ntmps81
    go_wp2_with (first
      | (go_at_call 131; refine hR.mono ?_; clear hR; rintro e w2 ⟨G, hG, rfl, H2⟩; have hc2 := (one_cell H2.out.2.1).1; have hl2 := blk_lt H2.out.2.1)
      | (go_at_call 132; refine (HJ0.out w2 G hG H2.out).mono ?_; rintro e w3 ⟨he, k, hJ, hk⟩; rw [HF.out] at he; subst he; have hk2 := hk (of_decide_eq_true HF.out); subst hk2; have hc3 := (one_cell hJ.c).1; have hm3 := (one_cell hJ.m).1; rw [← HN.out] at hc3 hm3; have HJ := hid6 hJ; clear hJ hk)
      | (go_at_call 137; refine (HL.out _ _ _ hG HJ.out).mono ?_; rintro e w4 ⟨rfl, hN4, hO4⟩; have hm4 := (one_cell (hO4.obj HJ.out.m (blk_ne HJ.out.m HJ.out.n (by decide)))).1; rw [← HN.out] at hm4)
      | fail)
    go_ret2
    exact HM.out _ _ G hG rfl hN4 (HJ.out.b.trans (hO4.belowB hG (blk_lt HJ.out.n)))
end Go.Proofs.YtfnpngbcnmglfaaGreat
