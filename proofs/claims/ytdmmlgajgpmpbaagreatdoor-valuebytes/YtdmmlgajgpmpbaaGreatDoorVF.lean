/- The document's From, Get. -/
import Derived.Test.YtdmmlgajgpmpbaaGreatDoorVYj
import Derived.Test.YtdmmlgajgpmpbaaGreatDoorPA
import Derived.Test.YtdmmlgajgpmpbaaGreatDoorVParse
namespace Go.Proofs.YtdmmlgajgpmpbaaGreatDoor
open Go.RowKit
attribute [local go_sem high] eq_val eq_val0
/-- The document's reader of bs has s. -/
def FS (w : World) (q g : Nat) (bs : List UInt8) (s : RSt) : Prop := ∃ k, RfS w q g bs k s.2 ∧ s.1 = bs.drop k
theorem FS.chg {w w' : World} {q g : Nat} {bs : List UInt8} {s : RSt} {S : Nat → Prop} (H : FS w q g bs s) (c : Chg w w' S) (h1 : ¬ S q) (h2 : ¬ S g) : FS w' q g bs s := by
  obtain ⟨k, h, e⟩ := H
  exact ⟨k, h.chg c h1 h2, e⟩
theorem fbyte_s (q g : Nat) (bs : List UInt8) (s : RSt) (w : World) (H : FS w q g bs s) : Calls Tryz.prog 55 #[.pointer (some ⟨q, 0, none⟩)] w fun e w' => e = .returned (.int .i64 (ansByte s.1 s.2)) ∧ FS w' q g bs (rB s 1) ∧ Chg w w' (fun i => i = q) := by
  obtain ⟨k, h, e⟩ := H
  refine (fbyte_all q g bs k s.2 w h).mono ?_
  rw [← e]
  rintro _ w' ⟨rfl, h', c⟩
  exact ⟨rfl, ⟨_, h', by simp [rB, e, List.drop_drop]⟩, c⟩
theorem fint_s (q g : Nat) (bs : List UInt8) (s : RSt) (w : World) (H : FS w q g bs s) : Calls Tryz.prog 56 #[.pointer (some ⟨q, 0, none⟩)] w fun e w' => e = .returned (.int .i64 (ansInt s.1 s.2)) ∧ FS w' q g bs (rB s 8) ∧ Chg w w' (fun i => i = q) := by
  obtain ⟨k, h, e⟩ := H
  refine (fint_all q g bs k s.2 w h).mono ?_
  rw [← e]
  rintro _ w' ⟨rfl, h', c⟩
  exact ⟨rfl, ⟨_, h', by simp [rB, e, List.drop_drop]⟩, c⟩
theorem ftext_s (q g : Nat) (bs : List UInt8) (s : RSt) (w : World) (H : FS w q g bs s) : Calls Tryz.prog 57 #[.pointer (some ⟨q, 0, none⟩)] w fun e w' => e = .returned (.string ⟨(ansText s.1 s.2).toArray⟩) ∧ FS w' q g bs (rB s (2 + tlOf s.1)) ∧ Chg w w' (fun i => i = q) := by
  obtain ⟨k, h, e⟩ := H
  refine (ftext_all q g bs k s.2 w h).mono ?_
  rw [← e]
  rintro _ w' ⟨rfl, h', c⟩
  exact ⟨rfl, ⟨_, h', by simp [rB, e, List.drop_drop]⟩, c⟩
theorem FS.cell {w : World} {q g : Nat} {bs : List UInt8} {s : RSt} (H : FS w q g bs s) : w.cell? ⟨q, 2, none⟩ = some (.int .i64 s.2) ∧ q < w.heap.size := by
  obtain ⟨k, h, e⟩ := H
  exact ⟨h.at1.2.2, World.block_lt_of_cell? _ _ h.at1.2.2⟩
theorem row_chg {w w' : World} {base n size : Nat} {e : TypeId} {v : Value} {xs : List Value} {S : Nat → Prop} (h : w.ownsRow base e size v n xs) (k : Chg w w' S) (hv : ∀ g, v.ownBlock = some g → ¬ S g) : w'.ownsRow base e size v n xs := by
  refine ⟨h.1, ?_⟩
  rcases h.2 with h2 | ⟨g, cap, cur, rfl, hg, hh, r⟩
  · exact .inl h2
  · exact .inr ⟨g, cap, cur, rfl, hg, by rw [k.block g (lt_of_block hh) (hv g rfl)]; exact hh, r⟩
theorem row_lt {w : World} {base n size : Nat} {e : TypeId} {v : Value} {xs : List Value} (h : w.ownsRow base e size v n xs) : ∀ k, v.ownBlock = some k → base ≤ k ∧ k < w.heap.size := World.ownsRow.lt h
/-- What a round has turned: the reader's block, and new ones. -/
def Turned (q : Nat) (w : World) (i : Nat) : Prop := i = q ∨ w.heap.size ≤ i
theorem from_step {w wr W : World} {q g k : Nat} {v : Value} {bs : List UInt8} {st : RSt} {xs : List Value} (hq : q < w.heap.size) (hg : g < w.heap.size) (C0 : Chg w wr (fun i => i = q)) (hrow : wr.ownsRow w.heap.size 48 3 v k xs) (c1 : Chg wr W (Turned q wr)) (F : FS W q g bs st) :
    W.ownsRow w.heap.size 48 3 v k xs ∧ ∀ o w6, (W.alloc o).grownBy w6 v.ownBlock → FS w6 q g bs st ∧ Chg w w6 (fun i => i = q) := by
  have hlt := row_lt hrow
  have hs0 := C0.size
  have hs1 := c1.size
  refine ⟨row_chg hrow c1 fun b hb e => ?_, fun o w6 hgr => ?_⟩
  · have := hlt b hb
    rcases e with e | e <;> omega
  · have c2 : Chg w W (fun i => i = q) := C0.trans c1 fun i hi e => by rcases e with e | e <;> omega
    have c3 : Chg w (W.alloc o) (fun i => i = q) := c2.trans (Chg.alloc W o (fun i => i = q)) fun _ _ e => e
    refine ⟨(F.chg (Chg.alloc W o (fun _ => False)) id id).chg (Chg.of_grown hgr) (fun e => ?_) (fun e => ?_), c3.trans (Chg.of_grown hgr) fun i hi e => ?_⟩
    · have := (hlt _ e).1; omega
    · have := (hlt _ e).1; omega
    · have := (hlt _ e).1; omega
theorem turned {wr w2 w3 : World} {q : Nat} {y : Obj} (h2 : Chg wr w2 (fun i => i = q)) (h3 : Chg (w2.alloc y) w3 (fun i => i = q)) (o : Nat) (u : Value) : Chg wr (w3.setCell ⟨w2.heap.size, o, none⟩ u) (Turned q wr) := by
  have c1 : Chg wr w2 (Turned q wr) := h2.mono fun _ _ e => .inl e
  have c2 := c1.trans (Chg.alloc w2 y (fun _ => False)) fun _ _ e => e.elim
  have c3 := c2.trans h3 fun _ _ e => .inl e
  exact c3.trans (Chg.setCell w3 ⟨w2.heap.size, o, none⟩ u) fun i hi (e : i = w2.heap.size) => by have := h2.size; omega
theorem new3 (W : World) (x : Val) (B : Nat) (hB : W.heap.size = B) : ∀ j u, [Value.int .i64 x.t, .int .i64 x.n, .string ⟨x.b.toArray⟩][j]? = some u → (W.alloc (.cells #[.int .i64 x.t, .int .i64 x.n, .string ⟨x.b.toArray⟩] 48)).cell? ((⟨B, 0, none⟩ : Addr).add j) = some u := by
  subst hB
  exact cells_new W [.int .i64 x.t, .int .i64 x.n, .string ⟨x.b.toArray⟩] 48
/-- How From ends: with all values, or with those ahead of an error. -/
def FromEnd (q g : Nat) (bs : List UInt8) (s0 : RSt) (n : Nat) (w : World) (e : Ending) (w' : World) : Prop := ∃ k v, k ≤ n ∧ (k = n ∨ (stN s0 k).2 ≠ 0) ∧ e = .returned v ∧ w'.ownsRow w.heap.size 48 3 v k (cellsL (valsN s0 k)) ∧ FS w' q g bs (stN s0 k) ∧ Chg w w' (fun i => i = q)
theorem valsN_snoc (s : RSt) (k : Nat) : valsN s (k + 1) = valsN s k ++ [(readV (stN s k)).1] := by simp [valsN, List.range_succ, valN]
theorem cellsL_snoc (L : List Val) (x : Val) : cellsL (L ++ [x]) = cellsL L ++ [.int .i64 x.t, .int .i64 x.n, .string ⟨x.b.toArray⟩] := by simp [cellsL]
set_option maxRecDepth 100000 in
set_option maxHeartbeats 2000000 in
theorem from_any (q g : Nat) (bs : List UInt8) (s : RSt) (w : World) (H : FS w q g bs s) (n : Nat) (hn : ansByte s.1 s.2 = n) (hn' : n ≤ 255) (hg : g < w.heap.size) : Calls Tryz.prog 29 #[.pointer (some ⟨q, 0, none⟩)] w (FromEnd q g bs (rB s 1) n w) := by
  have hBy : Calls Tryz.prog 55 #[.pointer (some ⟨q, 0, none⟩)] w fun e w' => e = .returned (.int .i64 n) ∧ FS w' q g bs (rB s 1) ∧ Chg w w' (fun i => i = q) := by rw [← hn]; exact fbyte_s q g bs s w H
  have hq := H.cell.2
  obtain ⟨i0, hi, hz0, hz1, hz2⟩ := info_parts val_info
  generalize rB s 1 = s0 at hBy ⊢
  clear hn H
  go_enter Tryz.func29, Tryz.ntmps29
  go_wp2_with (go_at_call 55; refine hBy.mono ?_; rintro e w1 ⟨rfl, H1, hc1⟩; clear hBy)
  go_loopw [4, 5] (fun v i wr => ∃ k : Nat, k ≤ n ∧ i = .int .i64 k ∧ wr.ownsRow w.heap.size 48 3 v k (cellsL (valsN s0 k)) ∧ FS wr q g bs (stN s0 k) ∧ Chg w wr (fun i => i = q)) (fun _ i _ => n - (intOf i).toNat)
  case atStart => exact ⟨0, Nat.zero_le _, rfl, World.ownsRow_nil _ _ _ _, H1, hc1⟩
  case round =>
    obtain ⟨k, hk, rfl, hrow, HF, C0⟩ := hrel
    obtain ⟨ce, hqw⟩ := HF.cell
    by_cases hlt : k < n
    · by_cases herr : (stN s0 k).2 = 0
      · rw [herr] at ce
        have HX : Hid (stN s0 (k + 1) = (readV (stN s0 k)).2) := hidV rfl
        have HV : Hid (cellsL (valsN s0 (k + 1)) = cellsL (valsN s0 k) ++ [.int .i64 (readV (stN s0 k)).1.t, .int .i64 (readV (stN s0 k)).1.n, .string ⟨(readV (stN s0 k)).1.b.toArray⟩]) := hidV (by rw [valsN_snoc, cellsL_snoc])
        generalize cellsL (valsN s0 k) = xs at hrow HV
        generalize stN s0 k = s at HF HX HV herr
        have hFirst0 := fbyte_s q g bs s wr HF
        obtain ⟨s1, hs1⟩ : ∃ s1, s1 = rB s 1 := ⟨_, rfl⟩
        rw [← hs1] at hFirst0
        have hgw : g < wr.heap.size := Nat.lt_of_lt_of_le hg C0.size
        by_cases t1 : rTag s = 1
        · have hFirst : Calls Tryz.prog 55 #[.pointer (some ⟨q, 0, none⟩)] wr fun e w' => e = .returned (.int .i64 1) ∧ FS w' q g bs s1 ∧ Chg wr w' (fun i => i = q) := by
            rw [show ansByte s.1 s.2 = 1 from t1] at hFirst0
            exact hFirst0
          have hE : readV s = (⟨1, ansInt s1.1 s1.2, []⟩, rB s1 8) := by rw [hs1]; simp only [readV, t1, if_true]
          rw [hE] at HX HV
          have hNext : ∀ w2, FS w2 q g bs s1 → Calls Tryz.prog 56 #[.pointer (some ⟨q, 0, none⟩)] (w2.alloc (Val.box ⟨1, 0, []⟩)) fun e w' => e = .returned (.int .i64 (ansInt s1.1 s1.2)) ∧ FS w' q g bs (rB s1 8) ∧ Chg (w2.alloc (Val.box ⟨1, 0, []⟩)) w' (fun i => i = q) := fun w2 H2 => fint_s q g bs s1 _ (H2.chg (Chg.alloc w2 _ (fun _ => False)) id id)
          generalize rB s1 8 = st at hNext HX HV
          generalize ansInt s1.1 s1.2 = vv at hNext HX HV
          simp only at HV HX
          clear hE hFirst0 t1 hs1 herr
          go_wp2_with (first | (go_at_call 55; first | (refine hFirst.mono ?_; rintro e w2 ⟨rfl, H2, hc2⟩; have hC := hNext w2 H2; clear hFirst hNext) | (refine hC.mono ?_; rintro e w3 ⟨rfl, H3, hc3⟩; have s2 := hc2.size; have s3 : w2.heap.size + 1 ≤ w3.heap.size := (by have := hc3.size; simpa using this); have e3 : w3.heap[w2.heap.size]? = some (Val.box ⟨1, 0, []⟩) := (hc3.block _ (by simp) (by omega)).trans (World.alloc_heap_new w2 _); have d0 : w3.cell? ⟨w2.heap.size, 0, none⟩ = some (.int .i64 1) := (by rw [Lib.cell_of_heap e3]; rfl); have d1 : w3.cell? ⟨w2.heap.size, 1, none⟩ = some (.int .i64 0) := (by rw [Lib.cell_of_heap e3]; rfl); have d2 : w3.cell? ⟨w2.heap.size, 2, none⟩ = some (.string ⟨#[]⟩) := (by rw [Lib.cell_of_heap e3]; rfl); have k1 := Lib.frozen_of_heap e3 1; have hF4 := H3.chg (Chg.setCell w3 ⟨w2.heap.size, 1, none⟩ (.int .i64 vv)) (by show ¬ q = w2.heap.size; omega) (by show ¬ g = w2.heap.size; omega); obtain ⟨hr4, hfin⟩ := from_step hq hg C0 hrow (turned hc2 hc3 1 (.int .i64 vv)) hF4; clear hC)) | (go_at_call 56; refine hC.mono ?_; rintro e w3 ⟨rfl, H3, hc3⟩; have s2 := hc2.size; have s3 : w2.heap.size + 1 ≤ w3.heap.size := (by have := hc3.size; simpa using this); have e3 : w3.heap[w2.heap.size]? = some (Val.box ⟨1, 0, []⟩) := (hc3.block _ (by simp) (by omega)).trans (World.alloc_heap_new w2 _); have d0 : w3.cell? ⟨w2.heap.size, 0, none⟩ = some (.int .i64 1) := (by rw [Lib.cell_of_heap e3]; rfl); have d1 : w3.cell? ⟨w2.heap.size, 1, none⟩ = some (.int .i64 0) := (by rw [Lib.cell_of_heap e3]; rfl); have d2 : w3.cell? ⟨w2.heap.size, 2, none⟩ = some (.string ⟨#[]⟩) := (by rw [Lib.cell_of_heap e3]; rfl); have k1 := Lib.frozen_of_heap e3 1; have hF4 := H3.chg (Chg.setCell w3 ⟨w2.heap.size, 1, none⟩ (.int .i64 vv)) (by show ¬ q = w2.heap.size; omega) (by show ¬ g = w2.heap.size; omega); obtain ⟨hr4, hfin⟩ := from_step hq hg C0 hrow (turned hc2 hc3 1 (.int .i64 vv)) hF4; clear hC) | (at_builtin; refine wpList_append_own_at _ rfl _ _ 22 rfl w.heap.size 48 i0 _ 3 32 Tryz.underlying22 hi hz0 hz1 hz2 rfl (by decide) u4 k _ rfl (World.ownsRow.alloc hr4 _) ⟨w3.heap.size, 0, none⟩ 1 1 [.int .i64 1, .int .i64 vv, .string ⟨#[]⟩] rfl rfl (new3 (w3.setCell ⟨w2.heap.size, 1, none⟩ (.int .i64 vv)) ⟨1, vv, []⟩ w3.heap.size (by simp [World.setCell])) (by simp [Value.oneCell']) (by unfold maxLen; omega) (by omega) (by have := C0.size; have := hc2.size; simp; omega) ?_; intro v' w6 hown2 hgrow _ _; obtain ⟨F6, C6⟩ := hfin _ w6 hgrow))
          exact ⟨⟨k + 1, by omega, by go_num, by rw [HV.out]; exact hown2, by rw [HX.out]; exact F6, C6⟩, by simp [intOf]; omega⟩
        by_cases t2 : rTag s = 2
        · have hFirst : Calls Tryz.prog 55 #[.pointer (some ⟨q, 0, none⟩)] wr fun e w' => e = .returned (.int .i64 2) ∧ FS w' q g bs s1 ∧ Chg wr w' (fun i => i = q) := by
            rw [show ansByte s.1 s.2 = 2 from t2] at hFirst0
            exact hFirst0
          have hE : readV s = (⟨2, 0, ansText s1.1 s1.2⟩, rB s1 (2 + tlOf s1.1)) := by rw [hs1]; simp only [readV, t2, if_true]; rw [if_neg (by decide)]
          rw [hE] at HX HV
          have hNext : ∀ w2, FS w2 q g bs s1 → Calls Tryz.prog 57 #[.pointer (some ⟨q, 0, none⟩)] (w2.alloc (Val.box ⟨2, 0, []⟩)) fun e w' => e = .returned (.string ⟨(ansText s1.1 s1.2).toArray⟩) ∧ FS w' q g bs (rB s1 (2 + tlOf s1.1)) ∧ Chg (w2.alloc (Val.box ⟨2, 0, []⟩)) w' (fun i => i = q) := fun w2 H2 => ftext_s q g bs s1 _ (H2.chg (Chg.alloc w2 _ (fun _ => False)) id id)
          generalize rB s1 (2 + tlOf s1.1) = st at hNext HX HV
          generalize ansText s1.1 s1.2 = vv at hNext HX HV
          simp only at HV HX
          clear hE hFirst0 t2 hs1 herr
          go_wp2_with (first | (go_at_call 55; first | (refine hFirst.mono ?_; rintro e w2 ⟨rfl, H2, hc2⟩; have hC := hNext w2 H2; clear hFirst hNext) | (refine hC.mono ?_; rintro e w3 ⟨rfl, H3, hc3⟩; have s2 := hc2.size; have s3 : w2.heap.size + 1 ≤ w3.heap.size := (by have := hc3.size; simpa using this); have e3 : w3.heap[w2.heap.size]? = some (Val.box ⟨2, 0, []⟩) := (hc3.block _ (by simp) (by omega)).trans (World.alloc_heap_new w2 _); have d0 : w3.cell? ⟨w2.heap.size, 0, none⟩ = some (.int .i64 2) := (by rw [Lib.cell_of_heap e3]; rfl); have d1 : w3.cell? ⟨w2.heap.size, 1, none⟩ = some (.int .i64 0) := (by rw [Lib.cell_of_heap e3]; rfl); have d2 : w3.cell? ⟨w2.heap.size, 2, none⟩ = some (.string ⟨#[]⟩) := (by rw [Lib.cell_of_heap e3]; rfl); have k1 := Lib.frozen_of_heap e3 2; have hF4 := H3.chg (Chg.setCell w3 ⟨w2.heap.size, 2, none⟩ (.string ⟨vv.toArray⟩)) (by show ¬ q = w2.heap.size; omega) (by show ¬ g = w2.heap.size; omega); obtain ⟨hr4, hfin⟩ := from_step hq hg C0 hrow (turned hc2 hc3 2 (.string ⟨vv.toArray⟩)) hF4; clear hC)) | (go_at_call 57; refine hC.mono ?_; rintro e w3 ⟨rfl, H3, hc3⟩; have s2 := hc2.size; have s3 : w2.heap.size + 1 ≤ w3.heap.size := (by have := hc3.size; simpa using this); have e3 : w3.heap[w2.heap.size]? = some (Val.box ⟨2, 0, []⟩) := (hc3.block _ (by simp) (by omega)).trans (World.alloc_heap_new w2 _); have d0 : w3.cell? ⟨w2.heap.size, 0, none⟩ = some (.int .i64 2) := (by rw [Lib.cell_of_heap e3]; rfl); have d1 : w3.cell? ⟨w2.heap.size, 1, none⟩ = some (.int .i64 0) := (by rw [Lib.cell_of_heap e3]; rfl); have d2 : w3.cell? ⟨w2.heap.size, 2, none⟩ = some (.string ⟨#[]⟩) := (by rw [Lib.cell_of_heap e3]; rfl); have k1 := Lib.frozen_of_heap e3 2; have hF4 := H3.chg (Chg.setCell w3 ⟨w2.heap.size, 2, none⟩ (.string ⟨vv.toArray⟩)) (by show ¬ q = w2.heap.size; omega) (by show ¬ g = w2.heap.size; omega); obtain ⟨hr4, hfin⟩ := from_step hq hg C0 hrow (turned hc2 hc3 2 (.string ⟨vv.toArray⟩)) hF4; clear hC) | (at_builtin; refine wpList_append_own_at _ rfl _ _ 22 rfl w.heap.size 48 i0 _ 3 32 Tryz.underlying22 hi hz0 hz1 hz2 rfl (by decide) u4 k _ rfl (World.ownsRow.alloc hr4 _) ⟨w3.heap.size, 0, none⟩ 1 1 [.int .i64 2, .int .i64 0, .string ⟨vv.toArray⟩] rfl rfl (new3 (w3.setCell ⟨w2.heap.size, 2, none⟩ (.string ⟨vv.toArray⟩)) ⟨2, 0, vv⟩ w3.heap.size (by simp [World.setCell])) (by simp [Value.oneCell']) (by unfold maxLen; omega) (by omega) (by have := C0.size; have := hc2.size; simp; omega) ?_; intro v' w6 hown2 hgrow _ _; obtain ⟨F6, C6⟩ := hfin _ w6 hgrow))
          exact ⟨⟨k + 1, by omega, by go_num, by rw [HV.out]; exact hown2, by rw [HX.out]; exact F6, C6⟩, by simp [intOf]; omega⟩
        by_cases t3 : rTag s = 3
        · have hFirst : Calls Tryz.prog 55 #[.pointer (some ⟨q, 0, none⟩)] wr fun e w' => e = .returned (.int .i64 3) ∧ FS w' q g bs s1 ∧ Chg wr w' (fun i => i = q) := by
            rw [show ansByte s.1 s.2 = 3 from t3] at hFirst0
            exact hFirst0
          have hE : readV s = (⟨3, ansByte s1.1 s1.2, []⟩, rB s1 1) := by rw [hs1]; simp only [readV, t3, if_true]; rw [if_neg (by decide), if_neg (by decide)]
          rw [hE] at HX HV
          have hNext : ∀ w2, FS w2 q g bs s1 → Calls Tryz.prog 55 #[.pointer (some ⟨q, 0, none⟩)] (w2.alloc (Val.box ⟨3, 0, []⟩)) fun e w' => e = .returned (.int .i64 (ansByte s1.1 s1.2)) ∧ FS w' q g bs (rB s1 1) ∧ Chg (w2.alloc (Val.box ⟨3, 0, []⟩)) w' (fun i => i = q) := fun w2 H2 => fbyte_s q g bs s1 _ (H2.chg (Chg.alloc w2 _ (fun _ => False)) id id)
          generalize rB s1 1 = st at hNext HX HV
          generalize ansByte s1.1 s1.2 = vv at hNext HX HV
          simp only at HV HX
          clear hE hFirst0 t3 hs1 herr
          go_wp2_with (first | (go_at_call 55; first | (refine hFirst.mono ?_; rintro e w2 ⟨rfl, H2, hc2⟩; have hC := hNext w2 H2; clear hFirst hNext) | (refine hC.mono ?_; rintro e w3 ⟨rfl, H3, hc3⟩; have s2 := hc2.size; have s3 : w2.heap.size + 1 ≤ w3.heap.size := (by have := hc3.size; simpa using this); have e3 : w3.heap[w2.heap.size]? = some (Val.box ⟨3, 0, []⟩) := (hc3.block _ (by simp) (by omega)).trans (World.alloc_heap_new w2 _); have d0 : w3.cell? ⟨w2.heap.size, 0, none⟩ = some (.int .i64 3) := (by rw [Lib.cell_of_heap e3]; rfl); have d1 : w3.cell? ⟨w2.heap.size, 1, none⟩ = some (.int .i64 0) := (by rw [Lib.cell_of_heap e3]; rfl); have d2 : w3.cell? ⟨w2.heap.size, 2, none⟩ = some (.string ⟨#[]⟩) := (by rw [Lib.cell_of_heap e3]; rfl); have k1 := Lib.frozen_of_heap e3 1; have hF4 := H3.chg (Chg.setCell w3 ⟨w2.heap.size, 1, none⟩ (.int .i64 vv)) (by show ¬ q = w2.heap.size; omega) (by show ¬ g = w2.heap.size; omega); obtain ⟨hr4, hfin⟩ := from_step hq hg C0 hrow (turned hc2 hc3 1 (.int .i64 vv)) hF4; clear hC)) | (go_at_call 55; refine hC.mono ?_; rintro e w3 ⟨rfl, H3, hc3⟩; have s2 := hc2.size; have s3 : w2.heap.size + 1 ≤ w3.heap.size := (by have := hc3.size; simpa using this); have e3 : w3.heap[w2.heap.size]? = some (Val.box ⟨3, 0, []⟩) := (hc3.block _ (by simp) (by omega)).trans (World.alloc_heap_new w2 _); have d0 : w3.cell? ⟨w2.heap.size, 0, none⟩ = some (.int .i64 3) := (by rw [Lib.cell_of_heap e3]; rfl); have d1 : w3.cell? ⟨w2.heap.size, 1, none⟩ = some (.int .i64 0) := (by rw [Lib.cell_of_heap e3]; rfl); have d2 : w3.cell? ⟨w2.heap.size, 2, none⟩ = some (.string ⟨#[]⟩) := (by rw [Lib.cell_of_heap e3]; rfl); have k1 := Lib.frozen_of_heap e3 1; have hF4 := H3.chg (Chg.setCell w3 ⟨w2.heap.size, 1, none⟩ (.int .i64 vv)) (by show ¬ q = w2.heap.size; omega) (by show ¬ g = w2.heap.size; omega); obtain ⟨hr4, hfin⟩ := from_step hq hg C0 hrow (turned hc2 hc3 1 (.int .i64 vv)) hF4; clear hC) | (at_builtin; refine wpList_append_own_at _ rfl _ _ 22 rfl w.heap.size 48 i0 _ 3 32 Tryz.underlying22 hi hz0 hz1 hz2 rfl (by decide) u4 k _ rfl (World.ownsRow.alloc hr4 _) ⟨w3.heap.size, 0, none⟩ 1 1 [.int .i64 3, .int .i64 vv, .string ⟨#[]⟩] rfl rfl (new3 (w3.setCell ⟨w2.heap.size, 1, none⟩ (.int .i64 vv)) ⟨3, vv, []⟩ w3.heap.size (by simp [World.setCell])) (by simp [Value.oneCell']) (by unfold maxLen; omega) (by omega) (by have := C0.size; have := hc2.size; simp; omega) ?_; intro v' w6 hown2 hgrow _ _; obtain ⟨F6, C6⟩ := hfin _ w6 hgrow))
          exact ⟨⟨k + 1, by omega, by go_num, by rw [HV.out]; exact hown2, by rw [HX.out]; exact F6, C6⟩, by simp [intOf]; omega⟩
        · have e1 : (rTag s == 1) = false := by simp [t1]
          have e2 : (rTag s == 2) = false := by simp [t2]
          have e3 : (rTag s == 3) = false := by simp [t3]
          have hE : readV s = (⟨rTag s, 0, []⟩, s1) := by simp only [readV, if_neg t1, if_neg t2, if_neg t3, hs1]
          rw [hE] at HX HV
          replace hFirst0 : Calls Tryz.prog 55 #[.pointer (some ⟨q, 0, none⟩)] wr fun e w' => e = .returned (.int .i64 (rTag s)) ∧ FS w' q g bs s1 ∧ Chg wr w' (fun i => i = q) := hFirst0
          clear hE t1 t2 t3 hs1 herr
          generalize rTag s = tg at *
          simp only at HV HX
          go_wp2_with (first | (go_at_call 55; refine hFirst0.mono ?_; rintro e w2 ⟨rfl, H2, hc2⟩; have s2 := hc2.size; obtain ⟨hr4, hfin⟩ := from_step (W := w2.alloc (Val.box ⟨tg, 0, []⟩)) hq hg C0 hrow ((hc2.mono fun _ _ e => .inl e).trans (Chg.alloc w2 _ (fun _ => False)) (fun _ _ e => e.elim)) (H2.chg (Chg.alloc w2 _ (fun _ => False)) id id); clear hFirst0) | (at_builtin; refine wpList_append_own_at _ rfl _ _ 22 rfl w.heap.size 48 i0 _ 3 32 Tryz.underlying22 hi hz0 hz1 hz2 rfl (by decide) u4 k _ rfl (World.ownsRow.alloc hr4 _) ⟨w2.heap.size + 1, 0, none⟩ 1 1 [.int .i64 tg, .int .i64 0, .string ⟨#[]⟩] rfl rfl (new3 (w2.alloc (Val.box ⟨tg, 0, []⟩)) ⟨tg, 0, []⟩ (w2.heap.size + 1) (by simp)) (by simp [Value.oneCell']) (by unfold maxLen; omega) (by omega) (by have := C0.size; have := hc2.size; simp; omega) ?_; intro v' w6 hown2 hgrow _ _; obtain ⟨F6, C6⟩ := hfin _ w6 hgrow))
          exact ⟨⟨k + 1, by omega, by go_num, by rw [HV.out]; exact hown2, by rw [HX.out]; exact F6, C6⟩, by simp [intOf]; omega⟩
      · have hne : ((stN s0 k).2 == 0) = false := by simp [herr]
        generalize hee : (stN s0 k).2 = ee at ce hne
        go_wp2
        go_ret
        exact ⟨k, _, hk, .inr (by rw [hee]; simpa using hne), rfl, hrow, HF, C0⟩
    · obtain rfl : k = n := by omega
      go_wp2
      go_ret
      exact ⟨k, _, Nat.le_refl _, .inl rfl, rfl, hrow, HF, C0⟩
end Go.Proofs.YtdmmlgajgpmpbaaGreatDoor
