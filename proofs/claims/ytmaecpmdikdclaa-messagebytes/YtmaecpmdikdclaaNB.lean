/- Layer 17: what the document reads: logs. -/
import Derived.Test.YtmaecpmdikdclaaMR
import Derived.Test.YtmaecpmdikdclaaMV
namespace Go.Proofs.Ytmaecpmdikdclaa
open Go.RowKit
theorem gEnt_err : ∀ (n : Nat) (s : RSt), s.2 ≠ 0 → gMany gEnt n s = ([], s) := fun n s h => gMany_err n s h
set_option maxRecDepth 100000 in
set_option maxHeartbeats 2000000 in
theorem rread17_any (q g : Nat) (bs : List UInt8) (s : RSt) (w : World) (H : FS w q g bs s) (hg : g < w.heap.size) : Calls Try.prog 51 #[.pointer (some ⟨q, 0, none⟩)] w (ManyEndF 114 2 (gLog s).1.length (cellsE (gLog s).1) q g bs (gLog s).2 w) := by
  have hq := H.cell.2
  obtain ⟨n1, hn1, e1⟩ := gByte_nat s
  obtain ⟨n2, hn2, e2⟩ := gByte_nat (gByte s).2
  have hG : gLog s = gMany gEnt (n1 * 256 + n2) (gByte (gByte s).2).2 := by unfold gLog gLogA; rw [e1, e2, Int.toNat_natCast, Int.toNat_natCast]
  have hB1 := fbyte_s q g bs s w H
  rw [e1] at hB1
  have hB2 : ∀ W, FS W q g bs (gByte s).2 → _ := fun W HW => fbyte_s q g bs (gByte s).2 W HW
  rw [e2] at hB2
  rw [hG]
  generalize (gByte (gByte s).2).2 = st at *
  generalize (gByte s).2 = s1 at *
  have hN : n1 * 256 + n2 ≤ 65535 := by omega
  obtain ⟨n, hn⟩ : ∃ n, n = n1 * 256 + n2 := ⟨_, rfl⟩
  have hnI : (256 * (n1 : Int) + (n2 : Int)) = (n : Int) := by omega
  rw [← hn] at hN ⊢
  have HFin : Hid (∀ wr v L st', gMany gEnt n st = (L, st') → wr.ownsRow w.heap.size 114 2 v L.length (cellsE L) → FS wr q g bs st' → Chg w wr (fun k => k = q) → ManyEndF 114 2 (gMany gEnt n st).1.length (cellsE (gMany gEnt n st).1) q g bs (gMany gEnt n st).2 w (.returned v) wr) := hid fun wr v L st' e hr HR hc => by
    rw [e]
    exact ⟨⟨v, rfl, hr⟩, HR, hc⟩
  clear hG e1 e2 H hn
  go_enter Try.func51, Try.ntmps51
  go_wp2_with (go_at_call 49; first | (refine hB1.mono ?_; clear hB1; rintro e w1 ⟨rfl, I1, k1⟩; have hU1 := hB2 w1 I1; clear hB2) | (refine hU1.mono ?_; clear hU1; rintro e w2 ⟨rfl, I2, k2⟩; have hD2 : Chg w w2 (fun k => k = q) := k1.trans k2 fun _ _ e => e))
  clear hnI I1 k1 k2
  go_loopw [4, 5] (fun v i wr => ∃ (k : Nat) (L : List Ent) (s : RSt), k ≤ n ∧ i = .int .i64 k ∧ L.length = k ∧ Hid (gMany gEnt n st = (L ++ (gMany gEnt (n - k) s).1, (gMany gEnt (n - k) s).2)) ∧ Hid (wr.ownsRow w.heap.size 114 2 v k (cellsE L)) ∧ Hid (FS wr q g bs s) ∧ Hid (Chg w wr (fun k => k = q))) (fun _ i _ => n - (intOf i).toNat)
  case atStart => exact ⟨0, [], st, Nat.zero_le _, rfl, rfl, hid (by simp), hid (World.ownsRow_nil _ _ _ _), hid I2, hid hD2⟩
  case round =>
    obtain ⟨k, L, s, hk, rfl, hL, HM, HRow, HR, HC1⟩ := hrel
    obtain ⟨ce, cq⟩ := HR.out.cell
    obtain ⟨ra, rc, rfl, _, _, _⟩ := row_form HRow.out
    by_cases hlt : k < n
    · have hlt2 : (k : Int) < (n : Int) := by omega
      by_cases herr : s.2 = 0
      · have HM' := hid (gMany_round hlt herr HM.out)
        rw [herr] at ce
        have hI := fint_s q g bs s wr HR.out
        have HX : Hid ((gEnt s).1 = ⟨(gInt s).1, (gText (gInt s).2).1⟩ ∧ (gEnt s).2 = (gText (gInt s).2).2) := hid ⟨rfl, rfl⟩
        have hT : ∀ W, FS W q g bs (gInt s).2 → _ := fun W HW => ftext_s q g bs (gInt s).2 W HW
        generalize (gText (gInt s).2).2 = s3 at *
        generalize (gText (gInt s).2).1 = xd at *
        generalize (gInt s).2 = s2 at *
        generalize (gInt s).1 = xv at *
        have HV : Hid (cellsE (L ++ [⟨xv, xd⟩]) = cellsE L ++ [.int .i64 xv, .string ⟨xd.toArray⟩]) := hid (by rw [cellsE_app]; rfl)
        have hsW := HC1.out.size
        have hgr : g < wr.heap.size := by omega
        have HE : Hid (∀ w5 w6 v6 o, FS w5 q g bs s3 → Chg wr w5 (fun i => i = q) → Step (w5.alloc o) (.slice ra k rc) w6 v6 → FS w6 q g bs s3 ∧ Chg w w6 (fun i => i = q)) := hid fun w5 w6 v6 o H5 c5 hs => manyf_step4 rfl hq hg HC1.out HRow.out c5 H5 hs
        have HRow5 : Hid (∀ w5 o, Chg wr w5 (fun i => i = q) → (w5.alloc o).ownsRow w.heap.size 114 2 (.slice ra k rc) k (cellsE L)) := hid fun w5 o c5 => many_row rfl hq HRow.out c5 o
        clear HM HR HC1 HFin HRow
        generalize cellsE L = xs at *
        go_wp2_with (go_at_call 50; refine hI.mono ?_; clear hI; rintro e w3 ⟨rfl, H3, c3⟩)
        obtain ⟨W4, hW4⟩ : ∃ W, W = w3.alloc (.cells #[.int .i64 xv, .string ⟨#[]⟩] 114) := ⟨_, rfl⟩
        obtain ⟨B, hB⟩ : ∃ z, z = w3.heap.size := ⟨_, rfl⟩
        have b4 : W4.heap[B]? = some (.cells #[.int .i64 xv, .string ⟨#[]⟩] 114 (0, 0)) := by rw [hW4, hB]; exact heap_alloc_new w3 _
        have hBr : wr.heap.size ≤ B := by rw [hB]; exact c3.size
        have H4 : FS W4 q g bs s2 := by rw [hW4]; exact H3.chg (Chg.alloc w3 _ (fun _ => False)) id id
        have c4 : Chg wr W4 (fun k => k = q) := by rw [hW4]; exact c3.trans (Chg.alloc w3 _ _) fun _ _ e => e
        have hT4 := hT W4 H4
        clear hT c3 H3 H4
        rw [← hW4, ← hB]
        clear hW4 hB
        refine hT4.mono ?_
        clear hT4
        rintro e w4 ⟨rfl, H5, c5⟩
        have b5 := (c5.block _ (lt_of_block b4) (by omega)).trans b4
        have y0 : w4.cell? ⟨B, 0, none⟩ = some (.int .i64 xv) := by rw [Lib.cell_of_heap b5]; rfl
        have y1 : w4.cell? ⟨B, 1, none⟩ = some (.string ⟨#[]⟩) := by rw [Lib.cell_of_heap b5]; rfl
        have yf := Lib.frozen_of_heap b5 1
        have yl := lt_of_block b5
        obtain ⟨W5, hW5⟩ : ∃ W, W = w4.setCell ⟨B, 1, none⟩ (.string ⟨xd.toArray⟩) := ⟨_, rfl⟩
        have H6 : FS W5 q g bs s3 := by rw [hW5]; exact H5.chg (Chg.setCell w4 ⟨B, 1, none⟩ _) (fun (e : q = B) => by omega) (fun (e : g = B) => by omega)
        have c6 : Chg wr W5 (fun k => k = q) := by
          have h1 : Chg wr w4 (fun k => k = q) := c4.trans c5 fun _ _ e => e
          have h2 : Chg w4 W5 (fun k => k = B) := by rw [hW5]; exact Chg.setCell _ _ _
          exact (h1.mono (T := fun k => k = q ∨ k = B) fun _ _ e => .inl e).trans h2 (fun _ _ e => .inr e) |>.mono fun i hi e => by
            rcases e with e | e
            · exact e
            · omega
        have b6 : W5.heap[B]? = some (.cells #[.int .i64 xv, .string ⟨xd.toArray⟩] 114 (0, 0)) := by rw [hW5, heap_setCell_same _ _ _ _ _ _ b5]; rfl
        have z0 : W5.cell? ⟨B, 0, none⟩ = some (.int .i64 xv) := by rw [Lib.cell_of_heap b6]; rfl
        have z1 : W5.cell? ⟨B, 1, none⟩ = some (.string ⟨xd.toArray⟩) := by rw [Lib.cell_of_heap b6]; rfl
        have hs5 := c6.size
        clear b4 b5 b6 c4 c5 H5
        go_upto_region 9 with fail
        rw [← hW5]
        clear hW5
        go_wp2_with (at_builtin; refine wpList_appN _ rfl _ _ 22 rfl elemN_entD w.heap.size (.slice ra k rc) k xs rfl (HRow5.out W5 _ c6) _ rfl 1 [.int .i64 xv, .string ⟨xd.toArray⟩] (.inr ⟨⟨_, 0, none⟩, 1, rfl, cells_new4 _ [.int .i64 xv, .string ⟨xd.toArray⟩] 114 _ rfl⟩) rfl (by simp [Value.oneCell']) (by unfold maxLen; omega) (by omega) (by simp; omega) ?_; intro v' w6 hr6 hs6; have F6 := HE.out W5 w6 v' _ H6 c6 hs6; clear hs6)
        exact ⟨⟨k + 1, L ++ [⟨xv, xd⟩], s3, by omega, by go_num, by simp [hL], by rw [HX.out.1, HX.out.2] at HM'; exact HM', by rw [HV.out]; exact hid hr6, hid F6.1, hid F6.2⟩, by simp [intOf]; omega⟩
      · have hE := gMany_end (.inr herr) HM.out
        have hF := HFin.out wr _ L s hE (by rw [hL]; exact HRow.out) HR.out HC1.out
        have hne : (s.2 == 0) = false := by simp [herr]
        clear HM HFin hE HR HC1 HRow
        generalize s.2 = er at *
        go_wp2_with fail
        go_ret
        exact hF
    · obtain rfl : k = n := by omega
      have hE := gMany_end (.inl rfl) HM.out
      have hF := HFin.out wr _ L s hE (by rw [hL]; exact HRow.out) HR.out HC1.out
      clear HM HFin hE HR HC1 HRow
      go_wp2_with fail
      go_ret
      exact hF
end Go.Proofs.Ytmaecpmdikdclaa
