/- Layer 17: bytes and numbers are read to places; logs are read. Layer 17: logs are read. -/
import Derived.Test.YtmaecpmdikdclaaMQ
import Derived.Test.YtmaecpmdikdclaaME
namespace Go.Proofs.Ytmaecpmdikdclaa
open Go.RowKit
/-- What is left behind k things; the box then. -/
def stK (one : RSt → Int × RSt) (s : RSt) : Nat → RSt
  | 0 => s
  | k + 1 => (one (stK one s k)).2
def upK (one : RSt → Int × RSt) (s : RSt) (os : List Nat) (cur : List Value) : Nat → List Value
  | 0 => cur
  | k + 1 => (upK one s os cur k).set (os.getD k 0) (.int .i64 (one (stK one s k)).1)
theorem upK_len (one : RSt → Int × RSt) (s : RSt) (os : List Nat) (cur : List Value) : ∀ k, (upK one s os cur k).length = cur.length
  | 0 => rfl
  | k + 1 => by unfold upK; rw [List.length_set]; exact upK_len one s os cur k
theorem upK_succ {one : RSt → Int × RSt} {s : RSt} {os : List Nat} {cur : List Value} {k : Nat} (h : k < os.length) : upK one s os cur (k + 1) = (upK one s os cur k).set os[k] (.int .i64 (one (stK one s k)).1) := by
  show (upK one s os cur k).set (os.getD k 0) _ = _
  rw [List.getD_eq_getElem?_getD, List.getElem?_eq_getElem h, Option.getD_some]
theorem upK_int {one : RSt → Int × RSt} {s : RSt} {os : List Nat} {cur : List Value} (h : ∀ o ∈ os, ∃ z, cur[o]? = some (Value.int .i64 z)) : ∀ k, ∀ o ∈ os, ∃ z, (upK one s os cur k)[o]? = some (Value.int .i64 z)
  | 0, o, ho => h o ho
  | k + 1, o, ho => by
    obtain ⟨z, hz⟩ := upK_int (one := one) (s := s) h k o ho
    unfold upK
    by_cases e : os.getD k 0 = o
    · have hl : o < (upK one s os cur k).length := (List.getElem?_eq_some_iff.1 hz).1
      subst e
      exact ⟨_, by rw [List.getElem?_set_self hl]⟩
    · exact ⟨z, by rw [List.getElem?_set_ne e]; exact hz⟩
def PlcEnd (p h g : Nat) (one : RSt → Int × RSt) (n : Nat) (s : RSt) (xb : Nat) (T : TypeId) (os : List Nat) (cur : List Value) (w : World) (e : Ending) (w' : World) : Prop := e = .returned (.tuple #[]) ∧ RdS w' p h g (stK one s n).1 (stK one s n).2 ∧ w'.heap[xb]? = some (.cells (upK one s os cur n).toArray T (0, 0)) ∧ Chg w w' (fun k => k = h ∨ k = xb)
set_option maxRecDepth 100000 in
set_option maxHeartbeats 1000000 in
theorem readBytes17 (p h g : Nat) (s : RSt) (xb pb n : Nat) (T : TypeId) (os : List Nat) (cur : List Value) (w : World) (H : RdS w p h g s.1 s.2) (hx : w.heap[xb]? = some (.cells cur.toArray T (0, 0))) (hn : os.length = n) (hm : n ≤ 1000) (hos : ∀ o ∈ os, o < cur.length) (hcur : ∀ o ∈ os, ∃ z, cur[o]? = some (.int .i64 z)) (hpb : ∀ j (hj : j < os.length), w.cell? ⟨pb, j, none⟩ = some (.pointer (some ⟨xb, os[j], none⟩))) (hpx : pb ≠ xb ∧ pb ≠ h) (hxh : xb ≠ h ∧ xb ≠ p ∧ xb ≠ g) :
    Calls Try.prog 43 #[rdV p, .slice (some ⟨pb, 0, none⟩) n n] w (PlcEnd p h g gByte n s xb T os cur w) := by
  obtain ⟨hp, hh⟩ := rds_lt4 H
  have hxl := lt_of_block hx
  have H1 := H.chg (Chg.alloc w (.cells #[.pointer (some ⟨p, 0, none⟩)] 95) (fun _ => False)) id id id
  have hC0 := Chg.alloc w (.cells #[.pointer (some ⟨p, 0, none⟩)] 95) (fun k => k = h ∨ k = xb)
  obtain ⟨W1, hW1⟩ : ∃ W1, W1 = w.alloc (.cells #[.pointer (some ⟨p, 0, none⟩)] 95) := ⟨_, rfl⟩
  have bA : W1.heap[w.heap.size]? = some (.cells #[.pointer (some ⟨p, 0, none⟩)] 95 (0, 0)) := by rw [hW1]; exact heap_alloc_new w _
  have hx1 : W1.heap[xb]? = some (.cells cur.toArray T (0, 0)) := by rw [hW1, Below.heap_alloc _ _ _ hxl]; exact hx
  rw [← hW1] at H1 hC0
  have hz1 : W1.heap.size = w.heap.size + 1 := by rw [hW1]; simp
  have hbox : ∀ W, Chg W1 W (fun k => k = h ∨ k = xb) → W.cell? ⟨w.heap.size, 0, none⟩ = some (.pointer (some ⟨p, 0, none⟩)) := fun W hW => by
    rw [Lib.cell_of_heap ((hW.block _ (by omega) (fun e => by rcases e with e | e <;> omega)).trans bA)]; rfl
  have hpl : ∀ W, Chg W1 W (fun k => k = h ∨ k = xb) → ∀ j (hj : j < os.length), W.cell? ⟨pb, j, none⟩ = some (.pointer (some ⟨xb, os[j], none⟩)) := fun W hW j hj => (hC0.trans hW fun _ _ e => e).cell (hpb j hj) (fun e => by rcases e with e | e; exact hpx.2 e; exact hpx.1 e)
  have HN := hid hn
  have HO := hid hos
  have HCu := hid hcur
  have HPl := hid hpl
  clear hn hos hcur hpl hpb H hx bA
  go_enter Try.func43, Try.ntmps43
  go_wp2_with fail
  rw [← hW1]
  clear hW1
  go_loopw [8] (fun iv wr => ∃ k : Nat, iv = .int .i64 k ∧ k ≤ n ∧ Hid (RdS wr p h g (stK gByte s k).1 (stK gByte s k).2) ∧ Hid (wr.heap[xb]? = some (.cells (upK gByte s os cur k).toArray T (0, 0))) ∧ Hid (Chg W1 wr (fun k => k = h ∨ k = xb))) (fun iv _ => n - (intOf iv).toNat)
  case atStart => exact ⟨0, rfl, Nat.zero_le _, hid H1, hid hx1, hid (Chg.refl _ _)⟩
  case round =>
    obtain ⟨k, rfl, hk, HR, HX, HCg⟩ := hrel
    have cb := hbox wr HCg.out
    by_cases hlt : k < n
    · have hkl : k < os.length := by rw [HN.out]; exact hlt
      have cp := HPl.out wr HCg.out k hkl
      have hC := gbyte_s p h g (stK gByte s k) wr HR.out
      have hol : os[k] < (upK gByte s os cur k).length := by rw [upK_len]; exact HO.out _ (List.getElem_mem hkl)
      obtain ⟨z, hz⟩ := upK_int (s := s) (one := gByte) (os := os) (cur := cur) HCu.out k os[k] (List.getElem_mem hkl)
      have HS : Hid (upK gByte s os cur (k + 1) = (upK gByte s os cur k).set os[k] (.int .i64 (gByte (stK gByte s k)).1)) := hid (upK_succ hkl)
      have HT : Hid (stK gByte s (k + 1) = (gByte (stK gByte s k)).2) := hid rfl
      have hF : Hid (∀ w4, RdS w4 p h g (gByte (stK gByte s k)).2.1 (gByte (stK gByte s k)).2.2 → Chg wr w4 (fun i => i = h) → (w4.cell? ⟨xb, os[k], none⟩ = some (.int .i64 z) ∧ w4.frozen? ⟨xb, os[k], none⟩ = false ∧ xb < w4.heap.size) ∧ ∀ x, (w4.setCell ⟨xb, os[k], none⟩ (.int .i64 x)).heap[xb]? = some (.cells ((upK gByte s os cur k).set os[k] (.int .i64 x)).toArray T (0, 0)) ∧ RdS (w4.setCell ⟨xb, os[k], none⟩ (.int .i64 x)) p h g (gByte (stK gByte s k)).2.1 (gByte (stK gByte s k)).2.2 ∧ Chg W1 (w4.setCell ⟨xb, os[k], none⟩ (.int .i64 x)) (fun k => k = h ∨ k = xb)) := hid fun w4 H4 c4 => by
        have b4 := (c4.block _ (lt_of_block HX.out) hxh.1).trans HX.out
        refine ⟨⟨by rw [Lib.cell_of_heap b4]; simpa using hz, Lib.frozen_of_heap b4 _, lt_of_block b4⟩, fun x => ⟨?_, H4.chg (Chg.setCell w4 ⟨xb, os[k], none⟩ _) (fun e => hxh.2.1 e.symm) (fun e => hxh.1 e.symm) (fun e => hxh.2.2 e.symm), (HCg.out.trans c4 fun _ _ e => .inl e).trans (Chg.setCell w4 ⟨xb, os[k], none⟩ _) fun _ _ e => .inr e⟩⟩
        rw [heap_setCell_same _ _ _ _ _ _ b4, List.setIfInBounds_toArray]
      have cbl : w.heap.size < wr.heap.size := World.block_lt_of_cell? _ _ cb
      clear hbox HO HX HR hz hol
      generalize os[k] = o at *
      generalize (gByte (stK gByte s k)).1 = x at *
      generalize (gByte (stK gByte s k)).2 = s' at *
      generalize upK gByte s os cur k = uk at *
      go_wp2_with (go_at_call 71; refine hC.mono ?_; clear hC; rintro e w4 ⟨rfl, H4, c4⟩; obtain ⟨⟨y0, y1, y2⟩, HY⟩ := hF.out w4 H4 c4; have HY2 := hid (HY x); clear HY hF)
      obtain ⟨q1, q2, q3⟩ := HY2.out
      exact ⟨⟨k + 1, by go_num, by omega, hid (by rw [HT.out]; exact q2), hid (by rw [HS.out]; exact q1), hid q3⟩, by simp [intOf]; omega⟩
    · obtain rfl : k = n := by omega
      have hR := HR.out
      have hX := HX.out
      have hCg := HCg.out
      clear HR HX HCg hbox HPl
      go_wp2_with fail
      go_end0
      exact ⟨rfl, hR, hX, hC0.trans hCg fun _ _ e => e⟩
set_option maxRecDepth 100000 in
set_option maxHeartbeats 1000000 in
theorem readInts17 (p h g : Nat) (s : RSt) (xb pb n : Nat) (T : TypeId) (os : List Nat) (cur : List Value) (w : World) (H : RdS w p h g s.1 s.2) (hx : w.heap[xb]? = some (.cells cur.toArray T (0, 0))) (hn : os.length = n) (hm : n ≤ 1000) (hos : ∀ o ∈ os, o < cur.length) (hcur : ∀ o ∈ os, ∃ z, cur[o]? = some (.int .i64 z)) (hpb : ∀ j (hj : j < os.length), w.cell? ⟨pb, j, none⟩ = some (.pointer (some ⟨xb, os[j], none⟩))) (hpx : pb ≠ xb ∧ pb ≠ h) (hxh : xb ≠ h ∧ xb ≠ p ∧ xb ≠ g) :
    Calls Try.prog 44 #[rdV p, .slice (some ⟨pb, 0, none⟩) n n] w (PlcEnd p h g gInt n s xb T os cur w) := by
  obtain ⟨hp, hh⟩ := rds_lt4 H
  have hxl := lt_of_block hx
  have H1 := H.chg (Chg.alloc w (.cells #[.pointer (some ⟨p, 0, none⟩)] 95) (fun _ => False)) id id id
  have hC0 := Chg.alloc w (.cells #[.pointer (some ⟨p, 0, none⟩)] 95) (fun k => k = h ∨ k = xb)
  obtain ⟨W1, hW1⟩ : ∃ W1, W1 = w.alloc (.cells #[.pointer (some ⟨p, 0, none⟩)] 95) := ⟨_, rfl⟩
  have bA : W1.heap[w.heap.size]? = some (.cells #[.pointer (some ⟨p, 0, none⟩)] 95 (0, 0)) := by rw [hW1]; exact heap_alloc_new w _
  have hx1 : W1.heap[xb]? = some (.cells cur.toArray T (0, 0)) := by rw [hW1, Below.heap_alloc _ _ _ hxl]; exact hx
  rw [← hW1] at H1 hC0
  have hz1 : W1.heap.size = w.heap.size + 1 := by rw [hW1]; simp
  have hbox : ∀ W, Chg W1 W (fun k => k = h ∨ k = xb) → W.cell? ⟨w.heap.size, 0, none⟩ = some (.pointer (some ⟨p, 0, none⟩)) := fun W hW => by
    rw [Lib.cell_of_heap ((hW.block _ (by omega) (fun e => by rcases e with e | e <;> omega)).trans bA)]; rfl
  have hpl : ∀ W, Chg W1 W (fun k => k = h ∨ k = xb) → ∀ j (hj : j < os.length), W.cell? ⟨pb, j, none⟩ = some (.pointer (some ⟨xb, os[j], none⟩)) := fun W hW j hj => (hC0.trans hW fun _ _ e => e).cell (hpb j hj) (fun e => by rcases e with e | e; exact hpx.2 e; exact hpx.1 e)
  have HN := hid hn
  have HO := hid hos
  have HCu := hid hcur
  have HPl := hid hpl
  clear hn hos hcur hpl hpb H hx bA
  go_enter Try.func44, Try.ntmps44
  go_wp2_with fail
  rw [← hW1]
  clear hW1
  go_loopw [8] (fun iv wr => ∃ k : Nat, iv = .int .i64 k ∧ k ≤ n ∧ Hid (RdS wr p h g (stK gInt s k).1 (stK gInt s k).2) ∧ Hid (wr.heap[xb]? = some (.cells (upK gInt s os cur k).toArray T (0, 0))) ∧ Hid (Chg W1 wr (fun k => k = h ∨ k = xb))) (fun iv _ => n - (intOf iv).toNat)
  case atStart => exact ⟨0, rfl, Nat.zero_le _, hid H1, hid hx1, hid (Chg.refl _ _)⟩
  case round =>
    obtain ⟨k, rfl, hk, HR, HX, HCg⟩ := hrel
    have cb := hbox wr HCg.out
    by_cases hlt : k < n
    · have hkl : k < os.length := by rw [HN.out]; exact hlt
      have cp := HPl.out wr HCg.out k hkl
      have hC := gint_s p h g (stK gInt s k) wr HR.out
      have hol : os[k] < (upK gInt s os cur k).length := by rw [upK_len]; exact HO.out _ (List.getElem_mem hkl)
      obtain ⟨z, hz⟩ := upK_int (s := s) (one := gInt) (os := os) (cur := cur) HCu.out k os[k] (List.getElem_mem hkl)
      have HS : Hid (upK gInt s os cur (k + 1) = (upK gInt s os cur k).set os[k] (.int .i64 (gInt (stK gInt s k)).1)) := hid (upK_succ hkl)
      have HT : Hid (stK gInt s (k + 1) = (gInt (stK gInt s k)).2) := hid rfl
      have hF : Hid (∀ w4, RdS w4 p h g (gInt (stK gInt s k)).2.1 (gInt (stK gInt s k)).2.2 → Chg wr w4 (fun i => i = h) → (w4.cell? ⟨xb, os[k], none⟩ = some (.int .i64 z) ∧ w4.frozen? ⟨xb, os[k], none⟩ = false ∧ xb < w4.heap.size) ∧ ∀ x, (w4.setCell ⟨xb, os[k], none⟩ (.int .i64 x)).heap[xb]? = some (.cells ((upK gInt s os cur k).set os[k] (.int .i64 x)).toArray T (0, 0)) ∧ RdS (w4.setCell ⟨xb, os[k], none⟩ (.int .i64 x)) p h g (gInt (stK gInt s k)).2.1 (gInt (stK gInt s k)).2.2 ∧ Chg W1 (w4.setCell ⟨xb, os[k], none⟩ (.int .i64 x)) (fun k => k = h ∨ k = xb)) := hid fun w4 H4 c4 => by
        have b4 := (c4.block _ (lt_of_block HX.out) hxh.1).trans HX.out
        refine ⟨⟨by rw [Lib.cell_of_heap b4]; simpa using hz, Lib.frozen_of_heap b4 _, lt_of_block b4⟩, fun x => ⟨?_, H4.chg (Chg.setCell w4 ⟨xb, os[k], none⟩ _) (fun e => hxh.2.1 e.symm) (fun e => hxh.1 e.symm) (fun e => hxh.2.2 e.symm), (HCg.out.trans c4 fun _ _ e => .inl e).trans (Chg.setCell w4 ⟨xb, os[k], none⟩ _) fun _ _ e => .inr e⟩⟩
        rw [heap_setCell_same _ _ _ _ _ _ b4, List.setIfInBounds_toArray]
      have cbl : w.heap.size < wr.heap.size := World.block_lt_of_cell? _ _ cb
      clear hbox HO HX HR hz hol
      generalize os[k] = o at *
      generalize (gInt (stK gInt s k)).1 = x at *
      generalize (gInt (stK gInt s k)).2 = s' at *
      generalize upK gInt s os cur k = uk at *
      go_wp2_with (go_at_call 72; refine hC.mono ?_; clear hC; rintro e w4 ⟨rfl, H4, c4⟩; obtain ⟨⟨y0, y1, y2⟩, HY⟩ := hF.out w4 H4 c4; have HY2 := hid (HY x); clear HY hF)
      obtain ⟨q1, q2, q3⟩ := HY2.out
      exact ⟨⟨k + 1, by go_num, by omega, hid (by rw [HT.out]; exact q2), hid (by rw [HS.out]; exact q1), hid q3⟩, by simp [intOf]; omega⟩
    · obtain rfl : k = n := by omega
      have hR := HR.out
      have hX := HX.out
      have hCg := HCg.out
      clear HR HX HCg hbox HPl
      go_wp2_with fail
      go_end0
      exact ⟨rfl, hR, hX, hC0.trans hCg fun _ _ e => e⟩
end Go.Proofs.Ytmaecpmdikdclaa
namespace Go.Proofs.Ytmaecpmdikdclaa
open Go.RowKit
set_option maxRecDepth 100000 in
set_option maxHeartbeats 1000000 in
theorem newReader17 (ao : Option Addr) (len cap : Nat) (bs : List UInt8) (w : World) (hl : bs.length = len) (hm : len ≤ 140737488355328) (hb : Bs w ao bs) :
    Calls Try.prog 42 #[.slice ao len cap] w fun e w' => ∃ h, e = .returned (rdV (h + 1)) ∧ w.heap.size + 1 < h ∧ RdS w' (h + 1) h (w.heap.size + 1) (if 1048576 < len then [] else bs) 0 ∧ Below w.heap.size w w' := by
  obtain ⟨W1, hW1⟩ : ∃ W, W = w.alloc (.cells #[.pointer none] 95) := ⟨_, rfl⟩
  have hz1 : W1.heap.size = w.heap.size + 1 := by rw [hW1]; simp
  have hb1 : Below w.heap.size w W1 := by rw [hW1]; exact (Below.refl _ w).alloc (Nat.le_refl _) _
  have b1 : W1.heap[w.heap.size]? = some (.cells #[.pointer none] 95 (0, 0)) := by rw [hW1]; exact heap_alloc_new w _
  have key : ∀ (w2 : World) h (xs : List UInt8), W1.heap.size < h → RdS w2 (h + 1) h W1.heap.size xs 0 → Below W1.heap.size W1 w2 → (w2.cell? ⟨w.heap.size, 0, none⟩ = some (.pointer none) ∧ w2.frozen? ⟨w.heap.size, 0, none⟩ = false ∧ w.heap.size < w2.heap.size) ∧ (w2.setCell ⟨w.heap.size, 0, none⟩ (.pointer (some ⟨h + 1, 0, none⟩))).cell? ⟨w.heap.size, 0, none⟩ = some (.pointer (some ⟨h + 1, 0, none⟩)) ∧ RdS (w2.setCell ⟨w.heap.size, 0, none⟩ (.pointer (some ⟨h + 1, 0, none⟩))) (h + 1) h (w.heap.size + 1) xs 0 ∧ Below w.heap.size w (w2.setCell ⟨w.heap.size, 0, none⟩ (.pointer (some ⟨h + 1, 0, none⟩))) := fun w2 h xs hh H2 hb2 => by
    have b2 := (hb2.block _ (lt_of_block b1)).trans b1
    have b3 := heap_setCell_same w2 w.heap.size 0 _ _ (.pointer (some ⟨h + 1, 0, none⟩)) b2
    rw [hz1] at H2
    refine ⟨⟨by rw [Lib.cell_of_heap b2]; rfl, Lib.frozen_of_heap b2 0, lt_of_block b2⟩, by rw [Lib.cell_of_heap b3]; rfl, H2.chg (Chg.setCell _ _ _) (fun (e : h + 1 = w.heap.size) => by omega) (fun (e : h = w.heap.size) => by omega) (fun (e : w.heap.size + 1 = w.heap.size) => by omega), (hb1.trans (hb2.mono hb1.size)).setCell (p := ⟨w.heap.size, 0, none⟩) (Nat.le_refl _) _⟩
  by_cases hbig : 1048576 < len
  · have hN := rnew_any none 0 0 [] W1 rfl (by omega) (.inl rfl)
    rw [if_pos hbig]
    clear hl hb b1 hb1
    go_enter Try.func42, Try.ntmps42
    go_wp2_with fail
    rw [← hW1]
    clear hW1
    refine hN.mono ?_
    clear hN
    rintro e w2 ⟨h, rfl, hh, H2, hb2⟩
    obtain ⟨⟨x0, x1, x2⟩, y0, y1, y2⟩ := key w2 h _ hh H2 hb2
    clear key H2
    go_wp2_with fail
    exact bodyPost_ret (ret_one rfl _ _ _ _ rfl (by simp [loadVar, go_sem, y0])) rfl ⟨h, rfl, by omega, y1, y2⟩
  · have hN := rnew_any ao len cap bs W1 hl hm (hb.keep (below_keep hb1))
    rw [if_neg hbig]
    clear hl hb b1 hb1
    go_enter Try.func42, Try.ntmps42
    go_wp2_with fail
    rw [← hW1]
    clear hW1
    refine hN.mono ?_
    clear hN
    rintro e w2 ⟨h, rfl, hh, H2, hb2⟩
    obtain ⟨⟨x0, x1, x2⟩, y0, y1, y2⟩ := key w2 h _ hh H2 hb2
    clear key H2
    go_wp2_with fail
    exact bodyPost_ret (ret_one rfl _ _ _ _ rfl (by simp [loadVar, go_sem, y0])) rfl ⟨h, rfl, by omega, y1, y2⟩
/-- How a log that was read ends. -/
abbrev LogEnd (L : List Ent) := ManyEnd 109 2 L.length (cellsE L)
set_option maxRecDepth 100000 in
set_option maxHeartbeats 1000000 in
theorem entries_any (p h g : Nat) (s : RSt) (w : World) (H : RdS w p h g s.1 s.2) (hg : g < w.heap.size) : Calls Try.prog 45 #[rdV p] w (LogEnd (gLog s).1 p h g (gLog s).2 w) := by
  obtain ⟨hp, hh⟩ := rds_lt4 H
  obtain ⟨n1, hn1, e1⟩ := gByte_nat s
  obtain ⟨n2, hn2, e2⟩ := gByte_nat (gByte s).2
  have hG : gLog s = gMany gEnt (n1 * 256 + n2) (gByte (gByte s).2).2 := by unfold gLog gLogA; rw [e1, e2, Int.toNat_natCast, Int.toNat_natCast]
  obtain ⟨W1, hW1⟩ : ∃ W1, W1 = w.alloc (.cells #[.pointer (some ⟨p, 0, none⟩)] 95) := ⟨_, rfl⟩
  have hz1 : W1.heap.size = w.heap.size + 1 := by rw [hW1]; simp
  have hC0 : Chg w W1 (fun k => k = h) := by rw [hW1]; exact Chg.alloc _ _ _
  have H1 : RdS W1 p h g s.1 s.2 := by rw [hW1]; exact H.chg (Chg.alloc w _ (fun _ => False)) id id id
  have bA : W1.heap[w.heap.size]? = some (.cells #[.pointer (some ⟨p, 0, none⟩)] 95 (0, 0)) := by rw [hW1]; exact heap_alloc_new w _
  have hbox : ∀ W, Chg W1 W (fun k => k = h) → W.cell? ⟨w.heap.size, 0, none⟩ = some (.pointer (some ⟨p, 0, none⟩)) ∧ w.heap.size < W.heap.size := fun W hW => by
    have e := (hW.block _ (by omega) (by omega)).trans bA
    exact ⟨by rw [Lib.cell_of_heap e]; rfl, lt_of_block e⟩
  have hB1 := gbyte_s p h g s W1.drew (H1.chg (Chg.drew W1 (fun _ => False)) id id id)
  rw [e1] at hB1
  have hB2 : ∀ W, RdS W p h g (gByte s).2.1 (gByte s).2.2 → _ := fun W HW => gbyte_s p h g (gByte s).2 W HW
  rw [e2] at hB2
  rw [hG]
  generalize (gByte (gByte s).2).2 = st at *
  generalize (gByte s).2 = s1 at *
  have hor := or256 n1 n2 hn1 hn2
  have hN : n1 * 256 + n2 ≤ 65535 := by omega
  generalize hn : n1 * 256 + n2 = n at *
  have fin : ∀ wr v L st', gMany gEnt n st = (L, st') → wr.ownsRow W1.heap.size 109 2 v L.length (cellsE L) → RdS wr p h g st'.1 st'.2 → Chg W1 wr (fun k => k = h) → LogEnd (gMany gEnt n st).1 p h g (gMany gEnt n st).2 w (.returned v) wr := fun wr v L st' e hr HR hc => by
    rw [e]
    exact ⟨⟨v, rfl, row_lower4 hr hC0.size⟩, HR, hC0.trans hc fun _ _ e => e⟩
  obtain ⟨x0, x0l⟩ := hbox W1 (Chg.refl _ _)
  have hD0 : Chg W1 W1.drew (fun k => k = h) := Chg.drew _ _
  clear bA hG e1 e2 H hn
  go_enter Try.func45, Try.ntmps45
  go_wp2_with fail
  rw [← hW1]
  clear hW1
  go_region_held3 (fun W => W.cell? ⟨w.heap.size, 0, none⟩ = some (.pointer (some ⟨p, 0, none⟩))) (first | go_keep | exact (hbox _ hD2).1 | exact (hbox _ hD1).1 | exact (hbox _ hD0).1 | exact (hbox _ (Chg.refl _ _)).1) (first | (go_at_call 71; first | (refine hB1.mono ?_; clear hB1; rintro e w1 ⟨rfl, I1, k1⟩; have hD1 := hD0.trans k1 fun _ _ e => e; have hU1 := hB2 w1 I1; clear hB2) | (refine hU1.mono ?_; clear hU1; rintro e w2 ⟨rfl, I2, k2⟩; have hD2 := hD1.trans k2 fun _ _ e => e)))
  rename_i hHeld
  clear hHeld I1 k1 k2 hD1 hor hz1 x0 x0l
  generalize IntKind.i64.wrap ((n1 : Int) * 256) = z7
  go_wp2_with fail
  have eI : ∀ args w, (callFunc 72 args).run Try.prog w = .ok (.enter 72 args) w := enters_of Try.func72 (by kernel_rfl) rfl
  have eT : ∀ args w, (callFunc 74 args).run Try.prog w = .ok (.enter 74 args) w := enters_of Try.func74 (by kernel_rfl) rfl
  have hpW := Nat.lt_of_lt_of_le hp hC0.size
  have hhW := Nat.lt_of_lt_of_le hh hC0.size
  have hgW := Nat.lt_of_lt_of_le hg hC0.size
  have HFin := hid fin
  have HBox := hid hbox
  clear fin hbox hD0 H1
  go_loopw [3, 12] (fun v i wr => ∃ (k : Nat) (L : List Ent) (s : RSt), k ≤ n ∧ i = .int .i64 k ∧ L.length = k ∧ Hid (gMany gEnt n st = (L ++ (gMany gEnt (n - k) s).1, (gMany gEnt (n - k) s).2)) ∧ Hid (wr.ownsRow W1.heap.size 109 2 v k (cellsE L)) ∧ Hid (RdS wr p h g s.1 s.2) ∧ Hid (Chg W1 wr (fun k => k = h))) (fun _ i _ => n - (intOf i).toNat)
  case atStart => exact ⟨0, [], st, Nat.zero_le _, rfl, rfl, hid (by simp), hid (World.ownsRow_nil _ _ _ _), hid I2, hid hD2⟩
  case round =>
    obtain ⟨k, L, s, hk, rfl, hL, HM, HRow, HR, HC1⟩ := hrel
    obtain ⟨c0, cl⟩ := HBox.out wr HC1.out
    have hEr := rerr_any p h g s.1 s.2 wr HR.out
    obtain ⟨ra, rc, rfl, _, _, _⟩ := row_form HRow.out
    by_cases hlt : k < n
    · by_cases herr : s.2 = 0
      · have HM' := hid (gMany_round hlt herr HM.out)
        rw [herr] at hEr
        have hI := gint_s p h g s wr.drew (HR.out.chg (Chg.drew wr (fun _ => False)) id id id)
        have hT : ∀ W, RdS W p h g (gInt s).2.1 (gInt s).2.2 → _ := fun W HW => gtext_s p h g (gInt s).2 W HW
        have HX : Hid ((gEnt s).1 = ⟨(gInt s).1, (gText (gInt s).2).1⟩ ∧ (gEnt s).2 = (gText (gInt s).2).2) := hid ⟨rfl, rfl⟩
        obtain ⟨d0, dl⟩ := HBox.out wr.drew (HC1.out.trans (Chg.drew wr _) fun _ _ e => e)
        have HB2 : Hid (∀ W, Chg wr W (fun k => k = h) → W.cell? ⟨w.heap.size, 0, none⟩ = some (.pointer (some ⟨p, 0, none⟩)) ∧ w.heap.size < W.heap.size) := hid fun W hW => HBox.out W (HC1.out.trans hW fun _ _ e => e)
        generalize (gText (gInt s).2).2 = s3 at *
        generalize (gText (gInt s).2).1 = xd at *
        generalize (gInt s).2 = s2 at *
        generalize (gInt s).1 = xv at *
        have HV : Hid (cellsE (L ++ [⟨xv, xd⟩]) = cellsE L ++ [.int .i64 xv, .string ⟨xd.toArray⟩]) := hid (by rw [cellsE_app]; rfl)
        have hsW := HC1.out.size
        have HE : Hid (∀ w4 w6 v6 o, RdS w4 p h g s3.1 s3.2 → Chg wr w4 (fun i => i = h) → Step (w4.alloc o) (.slice ra k rc) w6 v6 → RdS w6 p h g s3.1 s3.2 ∧ Chg W1 w6 (fun i => i = h)) := hid fun w4 w6 v6 o H4 c4 hs => many_step rfl hpW hhW hgW HC1.out HRow.out c4 H4 hs
        have HRow4 : Hid (∀ w4 o, Chg wr w4 (fun i => i = h) → (w4.alloc o).ownsRow W1.heap.size 109 2 (.slice ra k rc) k (cellsE L)) := hid fun w4 o c4 => many_row rfl hhW HRow.out c4 o
        clear HM HBox HR HC1 HFin HRow
        generalize cellsE L = xs at *
        go_wp2_with (go_at_call 73; refine hEr.mono ?_; rintro e w' ⟨rfl, hw⟩; replace hw := hw.symm; subst hw; clear hEr)
        go_region_law (first
          | (refine step_call2 (by rfl) 72 #[.tmp 20] #[93] (by rfl) eI #[.pointer (some ⟨p, 0, none⟩)] (by rfl) _ hI ?_; rintro e w3 ⟨rfl, H3, c3⟩; refine ⟨_, rfl, ?_⟩; have c3' : Chg wr w3 (fun k => k = h) := (Chg.drew wr _).trans c3 fun _ _ e => e; obtain ⟨f0, fl⟩ := HB2.out w3 c3'; have hT2 := hT w3 H3)
          | (refine step_call2 (by rfl) 74 #[.tmp 23] #[93] (by rfl) eT #[.pointer (some ⟨p, 0, none⟩)] (by rfl) _ hT2 ?_; rintro e w4 ⟨rfl, H4, c4⟩; refine ⟨_, rfl, ?_⟩; have c4' : Chg wr w4 (fun k => k = h) := c3'.trans c4 fun _ _ e => e; have hs4 := c4'.size)
          | (refine step_appN _ (by rfl) (.tmp 18) (.tmp 26) 27 (by rfl) elemN_ent W1.heap.size (.slice ra k rc) k xs (by rfl) (HRow4.out w4 _ c4') _ (by rfl) 1 [.int .i64 xv, .string ⟨xd.toArray⟩] (.inr ⟨⟨_, 0, none⟩, 1, rfl, cells_new4 _ [.int .i64 xv, .string ⟨xd.toArray⟩] 109 _ rfl⟩) rfl (by simp [Value.oneCell']) (by simp only [maxLen]; omega) (by omega) (by simp; omega) ?_; intro v' w6 hr6 hs6; have F6 := HE.out w4 w6 v' _ H4 c4' hs6; clear hs6))
        all_goals
          try simp [Act.put]
          go_wp2_with fail
          exact ⟨⟨k + 1, L ++ [⟨xv, xd⟩], s3, by omega, by go_num, by simp [hL], by rw [HX.out.1, HX.out.2] at HM'; exact HM', by rw [HV.out]; exact hid hr6, hid F6.1, hid F6.2⟩, by simp [intOf]; omega⟩
      · have hne : (s.2 != 0) = true := by simp [herr]
        have hE := gMany_end (.inr herr) HM.out
        have hF := HFin.out wr _ L s hE (by rw [hL]; exact HRow.out) HR.out HC1.out
        clear HM HFin hE HBox HR HC1 HRow
        generalize s.2 = er at hEr hne
        go_wp2_with (go_at_call 73; refine hEr.mono ?_; rintro e w' ⟨rfl, rfl⟩; clear hEr)
        go_ret
        exact hF
    · obtain rfl : k = n := by omega
      have hE := gMany_end (.inl rfl) HM.out
      have hF := HFin.out wr _ L s hE (by rw [hL]; exact HRow.out) HR.out HC1.out
      clear HM HFin hE HBox HR HC1 HRow
      go_wp2_with fail
      go_ret
      exact hF
end Go.Proofs.Ytmaecpmdikdclaa
