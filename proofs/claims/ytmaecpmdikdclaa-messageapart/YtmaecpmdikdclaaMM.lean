/- Layer 17: bytes and numbers are read to places; logs are read. -/
import Derived.Test.YtmaecpmdikdclaaMQ
import Derived.Test.YtmaecpmdikdclaaME
import Derived.Test.YtmaecpmdikdclaaMF
namespace Go.Proofs.Ytmaecpmdikdclaa
open Go.RowKit
/-- What is left behind k things; the box then. -/
def stK (one : RSt → Int × RSt) (s : RSt) : Nat → RSt
  | 0 => s
  | k + 1 => (one (stK one s k)).2
def upK (one : RSt → Int × RSt) (s : RSt) (os : List Nat) (cur : List Value) : Nat → List Value
  | 0 => cur
  | k + 1 => (upK one s os cur k).set (os.getD k 0) (.int .i64 (one (stK one s k)).1)
theorem upK_len (one : RSt → Int × RSt) (s : RSt) (os : List Nat) (cur : List Value) : ∀ k, (upK one s os cur k).length = cur.length
  | 0 => rfl
  | k + 1 => by unfold upK; rw [List.length_set]; exact upK_len one s os cur k
theorem upK_succ {one : RSt → Int × RSt} {s : RSt} {os : List Nat} {cur : List Value} {k : Nat} (h : k < os.length) : upK one s os cur (k + 1) = (upK one s os cur k).set os[k] (.int .i64 (one (stK one s k)).1) := by
  show (upK one s os cur k).set (os.getD k 0) _ = _
  rw [List.getD_eq_getElem?_getD, List.getElem?_eq_getElem h, Option.getD_some]
theorem upK_int {one : RSt → Int × RSt} {s : RSt} {os : List Nat} {cur : List Value} (h : ∀ o ∈ os, ∃ z, cur[o]? = some (Value.int .i64 z)) : ∀ k, ∀ o ∈ os, ∃ z, (upK one s os cur k)[o]? = some (Value.int .i64 z)
  | 0, o, ho => h o ho
  | k + 1, o, ho => by
    obtain ⟨z, hz⟩ := upK_int (one := one) (s := s) h k o ho
    unfold upK
    by_cases e : os.getD k 0 = o
    · have hl : o < (upK one s os cur k).length := (List.getElem?_eq_some_iff.1 hz).1
      subst e
      exact ⟨_, by rw [List.getElem?_set_self hl]⟩
    · exact ⟨z, by rw [List.getElem?_set_ne e]; exact hz⟩
def PlcEnd (p h g : Nat) (one : RSt → Int × RSt) (n : Nat) (s : RSt) (xb : Nat) (T : TypeId) (os : List Nat) (cur : List Value) (w : World) (e : Ending) (w' : World) : Prop := e = .returned (.tuple #[]) ∧ RdS w' p h g (stK one s n).1 (stK one s n).2 ∧ w'.heap[xb]? = some (.cells (upK one s os cur n).toArray T (0, 0)) ∧ Chg w w' (fun k => k = h ∨ k = xb)
set_option maxRecDepth 100000 in
set_option maxHeartbeats 1000000 in
theorem readBytes17 (p h g : Nat) (s : RSt) (xb pb n : Nat) (T : TypeId) (os : List Nat) (cur : List Value) (w : World) (H : RdS w p h g s.1 s.2) (hx : w.heap[xb]? = some (.cells cur.toArray T (0, 0))) (hn : os.length = n) (hm : n ≤ 1000) (hos : ∀ o ∈ os, o < cur.length) (hcur : ∀ o ∈ os, ∃ z, cur[o]? = some (.int .i64 z)) (hpb : ∀ j (hj : j < os.length), w.cell? ⟨pb, j, none⟩ = some (.pointer (some ⟨xb, os[j], none⟩))) (hpx : pb ≠ xb ∧ pb ≠ h) (hxh : xb ≠ h ∧ xb ≠ p ∧ xb ≠ g) :
    Calls Try.prog 43 #[rdV p, .slice (some ⟨pb, 0, none⟩) n n] w (PlcEnd p h g gByte n s xb T os cur w) := by
  obtain ⟨hp, hh⟩ := rds_lt4 H
  have hxl := lt_of_block hx
  have H1 := H.chg (Chg.alloc w (.cells #[.pointer (some ⟨p, 0, none⟩)] 95) (fun _ => False)) id id id
  have hC0 := Chg.alloc w (.cells #[.pointer (some ⟨p, 0, none⟩)] 95) (fun k => k = h ∨ k = xb)
  obtain ⟨W1, hW1⟩ : ∃ W1, W1 = w.alloc (.cells #[.pointer (some ⟨p, 0, none⟩)] 95) := ⟨_, rfl⟩
  have bA : W1.heap[w.heap.size]? = some (.cells #[.pointer (some ⟨p, 0, none⟩)] 95 (0, 0)) := by rw [hW1]; exact heap_alloc_new w _
  have hx1 : W1.heap[xb]? = some (.cells cur.toArray T (0, 0)) := by rw [hW1, Below.heap_alloc _ _ _ hxl]; exact hx
  rw [← hW1] at H1 hC0
  have hz1 : W1.heap.size = w.heap.size + 1 := by rw [hW1]; simp
  have hbox : ∀ W, Chg W1 W (fun k => k = h ∨ k = xb) → W.cell? ⟨w.heap.size, 0, none⟩ = some (.pointer (some ⟨p, 0, none⟩)) := fun W hW => by
    rw [Lib.cell_of_heap ((hW.block _ (by omega) (fun e => by rcases e with e | e <;> omega)).trans bA)]; rfl
  have hpl : ∀ W, Chg W1 W (fun k => k = h ∨ k = xb) → ∀ j (hj : j < os.length), W.cell? ⟨pb, j, none⟩ = some (.pointer (some ⟨xb, os[j], none⟩)) := fun W hW j hj => (hC0.trans hW fun _ _ e => e).cell (hpb j hj) (fun e => by rcases e with e | e; exact hpx.2 e; exact hpx.1 e)
  have HN := hid hn
  have HO := hid hos
  have HCu := hid hcur
  have HPl := hid hpl
  clear hn hos hcur hpl hpb H hx bA
  go_enter Try.func43, Try.ntmps43
  go_wp2_with fail
  rw [← hW1]
  clear hW1
  go_loopw [8] (fun iv wr => ∃ k : Nat, iv = .int .i64 k ∧ k ≤ n ∧ Hid (RdS wr p h g (stK gByte s k).1 (stK gByte s k).2) ∧ Hid (wr.heap[xb]? = some (.cells (upK gByte s os cur k).toArray T (0, 0))) ∧ Hid (Chg W1 wr (fun k => k = h ∨ k = xb))) (fun iv _ => n - (intOf iv).toNat)
  case atStart => exact ⟨0, rfl, Nat.zero_le _, hid H1, hid hx1, hid (Chg.refl _ _)⟩
  case round =>
    obtain ⟨k, rfl, hk, HR, HX, HCg⟩ := hrel
    have cb := hbox wr HCg.out
    by_cases hlt : k < n
    · have hkl : k < os.length := by rw [HN.out]; exact hlt
      have cp := HPl.out wr HCg.out k hkl
      have hC := gbyte_s p h g (stK gByte s k) wr HR.out
      have hol : os[k] < (upK gByte s os cur k).length := by rw [upK_len]; exact HO.out _ (List.getElem_mem hkl)
      obtain ⟨z, hz⟩ := upK_int (s := s) (one := gByte) (os := os) (cur := cur) HCu.out k os[k] (List.getElem_mem hkl)
      have HS : Hid (upK gByte s os cur (k + 1) = (upK gByte s os cur k).set os[k] (.int .i64 (gByte (stK gByte s k)).1)) := hid (upK_succ hkl)
      have HT : Hid (stK gByte s (k + 1) = (gByte (stK gByte s k)).2) := hid rfl
      have hF : Hid (∀ w4, RdS w4 p h g (gByte (stK gByte s k)).2.1 (gByte (stK gByte s k)).2.2 → Chg wr w4 (fun i => i = h) → (w4.cell? ⟨xb, os[k], none⟩ = some (.int .i64 z) ∧ w4.frozen? ⟨xb, os[k], none⟩ = false ∧ xb < w4.heap.size) ∧ ∀ x, (w4.setCell ⟨xb, os[k], none⟩ (.int .i64 x)).heap[xb]? = some (.cells ((upK gByte s os cur k).set os[k] (.int .i64 x)).toArray T (0, 0)) ∧ RdS (w4.setCell ⟨xb, os[k], none⟩ (.int .i64 x)) p h g (gByte (stK gByte s k)).2.1 (gByte (stK gByte s k)).2.2 ∧ Chg W1 (w4.setCell ⟨xb, os[k], none⟩ (.int .i64 x)) (fun k => k = h ∨ k = xb)) := hid fun w4 H4 c4 => by
        have b4 := (c4.block _ (lt_of_block HX.out) hxh.1).trans HX.out
        refine ⟨⟨by rw [Lib.cell_of_heap b4]; simpa using hz, Lib.frozen_of_heap b4 _, lt_of_block b4⟩, fun x => ⟨?_, H4.chg (Chg.setCell w4 ⟨xb, os[k], none⟩ _) (fun e => hxh.2.1 e.symm) (fun e => hxh.1 e.symm) (fun e => hxh.2.2 e.symm), (HCg.out.trans c4 fun _ _ e => .inl e).trans (Chg.setCell w4 ⟨xb, os[k], none⟩ _) fun _ _ e => .inr e⟩⟩
        rw [heap_setCell_same _ _ _ _ _ _ b4, List.setIfInBounds_toArray]
      have cbl : w.heap.size < wr.heap.size := World.block_lt_of_cell? _ _ cb
      clear hbox HO HX HR hz hol
      generalize os[k] = o at *
      generalize (gByte (stK gByte s k)).1 = x at *
      generalize (gByte (stK gByte s k)).2 = s' at *
      generalize upK gByte s os cur k = uk at *
      go_wp2_with (go_at_call 71; refine hC.mono ?_; clear hC; rintro e w4 ⟨rfl, H4, c4⟩; obtain ⟨⟨y0, y1, y2⟩, HY⟩ := hF.out w4 H4 c4; have HY2 := hid (HY x); clear HY hF)
      obtain ⟨q1, q2, q3⟩ := HY2.out
      exact ⟨⟨k + 1, by go_num, by omega, hid (by rw [HT.out]; exact q2), hid (by rw [HS.out]; exact q1), hid q3⟩, by simp [intOf]; omega⟩
    · obtain rfl : k = n := by omega
      have hR := HR.out
      have hX := HX.out
      have hCg := HCg.out
      clear HR HX HCg hbox HPl
      go_wp2_with fail
      go_end0
      exact ⟨rfl, hR, hX, hC0.trans hCg fun _ _ e => e⟩
set_option maxRecDepth 100000 in
set_option maxHeartbeats 1000000 in
theorem readInts17 (p h g : Nat) (s : RSt) (xb pb n : Nat) (T : TypeId) (os : List Nat) (cur : List Value) (w : World) (H : RdS w p h g s.1 s.2) (hx : w.heap[xb]? = some (.cells cur.toArray T (0, 0))) (hn : os.length = n) (hm : n ≤ 1000) (hos : ∀ o ∈ os, o < cur.length) (hcur : ∀ o ∈ os, ∃ z, cur[o]? = some (.int .i64 z)) (hpb : ∀ j (hj : j < os.length), w.cell? ⟨pb, j, none⟩ = some (.pointer (some ⟨xb, os[j], none⟩))) (hpx : pb ≠ xb ∧ pb ≠ h) (hxh : xb ≠ h ∧ xb ≠ p ∧ xb ≠ g) :
    Calls Try.prog 44 #[rdV p, .slice (some ⟨pb, 0, none⟩) n n] w (PlcEnd p h g gInt n s xb T os cur w) := by
  obtain ⟨hp, hh⟩ := rds_lt4 H
  have hxl := lt_of_block hx
  have H1 := H.chg (Chg.alloc w (.cells #[.pointer (some ⟨p, 0, none⟩)] 95) (fun _ => False)) id id id
  have hC0 := Chg.alloc w (.cells #[.pointer (some ⟨p, 0, none⟩)] 95) (fun k => k = h ∨ k = xb)
  obtain ⟨W1, hW1⟩ : ∃ W1, W1 = w.alloc (.cells #[.pointer (some ⟨p, 0, none⟩)] 95) := ⟨_, rfl⟩
  have bA : W1.heap[w.heap.size]? = some (.cells #[.pointer (some ⟨p, 0, none⟩)] 95 (0, 0)) := by rw [hW1]; exact heap_alloc_new w _
  have hx1 : W1.heap[xb]? = some (.cells cur.toArray T (0, 0)) := by rw [hW1, Below.heap_alloc _ _ _ hxl]; exact hx
  rw [← hW1] at H1 hC0
  have hz1 : W1.heap.size = w.heap.size + 1 := by rw [hW1]; simp
  have hbox : ∀ W, Chg W1 W (fun k => k = h ∨ k = xb) → W.cell? ⟨w.heap.size, 0, none⟩ = some (.pointer (some ⟨p, 0, none⟩)) := fun W hW => by
    rw [Lib.cell_of_heap ((hW.block _ (by omega) (fun e => by rcases e with e | e <;> omega)).trans bA)]; rfl
  have hpl : ∀ W, Chg W1 W (fun k => k = h ∨ k = xb) → ∀ j (hj : j < os.length), W.cell? ⟨pb, j, none⟩ = some (.pointer (some ⟨xb, os[j], none⟩)) := fun W hW j hj => (hC0.trans hW fun _ _ e => e).cell (hpb j hj) (fun e => by rcases e with e | e; exact hpx.2 e; exact hpx.1 e)
  have HN := hid hn
  have HO := hid hos
  have HCu := hid hcur
  have HPl := hid hpl
  clear hn hos hcur hpl hpb H hx bA
  go_enter Try.func44, Try.ntmps44
  go_wp2_with fail
  rw [← hW1]
  clear hW1
  go_loopw [8] (fun iv wr => ∃ k : Nat, iv = .int .i64 k ∧ k ≤ n ∧ Hid (RdS wr p h g (stK gInt s k).1 (stK gInt s k).2) ∧ Hid (wr.heap[xb]? = some (.cells (upK gInt s os cur k).toArray T (0, 0))) ∧ Hid (Chg W1 wr (fun k => k = h ∨ k = xb))) (fun iv _ => n - (intOf iv).toNat)
  case atStart => exact ⟨0, rfl, Nat.zero_le _, hid H1, hid hx1, hid (Chg.refl _ _)⟩
  case round =>
    obtain ⟨k, rfl, hk, HR, HX, HCg⟩ := hrel
    have cb := hbox wr HCg.out
    by_cases hlt : k < n
    · have hkl : k < os.length := by rw [HN.out]; exact hlt
      have cp := HPl.out wr HCg.out k hkl
      have hC := gint_s p h g (stK gInt s k) wr HR.out
      have hol : os[k] < (upK gInt s os cur k).length := by rw [upK_len]; exact HO.out _ (List.getElem_mem hkl)
      obtain ⟨z, hz⟩ := upK_int (s := s) (one := gInt) (os := os) (cur := cur) HCu.out k os[k] (List.getElem_mem hkl)
      have HS : Hid (upK gInt s os cur (k + 1) = (upK gInt s os cur k).set os[k] (.int .i64 (gInt (stK gInt s k)).1)) := hid (upK_succ hkl)
      have HT : Hid (stK gInt s (k + 1) = (gInt (stK gInt s k)).2) := hid rfl
      have hF : Hid (∀ w4, RdS w4 p h g (gInt (stK gInt s k)).2.1 (gInt (stK gInt s k)).2.2 → Chg wr w4 (fun i => i = h) → (w4.cell? ⟨xb, os[k], none⟩ = some (.int .i64 z) ∧ w4.frozen? ⟨xb, os[k], none⟩ = false ∧ xb < w4.heap.size) ∧ ∀ x, (w4.setCell ⟨xb, os[k], none⟩ (.int .i64 x)).heap[xb]? = some (.cells ((upK gInt s os cur k).set os[k] (.int .i64 x)).toArray T (0, 0)) ∧ RdS (w4.setCell ⟨xb, os[k], none⟩ (.int .i64 x)) p h g (gInt (stK gInt s k)).2.1 (gInt (stK gInt s k)).2.2 ∧ Chg W1 (w4.setCell ⟨xb, os[k], none⟩ (.int .i64 x)) (fun k => k = h ∨ k = xb)) := hid fun w4 H4 c4 => by
        have b4 := (c4.block _ (lt_of_block HX.out) hxh.1).trans HX.out
        refine ⟨⟨by rw [Lib.cell_of_heap b4]; simpa using hz, Lib.frozen_of_heap b4 _, lt_of_block b4⟩, fun x => ⟨?_, H4.chg (Chg.setCell w4 ⟨xb, os[k], none⟩ _) (fun e => hxh.2.1 e.symm) (fun e => hxh.1 e.symm) (fun e => hxh.2.2 e.symm), (HCg.out.trans c4 fun _ _ e => .inl e).trans (Chg.setCell w4 ⟨xb, os[k], none⟩ _) fun _ _ e => .inr e⟩⟩
        rw [heap_setCell_same _ _ _ _ _ _ b4, List.setIfInBounds_toArray]
      have cbl : w.heap.size < wr.heap.size := World.block_lt_of_cell? _ _ cb
      clear hbox HO HX HR hz hol
      generalize os[k] = o at *
      generalize (gInt (stK gInt s k)).1 = x at *
      generalize (gInt (stK gInt s k)).2 = s' at *
      generalize upK gInt s os cur k = uk at *
      go_wp2_with (go_at_call 72; refine hC.mono ?_; clear hC; rintro e w4 ⟨rfl, H4, c4⟩; obtain ⟨⟨y0, y1, y2⟩, HY⟩ := hF.out w4 H4 c4; have HY2 := hid (HY x); clear HY hF)
      obtain ⟨q1, q2, q3⟩ := HY2.out
      exact ⟨⟨k + 1, by go_num, by omega, hid (by rw [HT.out]; exact q2), hid (by rw [HS.out]; exact q1), hid q3⟩, by simp [intOf]; omega⟩
    · obtain rfl : k = n := by omega
      have hR := HR.out
      have hX := HX.out
      have hCg := HCg.out
      clear HR HX HCg hbox HPl
      go_wp2_with fail
      go_end0
      exact ⟨rfl, hR, hX, hC0.trans hCg fun _ _ e => e⟩
end Go.Proofs.Ytmaecpmdikdclaa
