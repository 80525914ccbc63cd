/- Layer 17: message.Get, GetRecord. -/
import Derived.Test.YtmaecpmdikdclaaMM
import Derived.Test.YtmaecpmdikdclaaMH
namespace Go.Proofs.Ytmaecpmdikdclaa
open Go.RowKit
/-- How message.GetRecord ends. -/
def GetRecEnd (bs : List UInt8) (w : World) (e : Ending) (w' : World) : Prop := Below w.heap.size w w' ∧ ((readOk gRec Rec17.ok bs = false ∧ e = .returned (.tuple #[.agg #[.int .i64 0, .int .i64 0, .int .i64 0, .int .i64 0, .slice none 0 0], .int .i64 21])) ∨ (readOk gRec Rec17.ok bs = true ∧ ∃ va vc, e = .returned (.tuple #[recV (gRec (bs, 0)).1.kd (gRec (bs, 0)).1.vw (gRec (bs, 0)).1.nm (gRec (bs, 0)).1.op (.slice va (gRec (bs, 0)).1.log.length vc), .int .i64 0]) ∧ LogAt w' w.heap.size (.slice va (gRec (bs, 0)).1.log.length vc) (gRec (bs, 0)).1.log))
theorem getRec17_any_ok (bs : List UInt8) : readOk gRec Rec17.ok bs = (decide (doneOf (gRec (if 1048576 < bs.length then [] else bs, 0)).2.1 (gRec (if 1048576 < bs.length then [] else bs, 0)).2.2 = 0) && Rec17.ok (gRec (if 1048576 < bs.length then [] else bs, 0)).1) ∧ (readOk gRec Rec17.ok bs = true → (if 1048576 < bs.length then [] else bs) = bs) := by
  unfold readOk
  by_cases h : 1048576 < bs.length
  · rw [if_pos h, decide_eq_false (show ¬ bs.length ≤ 1048576 by omega)]
    refine ⟨?_, fun h => by simp at h⟩
    have : decide (doneOf (gRec ([], 0)).2.1 (gRec ([], 0)).2.2 = 0) = false := by decide
    rw [this]; rfl
  · rw [if_neg h, decide_eq_true (show bs.length ≤ 1048576 by omega), Bool.true_and]
    exact ⟨rfl, fun _ => rfl⟩
set_option maxRecDepth 100000 in
set_option maxHeartbeats 1000000 in
theorem getRec17_any (ao : Option Addr) (len cap : Nat) (bs : List UInt8) (w : World) (hl : bs.length = len) (hm : len ≤ 140737488355328) (hb : Bs w ao bs) : Calls Try.prog 24 #[.slice ao len cap] w (GetRecEnd bs w) := by
  obtain ⟨hok1, hok2⟩ := getRec17_any_ok bs
  obtain ⟨W1, hW1⟩ : ∃ W, W = (w.alloc (.cells #[.int .i64 0, .int .i64 0, .int .i64 0, .int .i64 0, .slice none 0 0] 50)).alloc (.cells #[.int .i64 0, .int .i64 0, .int .i64 0, .int .i64 0, .slice none 0 0] 111) := ⟨_, rfl⟩
  have hz1 : W1.heap.size = w.heap.size + 2 := by rw [hW1]; simp
  have hb1 : Below w.heap.size w W1 := by rw [hW1]; exact (two_boxes _ _ _ _ _).2
  have bX1 : W1.heap[w.heap.size + 1]? = some (.cells #[.int .i64 0, .int .i64 0, .int .i64 0, .int .i64 0, .slice none 0 0] 111 (0, 0)) := by rw [hW1]; exact (two_boxes _ _ _ _ _).1
  have bR1 : W1.heap[w.heap.size]? = some (.cells #[.int .i64 0, .int .i64 0, .int .i64 0, .int .i64 0, .slice none 0 0] 50 (0, 0)) := by rw [hW1, Below.heap_alloc _ _ _ (by simp)]; exact heap_alloc_new w _
  have hNew := newReader17 ao len cap bs W1 hl hm (hb.keep (below_keep hb1))
  rw [← hl] at hNew hm
  generalize hbs' : (if 1048576 < bs.length then [] else bs) = bs' at *
  obtain ⟨s0, hs0⟩ : ∃ s : RSt, s = (bs', 0) := ⟨_, rfl⟩
  rw [← hs0] at hok1
  obtain ⟨kd, hkd⟩ : ∃ x, x = (gByte s0).1 := ⟨_, rfl⟩
  obtain ⟨s1, hs1⟩ : ∃ x, x = (gByte s0).2 := ⟨_, rfl⟩
  obtain ⟨vw, hvw⟩ : ∃ x, x = (gInt s1).1 := ⟨_, rfl⟩
  obtain ⟨s2, hs2⟩ : ∃ x, x = (gInt s1).2 := ⟨_, rfl⟩
  obtain ⟨nm, hnm⟩ : ∃ x, x = (gInt s2).1 := ⟨_, rfl⟩
  obtain ⟨s3, hs3⟩ : ∃ x, x = (gInt s2).2 := ⟨_, rfl⟩
  obtain ⟨op, hop⟩ : ∃ x, x = (gInt s3).1 := ⟨_, rfl⟩
  obtain ⟨s4, hs4⟩ : ∃ x, x = (gInt s3).2 := ⟨_, rfl⟩
  have hstB : stK gByte s0 1 = s1 := by simp only [stK, hs1]
  have hstI : stK gInt s1 3 = s4 := by simp only [stK, hs2, hs3, hs4]
  have hupB : upK gByte s0 [0] [.int .i64 0, .int .i64 0, .int .i64 0, .int .i64 0, .slice none 0 0] 1 = [.int .i64 kd, .int .i64 0, .int .i64 0, .int .i64 0, .slice none 0 0] := by simp [upK, stK, hkd]
  have hupI : upK gInt s1 [1, 2, 3] [.int .i64 kd, .int .i64 0, .int .i64 0, .int .i64 0, .slice none 0 0] 3 = [.int .i64 kd, .int .i64 vw, .int .i64 nm, .int .i64 op, .slice none 0 0] := by simp [upK, stK, hs2, hs3, hvw, hnm, hop]
  have hgeq : gRec s0 = (⟨kd, vw, nm, op, (gLog s4).1⟩, (gLog s4).2) := by simp only [gRec, gR, g3i, gTwo, hs1, hs2, hs3, hs4, hkd, hvw, hnm, hop]
  rw [hgeq] at hok1
  have hsame : readOk gRec Rec17.ok bs = true → gRec (bs, 0) = (⟨kd, vw, nm, op, (gLog s4).1⟩, (gLog s4).2) := fun h => by rw [← hgeq, hs0, hok2 h]
  have hsm : ∀ x ∈ (gLog s4).1, x.d.length ≤ 9223372036854775807 := fun x hx => Nat.le_trans (gMany_all (one := gEnt) (P := fun x => x.d.length ≤ 65535) (fun s => gText_len _) _ _ x hx) (by decide)
  clear hgeq hok2 hbs' hs1 hs2 hs3 hs4 hkd hvw hnm hop hb
  generalize hLg : gLog s4 = lg at *
  obtain ⟨L, st⟩ := lg
  simp only at hok1 hsame hsm
  have HLg := hid hLg
  have HSame := hid hsame
  clear hLg hsame
  have HOk := hid hok1
  clear hok1
  go_enter Try.func24, Try.ntmps24
  go_wp2_with fail
  rw [← hW1]
  clear hW1
  rw [hl] at hNew
  refine hNew.mono ?_
  clear hNew
  rintro e w2 ⟨h, rfl, hh, H2, hb2⟩
  obtain ⟨W3, hW3⟩ : ∃ W, W = w2.alloc (.cells #[.pointer (some ⟨h + 1, 0, none⟩)] 95) := ⟨_, rfl⟩
  obtain ⟨hpl2, hhl2⟩ := rds_lt4 H2
  have hz3 : W3.heap.size = w2.heap.size + 1 := by rw [hW3]; simp
  have c23 : Below w2.heap.size w2 W3 := by rw [hW3]; exact (Below.refl _ _).alloc (Nat.le_refl _) _
  have H3 : RdS W3 (h + 1) h (W1.heap.size + 1) s0.1 s0.2 := by rw [hW3, hs0]; exact H2.chg (Chg.alloc w2 _ (fun _ => False)) id id id
  have bD3 : W3.heap[w2.heap.size]? = some (.cells #[.pointer (some ⟨h + 1, 0, none⟩)] 95 (0, 0)) := by rw [hW3]; exact heap_alloc_new w2 _
  have b13 : Below W1.heap.size W1 W3 := hb2.trans (c23.mono hb2.size)
  have bX3 := (b13.block _ (lt_of_block bX1)).trans bX1
  have bR3 := (b13.block _ (lt_of_block bR1)).trans bR1
  obtain ⟨W4, hW4⟩ : ∃ W, W = W3.alloc (.cells #[.pointer (some ⟨w.heap.size + 1, 0, none⟩)] 98) := ⟨_, rfl⟩
  have c34 : Chg W3 W4 (fun k => k = h ∨ k = w.heap.size + 1) := by rw [hW4]; exact Chg.alloc _ _ _
  have bP4 : W4.heap[W3.heap.size]? = some (.cells #[.pointer (some ⟨w.heap.size + 1, 0, none⟩)] 98 (0, 0)) := by rw [hW4]; exact heap_alloc_new W3 _
  have keepX : ∀ {W W' : World} {cs : Array Value}, W.heap[w.heap.size + 1]? = some (.cells cs 111 (0, 0)) → ∀ o, W' = W.alloc o → W'.heap[w.heap.size + 1]? = some (.cells cs 111 (0, 0)) := fun hb o e => by rw [e, Below.heap_alloc _ _ _ (lt_of_block hb)]; exact hb
  have bX4 := keepX bX3 _ hW4
  have hBy := readBytes17 (h + 1) h (W1.heap.size + 1) s0 (w.heap.size + 1) W3.heap.size 1 111 [0] [.int .i64 0, .int .i64 0, .int .i64 0, .int .i64 0, .slice none 0 0] W4 (by rw [hW4]; exact H3.chg (Chg.alloc W3 _ (fun _ => False)) id id id) bX4 rfl (by omega) (by decide) (by intro o ho; simp only [List.mem_cons, List.not_mem_nil, or_false] at ho; rcases ho with rfl <;> exact ⟨_, rfl⟩) (fun j hj => by
    match j, hj with
    | 0, _ => rw [Lib.cell_of_heap bP4]; rfl
    ) (by omega) (by omega)
  rw [hW4, hW3] at hBy
  rw [show (w2.alloc (.cells #[.pointer (some ⟨h + 1, 0, none⟩)] 95)).heap.size = w2.heap.size + 1 by simp] at hBy
  clear H2 H3 bX3 bX1 bR1 keepX hs0
  have fz3 := bD3
  go_wp2_with fail
  refine hBy.mono ?_
  clear hBy
  rintro e w5 ⟨rfl, H5, bX5, c5⟩
  rw [hstB] at H5
  rw [hupB] at bX5
  rw [← hW3, ← hW4] at c5
  have c35 : Chg W3 w5 (fun k => k = h ∨ k = w.heap.size + 1) := c34.trans c5 fun _ _ e => e
  have bD5 := (c35.block _ (lt_of_block bD3) (by omega)).trans bD3
  have d5 : w5.cell? ⟨w2.heap.size, 0, none⟩ = some (.pointer (some ⟨h + 1, 0, none⟩)) := by rw [Lib.cell_of_heap bD5]; rfl
  obtain ⟨W6, hW6⟩ : ∃ W, W = w5.alloc (.cells #[.pointer (some ⟨w.heap.size + 1, 1, none⟩), .pointer (some ⟨w.heap.size + 1, 2, none⟩), .pointer (some ⟨w.heap.size + 1, 3, none⟩)] 98) := ⟨_, rfl⟩
  have c56 : Chg w5 W6 (fun k => k = h ∨ k = w.heap.size + 1) := by rw [hW6]; exact Chg.alloc _ _ _
  have bP6 : W6.heap[w5.heap.size]? = some (.cells #[.pointer (some ⟨w.heap.size + 1, 1, none⟩), .pointer (some ⟨w.heap.size + 1, 2, none⟩), .pointer (some ⟨w.heap.size + 1, 3, none⟩)] 98 (0, 0)) := by rw [hW6]; exact heap_alloc_new w5 _
  have bX6 : W6.heap[w.heap.size + 1]? = some (.cells [.int .i64 kd, .int .i64 0, .int .i64 0, .int .i64 0, .slice none 0 0].toArray 111 (0, 0)) := by rw [hW6, Below.heap_alloc _ _ _ (lt_of_block bX5)]; exact bX5
  have hs35 := c35.size
  have hIn := readInts17 (h + 1) h (W1.heap.size + 1) s1 (w.heap.size + 1) w5.heap.size 3 111 [1, 2, 3] [.int .i64 kd, .int .i64 0, .int .i64 0, .int .i64 0, .slice none 0 0] W6 (by rw [hW6]; exact H5.chg (Chg.alloc w5 _ (fun _ => False)) id id id) bX6 rfl (by omega) (by intro o ho; simp only [List.mem_cons, List.not_mem_nil, or_false] at ho; rcases ho with rfl | rfl | rfl <;> simp) (by intro o ho; simp only [List.mem_cons, List.not_mem_nil, or_false] at ho; rcases ho with rfl | rfl | rfl <;> exact ⟨_, rfl⟩) (fun j hj => by
    match j, hj with
    | 0, _ => rw [Lib.cell_of_heap bP6]; rfl
    | 1, _ => rw [Lib.cell_of_heap bP6]; rfl
    | 2, _ => rw [Lib.cell_of_heap bP6]; rfl
    ) (by omega) (by omega)
  rw [hW6] at hIn
  clear H5 bX6 bX5 c5
  go_wp2_with fail
  refine hIn.mono ?_
  clear hIn
  rintro e w7 ⟨rfl, H7, bX7, c7⟩
  rw [hstI] at H7
  rw [hupI] at bX7
  rw [← hW6] at c7
  have c37 : Chg W3 w7 (fun k => k = h ∨ k = w.heap.size + 1) := (c35.trans c56 fun _ _ e => e).trans c7 fun _ _ e => e
  have bD7 := (c37.block _ (lt_of_block bD3) (by omega)).trans bD3
  have d7 : w7.cell? ⟨w2.heap.size, 0, none⟩ = some (.pointer (some ⟨h + 1, 0, none⟩)) := by rw [Lib.cell_of_heap bD7]; rfl
  have hs37 := c37.size
  have hEn := entries_any (h + 1) h (W1.heap.size + 1) s4 w7 H7 (by omega)
  rw [HLg.out] at hEn
  clear H7 hW3 hW4 hW6 bP4 bP6
  go_wp2_with fail
  refine hEn.mono ?_
  clear hEn
  rintro e w8 ⟨⟨v, rfl, hrow⟩, H8, c8⟩
  obtain ⟨va, vc, rfl, _, _, _⟩ := row_form hrow
  have hs78 := c8.size
  have c38 : Chg W3 w8 (fun k => k = h ∨ k = w.heap.size + 1) := c37.trans c8 fun _ _ e => .inl e
  have bX8 := (c8.block _ (lt_of_block bX7) (by omega)).trans bX7
  have bD8 := (c38.block _ (lt_of_block bD3) (by omega)).trans bD3
  have bR8 := (c38.block _ (lt_of_block bR3) (by omega)).trans bR3
  have x4 : w8.cell? ⟨w.heap.size + 1, 4, none⟩ = some (.slice none 0 0) := by rw [Lib.cell_of_heap bX8]; rfl
  have xf := Lib.frozen_of_heap bX8 4
  have xl := lt_of_block bX8
  obtain ⟨W9, hW9⟩ : ∃ W, W = w8.setCell ⟨w.heap.size + 1, 4, none⟩ (.slice va L.length vc) := ⟨_, rfl⟩
  have c89 : Chg w8 W9 (fun k => k = w.heap.size + 1) := by rw [hW9]; exact Chg.setCell _ _ _
  have bX9 : W9.heap[w.heap.size + 1]? = some (.cells #[.int .i64 kd, .int .i64 vw, .int .i64 nm, .int .i64 op, .slice va L.length vc] 111 (0, 0)) := by rw [hW9, heap_setCell_same _ _ _ _ _ _ bX8]; rfl
  have bD9 := (c89.block _ (lt_of_block bD8) (by omega)).trans bD8
  have bR9 := (c89.block _ (lt_of_block bR8) (by omega)).trans bR8
  have H9 : RdS W9 (h + 1) h (W1.heap.size + 1) st.1 st.2 := H8.chg c89 (by omega) (by omega) (by omega)
  have hrow9 : W9.ownsRow w7.heap.size 109 2 (.slice va L.length vc) L.length (cellsE L) := row_chg4 hrow c89 fun g e (q : g = _) => by have := (row_lt4 hrow g e).1; omega
  obtain ⟨_, _, _, ev, hE9⟩ := es_of_row hrow9
  injection ev with ev1 ev2 ev3
  subst ev1 ev3
  have hb9 : Below w.heap.size w W9 := (hb1.trans (b13.mono hb1.size)).trans (((c38.trans c89 fun _ _ e => .inr e)).below (by omega) fun i e => by rcases e with e | e <;> omega)
  have hD := rdone_any (h + 1) h (W1.heap.size + 1) st.1 st.2 W9 H9
  have d9 : W9.cell? ⟨w2.heap.size, 0, none⟩ = some (.pointer (some ⟨h + 1, 0, none⟩)) := by rw [Lib.cell_of_heap bD9]; rfl
  have d8 : (w8.setCell ⟨w.heap.size + 1, 4, none⟩ (.slice va L.length vc)).cell? ⟨w2.heap.size, 0, none⟩ = some (.pointer (some ⟨h + 1, 0, none⟩)) := by rw [← hW9]; exact d9
  have hRt := noteRight_any kd vw nm op va L.length vc L W9 rfl hE9 hsm
  rw [show (headOk 3 [2] kd vw nm op L) = Rec17.ok ⟨kd, vw, nm, op, L⟩ from by unfold Rec17.ok headOk; simp only [List.contains_cons, List.contains_nil, Bool.or_false]] at hRt
  have boxX : ∀ W, Below W9.heap.size W9 W → (W.cell? ⟨w.heap.size + 1, 0, none⟩ = some (.int .i64 kd) ∧ W.cell? ⟨w.heap.size + 1, 1, none⟩ = some (.int .i64 vw) ∧ W.cell? ⟨w.heap.size + 1, 2, none⟩ = some (.int .i64 nm) ∧ W.cell? ⟨w.heap.size + 1, 3, none⟩ = some (.int .i64 op) ∧ W.cell? ⟨w.heap.size + 1, 4, none⟩ = some (.slice va L.length vc)) ∧ w.heap.size + 1 < W.heap.size := fun W hW => by
    have e := (hW.block _ (lt_of_block bX9)).trans bX9
    refine ⟨⟨?_, ?_, ?_, ?_, ?_⟩, lt_of_block e⟩ <;> (rw [Lib.cell_of_heap e]; rfl)
  have boxR : ∀ W, Below W9.heap.size W9 W → ((W.cell? ⟨w.heap.size, 0, none⟩ = some (.int .i64 0) ∧ W.cell? ⟨w.heap.size, 1, none⟩ = some (.int .i64 0) ∧ W.cell? ⟨w.heap.size, 2, none⟩ = some (.int .i64 0) ∧ W.cell? ⟨w.heap.size, 3, none⟩ = some (.int .i64 0) ∧ W.cell? ⟨w.heap.size, 4, none⟩ = some (.slice none 0 0)) ∧ w.heap.size < W.heap.size) ∧ (∀ k, W.frozen? ⟨w.heap.size, k, none⟩ = false) ∧ W.heap[w.heap.size]? = some (.cells #[.int .i64 0, .int .i64 0, .int .i64 0, .int .i64 0, .slice none 0 0] 50 (0, 0)) := fun W hW => by
    have e := (hW.block _ (lt_of_block bR9)).trans bR9
    refine ⟨⟨⟨?_, ?_, ?_, ?_, ?_⟩, lt_of_block e⟩, fun k => Lib.frozen_of_heap e k, e⟩ <;> (rw [Lib.cell_of_heap e]; rfl)
  obtain ⟨⟨x0, x1, x2, x3, x4⟩, xl9⟩ := boxX W9 (Below.refl _ _)
  obtain ⟨⟨⟨y0, y1, y2, y3, y4⟩, yl9⟩, fz, bRz⟩ := boxR W9 (Below.refl _ _)
  clear bX8 bD8 bR8 bX9 bD9 bR9 H8 H9 c8 c89 c38 hrow bX7 bD7 bD5 hE9 hsm bD3 bR3 c37 c35 c34 c7 c56
  have finNo : readOk gRec Rec17.ok bs = false → ∀ W, Below W9.heap.size W9 W → GetRecEnd bs w (.returned (.tuple #[.agg #[.int .i64 0, .int .i64 0, .int .i64 0, .int .i64 0, .slice none 0 0], .int .i64 21])) (setN W w.heap.size 0 [.int .i64 0, .int .i64 0, .int .i64 0, .int .i64 0, .slice none 0 0]) := fun h W hW => ⟨setN_below _ _ (hb9.trans (hW.mono hb9.size)) (Nat.le_refl _) (Nat.le_refl _), .inl ⟨h, rfl⟩⟩
  have finYes : readOk gRec Rec17.ok bs = true → ∀ W, Below W9.heap.size W9 W → GetRecEnd bs w (.returned (.tuple #[recV kd vw nm op (.slice va L.length vc), .int .i64 0])) (setN W w.heap.size 0 [.int .i64 kd, .int .i64 vw, .int .i64 nm, .int .i64 op, .slice va L.length vc]) := fun h W hW => by
    have hrw := row_below2 hrow9 hW
    refine ⟨setN_below _ _ (hb9.trans (hW.mono hb9.size)) (Nat.le_refl _) (Nat.le_refl _), .inr ⟨h, va, vc, ?_, ?_⟩⟩
    · rw [HSame.out h]
    · rw [HSame.out h]
      exact ⟨row_lower4 (row_chg4 hrw (setN_chg _ _ _) fun g e q => by have := (row_lt4 hrw g e).1; omega) (by omega)⟩
  have HNo := hid finNo
  have HYes := hid finYes
  clear finNo finYes hrow9 hb9 hb1
  by_cases hd : doneOf st.1 st.2 = 0
  · rw [hd] at hD
    cases hr : Rec17.ok ⟨kd, vw, nm, op, L⟩ with
    | false =>
      have hf : readOk gRec Rec17.ok bs = false := by rw [HOk.out, hr, Bool.and_false]
      rw [hr] at hRt
      have HN2 := hid (HNo.out hf)
      clear HNo HYes HOk hf hr HSame HLg boxX
      go_wp2_with fail
      rw [← hW9]
      clear hW9
      refine hD.mono ?_
      clear hD
      rintro e w' ⟨rfl, hw'⟩
      subst hw'
      go_wp2_with (go_at_call 56; refine hRt.mono ?_; clear hRt; rintro e w10 ⟨rfl, hb10⟩; obtain ⟨⟨⟨u0, u1, u2, u3, u4⟩, ul⟩, fz10, bR10⟩ := boxR w10 hb10; clear boxR; have g0 := fz10 0; have g1 := fz10 1; have g2 := fz10 2; have g3 := fz10 3; have g4 := fz10 4)
      exact ret_box2 rfl rfl rfl rfl (load_rec (setN_all [.int .i64 0, .int .i64 0, .int .i64 0, .int .i64 0, .slice none 0 0] bR10 rfl)) (HN2.out w10 hb10)
    | true =>
      have ht : readOk gRec Rec17.ok bs = true := by rw [HOk.out, hr, hd]; rfl
      rw [hr] at hRt
      have HY2 := hid (HYes.out ht)
      have hCv := fun W => toRec_any kd vw nm op va L.length vc W
      clear HNo HYes HOk ht hr HSame HLg
      generalize L.length = ll at *
      go_wp2_with fail
      rw [← hW9]
      clear hW9
      refine hD.mono ?_
      clear hD
      rintro e w' ⟨rfl, hw'⟩
      subst hw'
      go_wp2_with (first
        | (go_at_call 56; refine hRt.mono ?_; clear hRt; rintro e w10 ⟨rfl, hb10⟩; obtain ⟨⟨t0, t1, t2, t3, t4⟩, tl⟩ := boxX w10 hb10; clear boxX)
        | (go_at_call 57; refine (hCv _).mono ?_; clear hCv; rintro e w11 ⟨rfl, hb11'⟩; have hb11 := hb10.trans (hb11'.mono hb10.size); obtain ⟨⟨⟨u0, u1, u2, u3, u4⟩, ul⟩, fz10, bR10⟩ := boxR w11 hb11; clear boxR; have g0 := fz10 0; have g1 := fz10 1; have g2 := fz10 2; have g3 := fz10 3; have g4 := fz10 4))
      exact ret_box2 rfl rfl rfl rfl (load_rec (setN_all [.int .i64 kd, .int .i64 vw, .int .i64 nm, .int .i64 op, .slice va ll vc] bR10 rfl)) (HY2.out w11 hb11)
  · have hf : readOk gRec Rec17.ok bs = false := by rw [HOk.out, decide_eq_false hd]; rfl
    have hne : (doneOf st.1 st.2 != 0) = true := by simp [hd]
    have HN2 := hid (HNo.out hf)
    clear HNo HYes HOk hf HSame HLg boxX hRt boxR
    generalize doneOf st.1 st.2 = dn at hD hne
    have g0 := fz 0
    have g1 := fz 1
    have g2 := fz 2
    have g3 := fz 3
    have g4 := fz 4
    go_wp2_with fail
    rw [← hW9]
    clear hW9
    refine hD.mono ?_
    clear hD
    rintro e w' ⟨rfl, hw'⟩
    subst hw'
    go_wp2_with fail
    exact ret_box2 rfl rfl rfl rfl (load_rec (setN_all [.int .i64 0, .int .i64 0, .int .i64 0, .int .i64 0, .slice none 0 0] bRz rfl)) (HN2.out w' (Below.refl _ _))
/-- How message.Get ends. -/
def GetMsgEnd (bs : List UInt8) (w : World) (e : Ending) (w' : World) : Prop := Below w.heap.size w w' ∧ ((readOk gMsg Msg.ok bs = false ∧ e = .returned (.tuple #[.agg #[.int .i64 0, .int .i64 0, .int .i64 0, .int .i64 0, .int .i64 0, .int .i64 0, .int .i64 0, .slice none 0 0], .int .i64 21])) ∨ (readOk gMsg Msg.ok bs = true ∧ ∃ va vc, e = .returned (.tuple #[msgV (gMsg (bs, 0)).1.kd (gMsg (bs, 0)).1.fr (gMsg (bs, 0)).1.tt (gMsg (bs, 0)).1.vw (gMsg (bs, 0)).1.op (gMsg (bs, 0)).1.cm (gMsg (bs, 0)).1.nm (.slice va (gMsg (bs, 0)).1.log.length vc), .int .i64 0]) ∧ LogAt w' w.heap.size (.slice va (gMsg (bs, 0)).1.log.length vc) (gMsg (bs, 0)).1.log))
theorem get17_any_ok (bs : List UInt8) : readOk gMsg Msg.ok bs = (decide (doneOf (gMsg (if 1048576 < bs.length then [] else bs, 0)).2.1 (gMsg (if 1048576 < bs.length then [] else bs, 0)).2.2 = 0) && Msg.ok (gMsg (if 1048576 < bs.length then [] else bs, 0)).1) ∧ (readOk gMsg Msg.ok bs = true → (if 1048576 < bs.length then [] else bs) = bs) := by
  unfold readOk
  by_cases h : 1048576 < bs.length
  · rw [if_pos h, decide_eq_false (show ¬ bs.length ≤ 1048576 by omega)]
    refine ⟨?_, fun h => by simp at h⟩
    have : decide (doneOf (gMsg ([], 0)).2.1 (gMsg ([], 0)).2.2 = 0) = false := by decide
    rw [this]; rfl
  · rw [if_neg h, decide_eq_true (show bs.length ≤ 1048576 by omega), Bool.true_and]
    exact ⟨rfl, fun _ => rfl⟩
set_option maxRecDepth 100000 in
set_option maxHeartbeats 1000000 in
theorem get17_any (ao : Option Addr) (len cap : Nat) (bs : List UInt8) (w : World) (hl : bs.length = len) (hm : len ≤ 140737488355328) (hb : Bs w ao bs) : Calls Try.prog 13 #[.slice ao len cap] w (GetMsgEnd bs w) := by
  obtain ⟨hok1, hok2⟩ := get17_any_ok bs
  obtain ⟨W1, hW1⟩ : ∃ W, W = (w.alloc (.cells #[.int .i64 0, .int .i64 0, .int .i64 0, .int .i64 0, .int .i64 0, .int .i64 0, .int .i64 0, .slice none 0 0] 29)).alloc (.cells #[.int .i64 0, .int .i64 0, .int .i64 0, .int .i64 0, .slice none 0 0, .int .i64 0, .int .i64 0, .int .i64 0] 82) := ⟨_, rfl⟩
  have hz1 : W1.heap.size = w.heap.size + 2 := by rw [hW1]; simp
  have hb1 : Below w.heap.size w W1 := by rw [hW1]; exact (two_boxes _ _ _ _ _).2
  have bX1 : W1.heap[w.heap.size + 1]? = some (.cells #[.int .i64 0, .int .i64 0, .int .i64 0, .int .i64 0, .slice none 0 0, .int .i64 0, .int .i64 0, .int .i64 0] 82 (0, 0)) := by rw [hW1]; exact (two_boxes _ _ _ _ _).1
  have bR1 : W1.heap[w.heap.size]? = some (.cells #[.int .i64 0, .int .i64 0, .int .i64 0, .int .i64 0, .int .i64 0, .int .i64 0, .int .i64 0, .slice none 0 0] 29 (0, 0)) := by rw [hW1, Below.heap_alloc _ _ _ (by simp)]; exact heap_alloc_new w _
  have hNew := newReader17 ao len cap bs W1 hl hm (hb.keep (below_keep hb1))
  rw [← hl] at hNew hm
  generalize hbs' : (if 1048576 < bs.length then [] else bs) = bs' at *
  obtain ⟨s0, hs0⟩ : ∃ s : RSt, s = (bs', 0) := ⟨_, rfl⟩
  rw [← hs0] at hok1
  obtain ⟨kd, hkd⟩ : ∃ x, x = (gByte s0).1 := ⟨_, rfl⟩
  obtain ⟨s1, hs1⟩ : ∃ x, x = (gByte s0).2 := ⟨_, rfl⟩
  obtain ⟨fr, hfr⟩ : ∃ x, x = (gByte s1).1 := ⟨_, rfl⟩
  obtain ⟨s2, hs2⟩ : ∃ x, x = (gByte s1).2 := ⟨_, rfl⟩
  obtain ⟨tt, htt⟩ : ∃ x, x = (gByte s2).1 := ⟨_, rfl⟩
  obtain ⟨s3, hs3⟩ : ∃ x, x = (gByte s2).2 := ⟨_, rfl⟩
  obtain ⟨vw, hvw⟩ : ∃ x, x = (gInt s3).1 := ⟨_, rfl⟩
  obtain ⟨s4, hs4⟩ : ∃ x, x = (gInt s3).2 := ⟨_, rfl⟩
  obtain ⟨op, hop⟩ : ∃ x, x = (gInt s4).1 := ⟨_, rfl⟩
  obtain ⟨s5, hs5⟩ : ∃ x, x = (gInt s4).2 := ⟨_, rfl⟩
  obtain ⟨cm, hcm⟩ : ∃ x, x = (gInt s5).1 := ⟨_, rfl⟩
  obtain ⟨s6, hs6⟩ : ∃ x, x = (gInt s5).2 := ⟨_, rfl⟩
  obtain ⟨nm, hnm⟩ : ∃ x, x = (gInt s6).1 := ⟨_, rfl⟩
  obtain ⟨s7, hs7⟩ : ∃ x, x = (gInt s6).2 := ⟨_, rfl⟩
  have hstB : stK gByte s0 3 = s3 := by simp only [stK, hs1, hs2, hs3]
  have hstI : stK gInt s3 4 = s7 := by simp only [stK, hs4, hs5, hs6, hs7]
  have hupB : upK gByte s0 [0, 5, 6] [.int .i64 0, .int .i64 0, .int .i64 0, .int .i64 0, .slice none 0 0, .int .i64 0, .int .i64 0, .int .i64 0] 3 = [.int .i64 kd, .int .i64 0, .int .i64 0, .int .i64 0, .slice none 0 0, .int .i64 fr, .int .i64 tt, .int .i64 0] := by simp [upK, stK, hs1, hs2, hkd, hfr, htt]
  have hupI : upK gInt s3 [1, 3, 7, 2] [.int .i64 kd, .int .i64 0, .int .i64 0, .int .i64 0, .slice none 0 0, .int .i64 fr, .int .i64 tt, .int .i64 0] 4 = [.int .i64 kd, .int .i64 vw, .int .i64 nm, .int .i64 op, .slice none 0 0, .int .i64 fr, .int .i64 tt, .int .i64 cm] := by simp [upK, stK, hs4, hs5, hs6, hvw, hop, hcm, hnm]
  have hgeq : gMsg s0 = (⟨kd, fr, tt, vw, op, cm, nm, (gLog s7).1⟩, (gLog s7).2) := by simp only [gMsg, gM, g3b, g4i, g3i, gTwo, hs1, hs2, hs3, hs4, hs5, hs6, hs7, hkd, hfr, htt, hvw, hop, hcm, hnm]
  rw [hgeq] at hok1
  have hsame : readOk gMsg Msg.ok bs = true → gMsg (bs, 0) = (⟨kd, fr, tt, vw, op, cm, nm, (gLog s7).1⟩, (gLog s7).2) := fun h => by rw [← hgeq, hs0, hok2 h]
  have hsm : ∀ x ∈ (gLog s7).1, x.d.length ≤ 9223372036854775807 := fun x hx => Nat.le_trans (gMany_all (one := gEnt) (P := fun x => x.d.length ≤ 65535) (fun s => gText_len _) _ _ x hx) (by decide)
  clear hgeq hok2 hbs' hs1 hs2 hs3 hs4 hs5 hs6 hs7 hkd hfr htt hvw hop hcm hnm hb
  generalize hLg : gLog s7 = lg at *
  obtain ⟨L, st⟩ := lg
  simp only at hok1 hsame hsm
  have HLg := hid hLg
  have HSame := hid hsame
  clear hLg hsame
  have HOk := hid hok1
  clear hok1
  go_enter Try.func13, Try.ntmps13
  go_wp2_with fail
  rw [← hW1]
  clear hW1
  rw [hl] at hNew
  refine hNew.mono ?_
  clear hNew
  rintro e w2 ⟨h, rfl, hh, H2, hb2⟩
  obtain ⟨W3, hW3⟩ : ∃ W, W = w2.alloc (.cells #[.pointer (some ⟨h + 1, 0, none⟩)] 95) := ⟨_, rfl⟩
  obtain ⟨hpl2, hhl2⟩ := rds_lt4 H2
  have hz3 : W3.heap.size = w2.heap.size + 1 := by rw [hW3]; simp
  have c23 : Below w2.heap.size w2 W3 := by rw [hW3]; exact (Below.refl _ _).alloc (Nat.le_refl _) _
  have H3 : RdS W3 (h + 1) h (W1.heap.size + 1) s0.1 s0.2 := by rw [hW3, hs0]; exact H2.chg (Chg.alloc w2 _ (fun _ => False)) id id id
  have bD3 : W3.heap[w2.heap.size]? = some (.cells #[.pointer (some ⟨h + 1, 0, none⟩)] 95 (0, 0)) := by rw [hW3]; exact heap_alloc_new w2 _
  have b13 : Below W1.heap.size W1 W3 := hb2.trans (c23.mono hb2.size)
  have bX3 := (b13.block _ (lt_of_block bX1)).trans bX1
  have bR3 := (b13.block _ (lt_of_block bR1)).trans bR1
  obtain ⟨W4, hW4⟩ : ∃ W, W = W3.alloc (.cells #[.pointer (some ⟨w.heap.size + 1, 0, none⟩), .pointer (some ⟨w.heap.size + 1, 5, none⟩), .pointer (some ⟨w.heap.size + 1, 6, none⟩)] 98) := ⟨_, rfl⟩
  have c34 : Chg W3 W4 (fun k => k = h ∨ k = w.heap.size + 1) := by rw [hW4]; exact Chg.alloc _ _ _
  have bP4 : W4.heap[W3.heap.size]? = some (.cells #[.pointer (some ⟨w.heap.size + 1, 0, none⟩), .pointer (some ⟨w.heap.size + 1, 5, none⟩), .pointer (some ⟨w.heap.size + 1, 6, none⟩)] 98 (0, 0)) := by rw [hW4]; exact heap_alloc_new W3 _
  have keepX : ∀ {W W' : World} {cs : Array Value}, W.heap[w.heap.size + 1]? = some (.cells cs 82 (0, 0)) → ∀ o, W' = W.alloc o → W'.heap[w.heap.size + 1]? = some (.cells cs 82 (0, 0)) := fun hb o e => by rw [e, Below.heap_alloc _ _ _ (lt_of_block hb)]; exact hb
  have bX4 := keepX bX3 _ hW4
  have hBy := readBytes17 (h + 1) h (W1.heap.size + 1) s0 (w.heap.size + 1) W3.heap.size 3 82 [0, 5, 6] [.int .i64 0, .int .i64 0, .int .i64 0, .int .i64 0, .slice none 0 0, .int .i64 0, .int .i64 0, .int .i64 0] W4 (by rw [hW4]; exact H3.chg (Chg.alloc W3 _ (fun _ => False)) id id id) bX4 rfl (by omega) (by decide) (by intro o ho; simp only [List.mem_cons, List.not_mem_nil, or_false] at ho; rcases ho with rfl | rfl | rfl <;> exact ⟨_, rfl⟩) (fun j hj => by
    match j, hj with
    | 0, _ => rw [Lib.cell_of_heap bP4]; rfl
    | 1, _ => rw [Lib.cell_of_heap bP4]; rfl
    | 2, _ => rw [Lib.cell_of_heap bP4]; rfl
    ) (by omega) (by omega)
  rw [hW4, hW3] at hBy
  rw [show (w2.alloc (.cells #[.pointer (some ⟨h + 1, 0, none⟩)] 95)).heap.size = w2.heap.size + 1 by simp] at hBy
  clear H2 H3 bX3 bX1 bR1 keepX hs0
  have fz3 := bD3
  go_wp2_with fail
  refine hBy.mono ?_
  clear hBy
  rintro e w5 ⟨rfl, H5, bX5, c5⟩
  rw [hstB] at H5
  rw [hupB] at bX5
  rw [← hW3, ← hW4] at c5
  have c35 : Chg W3 w5 (fun k => k = h ∨ k = w.heap.size + 1) := c34.trans c5 fun _ _ e => e
  have bD5 := (c35.block _ (lt_of_block bD3) (by omega)).trans bD3
  have d5 : w5.cell? ⟨w2.heap.size, 0, none⟩ = some (.pointer (some ⟨h + 1, 0, none⟩)) := by rw [Lib.cell_of_heap bD5]; rfl
  obtain ⟨W6, hW6⟩ : ∃ W, W = w5.alloc (.cells #[.pointer (some ⟨w.heap.size + 1, 1, none⟩), .pointer (some ⟨w.heap.size + 1, 3, none⟩), .pointer (some ⟨w.heap.size + 1, 7, none⟩), .pointer (some ⟨w.heap.size + 1, 2, none⟩)] 98) := ⟨_, rfl⟩
  have c56 : Chg w5 W6 (fun k => k = h ∨ k = w.heap.size + 1) := by rw [hW6]; exact Chg.alloc _ _ _
  have bP6 : W6.heap[w5.heap.size]? = some (.cells #[.pointer (some ⟨w.heap.size + 1, 1, none⟩), .pointer (some ⟨w.heap.size + 1, 3, none⟩), .pointer (some ⟨w.heap.size + 1, 7, none⟩), .pointer (some ⟨w.heap.size + 1, 2, none⟩)] 98 (0, 0)) := by rw [hW6]; exact heap_alloc_new w5 _
  have bX6 : W6.heap[w.heap.size + 1]? = some (.cells [.int .i64 kd, .int .i64 0, .int .i64 0, .int .i64 0, .slice none 0 0, .int .i64 fr, .int .i64 tt, .int .i64 0].toArray 82 (0, 0)) := by rw [hW6, Below.heap_alloc _ _ _ (lt_of_block bX5)]; exact bX5
  have hs35 := c35.size
  have hIn := readInts17 (h + 1) h (W1.heap.size + 1) s3 (w.heap.size + 1) w5.heap.size 4 82 [1, 3, 7, 2] [.int .i64 kd, .int .i64 0, .int .i64 0, .int .i64 0, .slice none 0 0, .int .i64 fr, .int .i64 tt, .int .i64 0] W6 (by rw [hW6]; exact H5.chg (Chg.alloc w5 _ (fun _ => False)) id id id) bX6 rfl (by omega) (by intro o ho; simp only [List.mem_cons, List.not_mem_nil, or_false] at ho; rcases ho with rfl | rfl | rfl | rfl <;> simp) (by intro o ho; simp only [List.mem_cons, List.not_mem_nil, or_false] at ho; rcases ho with rfl | rfl | rfl | rfl <;> exact ⟨_, rfl⟩) (fun j hj => by
    match j, hj with
    | 0, _ => rw [Lib.cell_of_heap bP6]; rfl
    | 1, _ => rw [Lib.cell_of_heap bP6]; rfl
    | 2, _ => rw [Lib.cell_of_heap bP6]; rfl
    | 3, _ => rw [Lib.cell_of_heap bP6]; rfl
    ) (by omega) (by omega)
  rw [hW6] at hIn
  clear H5 bX6 bX5 c5
  go_wp2_with fail
  refine hIn.mono ?_
  clear hIn
  rintro e w7 ⟨rfl, H7, bX7, c7⟩
  rw [hstI] at H7
  rw [hupI] at bX7
  rw [← hW6] at c7
  have c37 : Chg W3 w7 (fun k => k = h ∨ k = w.heap.size + 1) := (c35.trans c56 fun _ _ e => e).trans c7 fun _ _ e => e
  have bD7 := (c37.block _ (lt_of_block bD3) (by omega)).trans bD3
  have d7 : w7.cell? ⟨w2.heap.size, 0, none⟩ = some (.pointer (some ⟨h + 1, 0, none⟩)) := by rw [Lib.cell_of_heap bD7]; rfl
  have hs37 := c37.size
  have hEn := entries_any (h + 1) h (W1.heap.size + 1) s7 w7 H7 (by omega)
  rw [HLg.out] at hEn
  clear H7 hW3 hW4 hW6 bP4 bP6
  go_wp2_with fail
  refine hEn.mono ?_
  clear hEn
  rintro e w8 ⟨⟨v, rfl, hrow⟩, H8, c8⟩
  obtain ⟨va, vc, rfl, _, _, _⟩ := row_form hrow
  have hs78 := c8.size
  have c38 : Chg W3 w8 (fun k => k = h ∨ k = w.heap.size + 1) := c37.trans c8 fun _ _ e => .inl e
  have bX8 := (c8.block _ (lt_of_block bX7) (by omega)).trans bX7
  have bD8 := (c38.block _ (lt_of_block bD3) (by omega)).trans bD3
  have bR8 := (c38.block _ (lt_of_block bR3) (by omega)).trans bR3
  have x4 : w8.cell? ⟨w.heap.size + 1, 4, none⟩ = some (.slice none 0 0) := by rw [Lib.cell_of_heap bX8]; rfl
  have xf := Lib.frozen_of_heap bX8 4
  have xl := lt_of_block bX8
  obtain ⟨W9, hW9⟩ : ∃ W, W = w8.setCell ⟨w.heap.size + 1, 4, none⟩ (.slice va L.length vc) := ⟨_, rfl⟩
  have c89 : Chg w8 W9 (fun k => k = w.heap.size + 1) := by rw [hW9]; exact Chg.setCell _ _ _
  have bX9 : W9.heap[w.heap.size + 1]? = some (.cells #[.int .i64 kd, .int .i64 vw, .int .i64 nm, .int .i64 op, .slice va L.length vc, .int .i64 fr, .int .i64 tt, .int .i64 cm] 82 (0, 0)) := by rw [hW9, heap_setCell_same _ _ _ _ _ _ bX8]; rfl
  have bD9 := (c89.block _ (lt_of_block bD8) (by omega)).trans bD8
  have bR9 := (c89.block _ (lt_of_block bR8) (by omega)).trans bR8
  have H9 : RdS W9 (h + 1) h (W1.heap.size + 1) st.1 st.2 := H8.chg c89 (by omega) (by omega) (by omega)
  have hrow9 : W9.ownsRow w7.heap.size 109 2 (.slice va L.length vc) L.length (cellsE L) := row_chg4 hrow c89 fun g e (q : g = _) => by have := (row_lt4 hrow g e).1; omega
  obtain ⟨_, _, _, ev, hE9⟩ := es_of_row hrow9
  injection ev with ev1 ev2 ev3
  subst ev1 ev3
  have hb9 : Below w.heap.size w W9 := (hb1.trans (b13.mono hb1.size)).trans (((c38.trans c89 fun _ _ e => .inr e)).below (by omega) fun i e => by rcases e with e | e <;> omega)
  have hD := rdone_any (h + 1) h (W1.heap.size + 1) st.1 st.2 W9 H9
  have d9 : W9.cell? ⟨w2.heap.size, 0, none⟩ = some (.pointer (some ⟨h + 1, 0, none⟩)) := by rw [Lib.cell_of_heap bD9]; rfl
  have d8 : (w8.setCell ⟨w.heap.size + 1, 4, none⟩ (.slice va L.length vc)).cell? ⟨w2.heap.size, 0, none⟩ = some (.pointer (some ⟨h + 1, 0, none⟩)) := by rw [← hW9]; exact d9
  have hRt := letRight_any kd fr tt vw op cm nm va L.length vc L W9 rfl hE9 hsm
  rw [show (headOk 8 [1, 5, 6, 8] kd vw nm op L && (inB 0 7 fr && inB 0 7 tt) && inB 0 1099511627776 cm) = Msg.ok ⟨kd, fr, tt, vw, op, cm, nm, L⟩ from by unfold Msg.ok headOk; simp only [List.contains_cons, List.contains_nil, Bool.or_false, Bool.or_assoc]] at hRt
  have boxX : ∀ W, Below W9.heap.size W9 W → (W.cell? ⟨w.heap.size + 1, 0, none⟩ = some (.int .i64 kd) ∧ W.cell? ⟨w.heap.size + 1, 1, none⟩ = some (.int .i64 vw) ∧ W.cell? ⟨w.heap.size + 1, 2, none⟩ = some (.int .i64 nm) ∧ W.cell? ⟨w.heap.size + 1, 3, none⟩ = some (.int .i64 op) ∧ W.cell? ⟨w.heap.size + 1, 4, none⟩ = some (.slice va L.length vc) ∧ W.cell? ⟨w.heap.size + 1, 5, none⟩ = some (.int .i64 fr) ∧ W.cell? ⟨w.heap.size + 1, 6, none⟩ = some (.int .i64 tt) ∧ W.cell? ⟨w.heap.size + 1, 7, none⟩ = some (.int .i64 cm)) ∧ w.heap.size + 1 < W.heap.size := fun W hW => by
    have e := (hW.block _ (lt_of_block bX9)).trans bX9
    refine ⟨⟨?_, ?_, ?_, ?_, ?_, ?_, ?_, ?_⟩, lt_of_block e⟩ <;> (rw [Lib.cell_of_heap e]; rfl)
  have boxR : ∀ W, Below W9.heap.size W9 W → ((W.cell? ⟨w.heap.size, 0, none⟩ = some (.int .i64 0) ∧ W.cell? ⟨w.heap.size, 1, none⟩ = some (.int .i64 0) ∧ W.cell? ⟨w.heap.size, 2, none⟩ = some (.int .i64 0) ∧ W.cell? ⟨w.heap.size, 3, none⟩ = some (.int .i64 0) ∧ W.cell? ⟨w.heap.size, 4, none⟩ = some (.int .i64 0) ∧ W.cell? ⟨w.heap.size, 5, none⟩ = some (.int .i64 0) ∧ W.cell? ⟨w.heap.size, 6, none⟩ = some (.int .i64 0) ∧ W.cell? ⟨w.heap.size, 7, none⟩ = some (.slice none 0 0)) ∧ w.heap.size < W.heap.size) ∧ (∀ k, W.frozen? ⟨w.heap.size, k, none⟩ = false) ∧ W.heap[w.heap.size]? = some (.cells #[.int .i64 0, .int .i64 0, .int .i64 0, .int .i64 0, .int .i64 0, .int .i64 0, .int .i64 0, .slice none 0 0] 29 (0, 0)) := fun W hW => by
    have e := (hW.block _ (lt_of_block bR9)).trans bR9
    refine ⟨⟨⟨?_, ?_, ?_, ?_, ?_, ?_, ?_, ?_⟩, lt_of_block e⟩, fun k => Lib.frozen_of_heap e k, e⟩ <;> (rw [Lib.cell_of_heap e]; rfl)
  obtain ⟨⟨x0, x1, x2, x3, x4, x5, x6, x7⟩, xl9⟩ := boxX W9 (Below.refl _ _)
  obtain ⟨⟨⟨y0, y1, y2, y3, y4, y5, y6, y7⟩, yl9⟩, fz, bRz⟩ := boxR W9 (Below.refl _ _)
  clear bX8 bD8 bR8 bX9 bD9 bR9 H8 H9 c8 c89 c38 hrow bX7 bD7 bD5 hE9 hsm bD3 bR3 c37 c35 c34 c7 c56
  have finNo : readOk gMsg Msg.ok bs = false → ∀ W, Below W9.heap.size W9 W → GetMsgEnd bs w (.returned (.tuple #[.agg #[.int .i64 0, .int .i64 0, .int .i64 0, .int .i64 0, .int .i64 0, .int .i64 0, .int .i64 0, .slice none 0 0], .int .i64 21])) (setN W w.heap.size 0 [.int .i64 0, .int .i64 0, .int .i64 0, .int .i64 0, .int .i64 0, .int .i64 0, .int .i64 0, .slice none 0 0]) := fun h W hW => ⟨setN_below _ _ (hb9.trans (hW.mono hb9.size)) (Nat.le_refl _) (Nat.le_refl _), .inl ⟨h, rfl⟩⟩
  have finYes : readOk gMsg Msg.ok bs = true → ∀ W, Below W9.heap.size W9 W → GetMsgEnd bs w (.returned (.tuple #[msgV kd fr tt vw op cm nm (.slice va L.length vc), .int .i64 0])) (setN W w.heap.size 0 [.int .i64 kd, .int .i64 fr, .int .i64 tt, .int .i64 vw, .int .i64 op, .int .i64 cm, .int .i64 nm, .slice va L.length vc]) := fun h W hW => by
    have hrw := row_below2 hrow9 hW
    refine ⟨setN_below _ _ (hb9.trans (hW.mono hb9.size)) (Nat.le_refl _) (Nat.le_refl _), .inr ⟨h, va, vc, ?_, ?_⟩⟩
    · rw [HSame.out h]
    · rw [HSame.out h]
      exact ⟨row_lower4 (row_chg4 hrw (setN_chg _ _ _) fun g e q => by have := (row_lt4 hrw g e).1; omega) (by omega)⟩
  have HNo := hid finNo
  have HYes := hid finYes
  clear finNo finYes hrow9 hb9 hb1
  by_cases hd : doneOf st.1 st.2 = 0
  · rw [hd] at hD
    cases hr : Msg.ok ⟨kd, fr, tt, vw, op, cm, nm, L⟩ with
    | false =>
      have hf : readOk gMsg Msg.ok bs = false := by rw [HOk.out, hr, Bool.and_false]
      rw [hr] at hRt
      have HN2 := hid (HNo.out hf)
      clear HNo HYes HOk hf hr HSame HLg boxX
      go_wp2_with fail
      rw [← hW9]
      clear hW9
      refine hD.mono ?_
      clear hD
      rintro e w' ⟨rfl, hw'⟩
      subst hw'
      go_wp2_with (go_at_call 35; refine hRt.mono ?_; clear hRt; rintro e w10 ⟨rfl, hb10⟩; obtain ⟨⟨⟨u0, u1, u2, u3, u4, u5, u6, u7⟩, ul⟩, fz10, bR10⟩ := boxR w10 hb10; clear boxR; have g0 := fz10 0; have g1 := fz10 1; have g2 := fz10 2; have g3 := fz10 3; have g4 := fz10 4; have g5 := fz10 5; have g6 := fz10 6; have g7 := fz10 7)
      exact ret_box2 rfl rfl rfl rfl (load_msg (setN_all [.int .i64 0, .int .i64 0, .int .i64 0, .int .i64 0, .int .i64 0, .int .i64 0, .int .i64 0, .slice none 0 0] bR10 rfl)) (HN2.out w10 hb10)
    | true =>
      have ht : readOk gMsg Msg.ok bs = true := by rw [HOk.out, hr, hd]; rfl
      rw [hr] at hRt
      have HY2 := hid (HYes.out ht)
      have hCv := fun W => toMsg_any kd fr tt vw op cm nm va L.length vc W
      clear HNo HYes HOk ht hr HSame HLg
      generalize L.length = ll at *
      go_wp2_with fail
      rw [← hW9]
      clear hW9
      refine hD.mono ?_
      clear hD
      rintro e w' ⟨rfl, hw'⟩
      subst hw'
      go_wp2_with (first
        | (go_at_call 35; refine hRt.mono ?_; clear hRt; rintro e w10 ⟨rfl, hb10⟩; obtain ⟨⟨t0, t1, t2, t3, t4, t5, t6, t7⟩, tl⟩ := boxX w10 hb10; clear boxX)
        | (go_at_call 47; refine (hCv _).mono ?_; clear hCv; rintro e w11 ⟨rfl, hb11'⟩; have hb11 := hb10.trans (hb11'.mono hb10.size); obtain ⟨⟨⟨u0, u1, u2, u3, u4, u5, u6, u7⟩, ul⟩, fz10, bR10⟩ := boxR w11 hb11; clear boxR; have g0 := fz10 0; have g1 := fz10 1; have g2 := fz10 2; have g3 := fz10 3; have g4 := fz10 4; have g5 := fz10 5; have g6 := fz10 6; have g7 := fz10 7))
      exact ret_box2 rfl rfl rfl rfl (load_msg (setN_all [.int .i64 kd, .int .i64 fr, .int .i64 tt, .int .i64 vw, .int .i64 op, .int .i64 cm, .int .i64 nm, .slice va ll vc] bR10 rfl)) (HY2.out w11 hb11)
  · have hf : readOk gMsg Msg.ok bs = false := by rw [HOk.out, decide_eq_false hd]; rfl
    have hne : (doneOf st.1 st.2 != 0) = true := by simp [hd]
    have HN2 := hid (HNo.out hf)
    clear HNo HYes HOk hf HSame HLg boxX hRt boxR
    generalize doneOf st.1 st.2 = dn at hD hne
    have g0 := fz 0
    have g1 := fz 1
    have g2 := fz 2
    have g3 := fz 3
    have g4 := fz 4
    have g5 := fz 5
    have g6 := fz 6
    have g7 := fz 7
    go_wp2_with fail
    rw [← hW9]
    clear hW9
    refine hD.mono ?_
    clear hD
    rintro e w' ⟨rfl, hw'⟩
    subst hw'
    go_wp2_with fail
    exact ret_box2 rfl rfl rfl rfl (load_msg (setN_all [.int .i64 0, .int .i64 0, .int .i64 0, .int .i64 0, .int .i64 0, .int .i64 0, .int .i64 0, .slice none 0 0] bRz rfl)) (HN2.out w' (Below.refl _ _))
end Go.Proofs.Ytmaecpmdikdclaa
