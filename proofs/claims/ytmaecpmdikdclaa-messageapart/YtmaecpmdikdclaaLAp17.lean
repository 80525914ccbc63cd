/- Layer 17: the law MessageApart. -/
import Derived.Test.YtmaecpmdikdclaaMT
namespace Go.Proofs.Ytmaecpmdikdclaa
open Go.RowKit
theorem msg_apart {m t : Msg} (h1 : m.ok = true) (h2 : t.ok = true) : decide (m.b = t.b) = decide (m = t) := by
  by_cases h : m = t
  · subst h; simp
  · rw [decide_eq_false h, decide_eq_false fun e => h (reads_inj (gMsg_reads h1) (gMsg_reads h2) e)]
set_option maxRecDepth 100000 in
set_option maxHeartbeats 2000000 in
theorem apart17_nx (m t : Msg) (a : Option Addr) (n c : Nat) (b : Option Addr) (p d : Nat) (w : World) (hn : m.log.length = n) (hp : t.log.length = p) (hN : EsAt w.cell? a m.log) (hP : EsAt w.cell? b t.log) (hf : FairL m.log) (hg : FairL t.log) (hM : pE m.ok m.b ≠ 0) :
    Calls Try.prog 8 #[msgV m.kd m.fr m.tt m.vw m.op m.cm m.nm (.slice a n c), msgV t.kd t.fr t.tt t.vw t.op t.cm t.nm (.slice b p d)] w fun e w' => e = .returned (.bool true) ∧ Below w.heap.size w w' := by
  have mkM := mkM_any m a n c w hn hN hf
  have mkT := mkM_any t b p d w hp hP hg
  have hKn := knows17_any
  have ptM : ∀ W va vc, EsAt W.cell? va m.log → Calls Try.prog 11 #[msgV m.kd m.fr m.tt m.vw m.op m.cm m.nm (.slice va n vc)] W (PutNo (pE m.ok m.b) W) := fun W va vc hE => (put17_any m va n vc W hn hE hf.1).mono fun e w' h => h.no
  have ptT : ∀ W va vc, EsAt W.cell? va t.log → Calls Try.prog 11 #[msgV t.kd t.fr t.tt t.vw t.op t.cm t.nm (.slice va p vc)] W (PutNo (pE t.ok t.b) W) := fun W va vc hE => (put17_any t va p vc W hp hE hg.1).mono fun e w' h => h.no
  generalize pE m.ok m.b = erM at *
  have nzM : (erM != 0) = true := by simp [hM]
  clear hM
  generalize pE t.ok t.b = erT at *
  clear hN hP hf hg hn hp
  obtain ⟨mkd, mfr, mtt, mvw, mop, mcm, mnm, LM⟩ := m
  simp only at *
  obtain ⟨tkd, tfr, ttt, tvw, top, tcm, tnm, LT⟩ := t
  simp only at *
  obtain ⟨W0, hW0⟩ : ∃ W, W = (w.alloc (.cells #[.int .i64 mkd, .int .i64 mfr, .int .i64 mtt, .int .i64 mvw, .int .i64 mop, .int .i64 mcm, .int .i64 mnm, .slice a n c] 24)).alloc (.cells #[.int .i64 tkd, .int .i64 tfr, .int .i64 ttt, .int .i64 tvw, .int .i64 top, .int .i64 tcm, .int .i64 tnm, .slice b p d] 24) := ⟨_, rfl⟩
  have hb0 : Below w.heap.size w W0 := by rw [hW0]; exact (two_boxes _ _ _ _ _).2
  have bxM0 : W0.heap[w.heap.size]? = some (.cells #[.int .i64 mkd, .int .i64 mfr, .int .i64 mtt, .int .i64 mvw, .int .i64 mop, .int .i64 mcm, .int .i64 mnm, .slice a n c] 24 (0, 0)) := by rw [hW0, Below.heap_alloc _ _ _ (by simp)]; exact heap_alloc_new w _
  have bxT0 : W0.heap[w.heap.size + 1]? = some (.cells #[.int .i64 tkd, .int .i64 tfr, .int .i64 ttt, .int .i64 tvw, .int .i64 top, .int .i64 tcm, .int .i64 tnm, .slice b p d] 24 (0, 0)) := by rw [hW0]; exact (two_boxes _ _ _ _ _).1
  have bx : ∀ W, Below W0.heap.size W0 W → ((W.cell? ⟨w.heap.size, 0, none⟩ = some (.int .i64 mkd) ∧ W.cell? ⟨w.heap.size, 1, none⟩ = some (.int .i64 mfr) ∧ W.cell? ⟨w.heap.size, 2, none⟩ = some (.int .i64 mtt) ∧ W.cell? ⟨w.heap.size, 3, none⟩ = some (.int .i64 mvw) ∧ W.cell? ⟨w.heap.size, 4, none⟩ = some (.int .i64 mop) ∧ W.cell? ⟨w.heap.size, 5, none⟩ = some (.int .i64 mcm) ∧ W.cell? ⟨w.heap.size, 6, none⟩ = some (.int .i64 mnm) ∧ W.cell? ⟨w.heap.size, 7, none⟩ = some (.slice a n c)) ∧ w.heap.size < W.heap.size) ∧ ((W.cell? ⟨w.heap.size + 1, 0, none⟩ = some (.int .i64 tkd) ∧ W.cell? ⟨w.heap.size + 1, 1, none⟩ = some (.int .i64 tfr) ∧ W.cell? ⟨w.heap.size + 1, 2, none⟩ = some (.int .i64 ttt) ∧ W.cell? ⟨w.heap.size + 1, 3, none⟩ = some (.int .i64 tvw) ∧ W.cell? ⟨w.heap.size + 1, 4, none⟩ = some (.int .i64 top) ∧ W.cell? ⟨w.heap.size + 1, 5, none⟩ = some (.int .i64 tcm) ∧ W.cell? ⟨w.heap.size + 1, 6, none⟩ = some (.int .i64 tnm) ∧ W.cell? ⟨w.heap.size + 1, 7, none⟩ = some (.slice b p d)) ∧ w.heap.size + 1 < W.heap.size) := fun W h => by
    have e1 := (h.block _ (lt_of_block bxM0)).trans bxM0
    have e2 := (h.block _ (lt_of_block bxT0)).trans bxT0
    refine ⟨⟨⟨?_, ?_, ?_, ?_, ?_, ?_, ?_, ?_⟩, lt_of_block e1⟩, ⟨?_, ?_, ?_, ?_, ?_, ?_, ?_, ?_⟩, lt_of_block e2⟩ <;> first | (rw [Lib.cell_of_heap e1]; rfl) | (rw [Lib.cell_of_heap e2]; rfl)
  have lift : ∀ W, Below W0.heap.size W0 W → Below w.heap.size w W := fun W h => hb0.trans (h.mono hb0.size)
  have hbz : Below W0.heap.size W0 W0 := Below.refl _ _
  clear bxM0 bxT0
  go_enter Try.func8, Try.ntmps8
  go_wp2_with fail
  rw [← hW0]
  clear hW0
  refine (mkM _ (lift _ hbz)).mono ?_
  rintro e wM1 ⟨⟨vaM, vcM, rfl, hEM⟩, hbM1'⟩
  have hbM1 := hbz.trans (hbM1'.mono hbz.size)
  have hPtM := ptM wM1 vaM vcM hEM
  clear ptM hEM hbM1'
  go_wp2_with (first | (go_at_call 11; first | (refine hPtM.mono ?_; clear hPtM; rintro e wM2 ⟨⟨aoM, lnM, cpM, rfl⟩, hbM2'⟩; have hbM2 := hbM1.trans (hbM2'.mono hbM1.size); clear hbM2'; obtain ⟨⟨⟨y0, y1, y2, y3, y4, y5, y6, y7⟩, yl⟩, ⟨z0, z1, z2, z3, z4, z5, z6, z7⟩, zl⟩ := bx wM2 hbM2; have hMkT := mkT _ (lift _ hbM2)) | (refine hPtT.mono ?_; clear hPtT; rintro e wT2 ⟨⟨aoT, lnT, cpT, rfl⟩, hbT2'⟩; have hbT2 := hbT1.trans (hbT2'.mono hbT1.size); clear hbT2')) | (go_at_call 10; refine hMkT.mono ?_; clear hMkT; rintro e wT1 ⟨⟨vaT, vcT, rfl, hET⟩, hbT1'⟩; have hbT1 := hbM2.trans (hbT1'.mono hbM2.size); clear hbT1'; have hPtT := ptT wT1 vaT vcT hET; clear ptT hET) | (go_at_call 17; refine (num17_any _ _).mono ?_; rintro e w' ⟨rfl, hw'⟩; replace hw' := hw'.symm; subst hw') | (go_at_call 20; refine (hKn _).mono ?_; rintro e wz ⟨rfl, hbz'⟩; have hbzz := hbT2.trans (hbz'.mono hbT2.size)))
  go_ret
  exact ⟨rfl, lift _ hbzz⟩
set_option maxRecDepth 100000 in
set_option maxHeartbeats 2000000 in
theorem apart17_yn (m t : Msg) (a : Option Addr) (n c : Nat) (b : Option Addr) (p d : Nat) (w : World) (hn : m.log.length = n) (hp : t.log.length = p) (hN : EsAt w.cell? a m.log) (hP : EsAt w.cell? b t.log) (hf : FairL m.log) (hg : FairL t.log) (hM : pE m.ok m.b = 0) (hT : pE t.ok t.b ≠ 0) :
    Calls Try.prog 8 #[msgV m.kd m.fr m.tt m.vw m.op m.cm m.nm (.slice a n c), msgV t.kd t.fr t.tt t.vw t.op t.cm t.nm (.slice b p d)] w fun e w' => e = .returned (.bool true) ∧ Below w.heap.size w w' := by
  have mkM := mkM_any m a n c w hn hN hf
  have mkT := mkM_any t b p d w hp hP hg
  have hKn := knows17_any
  have ptM : ∀ W va vc, EsAt W.cell? va m.log → Calls Try.prog 11 #[msgV m.kd m.fr m.tt m.vw m.op m.cm m.nm (.slice va n vc)] W (PutYes m.b m.b.length W) := fun W va vc hE => (put17_any m va n vc W hn hE hf.1).mono fun e w' h => h.yes hM
  have ptT : ∀ W va vc, EsAt W.cell? va t.log → Calls Try.prog 11 #[msgV t.kd t.fr t.tt t.vw t.op t.cm t.nm (.slice va p vc)] W (PutNo (pE t.ok t.b) W) := fun W va vc hE => (put17_any t va p vc W hp hE hg.1).mono fun e w' h => h.no
  generalize m.b.length = NM at *
  clear hM
  generalize pE t.ok t.b = erT at *
  have nzT : (erT != 0) = true := by simp [hT]
  clear hT
  clear hN hP hf hg hn hp
  obtain ⟨mkd, mfr, mtt, mvw, mop, mcm, mnm, LM⟩ := m
  simp only at *
  obtain ⟨tkd, tfr, ttt, tvw, top, tcm, tnm, LT⟩ := t
  simp only at *
  obtain ⟨W0, hW0⟩ : ∃ W, W = (w.alloc (.cells #[.int .i64 mkd, .int .i64 mfr, .int .i64 mtt, .int .i64 mvw, .int .i64 mop, .int .i64 mcm, .int .i64 mnm, .slice a n c] 24)).alloc (.cells #[.int .i64 tkd, .int .i64 tfr, .int .i64 ttt, .int .i64 tvw, .int .i64 top, .int .i64 tcm, .int .i64 tnm, .slice b p d] 24) := ⟨_, rfl⟩
  have hb0 : Below w.heap.size w W0 := by rw [hW0]; exact (two_boxes _ _ _ _ _).2
  have bxM0 : W0.heap[w.heap.size]? = some (.cells #[.int .i64 mkd, .int .i64 mfr, .int .i64 mtt, .int .i64 mvw, .int .i64 mop, .int .i64 mcm, .int .i64 mnm, .slice a n c] 24 (0, 0)) := by rw [hW0, Below.heap_alloc _ _ _ (by simp)]; exact heap_alloc_new w _
  have bxT0 : W0.heap[w.heap.size + 1]? = some (.cells #[.int .i64 tkd, .int .i64 tfr, .int .i64 ttt, .int .i64 tvw, .int .i64 top, .int .i64 tcm, .int .i64 tnm, .slice b p d] 24 (0, 0)) := by rw [hW0]; exact (two_boxes _ _ _ _ _).1
  have bx : ∀ W, Below W0.heap.size W0 W → ((W.cell? ⟨w.heap.size, 0, none⟩ = some (.int .i64 mkd) ∧ W.cell? ⟨w.heap.size, 1, none⟩ = some (.int .i64 mfr) ∧ W.cell? ⟨w.heap.size, 2, none⟩ = some (.int .i64 mtt) ∧ W.cell? ⟨w.heap.size, 3, none⟩ = some (.int .i64 mvw) ∧ W.cell? ⟨w.heap.size, 4, none⟩ = some (.int .i64 mop) ∧ W.cell? ⟨w.heap.size, 5, none⟩ = some (.int .i64 mcm) ∧ W.cell? ⟨w.heap.size, 6, none⟩ = some (.int .i64 mnm) ∧ W.cell? ⟨w.heap.size, 7, none⟩ = some (.slice a n c)) ∧ w.heap.size < W.heap.size) ∧ ((W.cell? ⟨w.heap.size + 1, 0, none⟩ = some (.int .i64 tkd) ∧ W.cell? ⟨w.heap.size + 1, 1, none⟩ = some (.int .i64 tfr) ∧ W.cell? ⟨w.heap.size + 1, 2, none⟩ = some (.int .i64 ttt) ∧ W.cell? ⟨w.heap.size + 1, 3, none⟩ = some (.int .i64 tvw) ∧ W.cell? ⟨w.heap.size + 1, 4, none⟩ = some (.int .i64 top) ∧ W.cell? ⟨w.heap.size + 1, 5, none⟩ = some (.int .i64 tcm) ∧ W.cell? ⟨w.heap.size + 1, 6, none⟩ = some (.int .i64 tnm) ∧ W.cell? ⟨w.heap.size + 1, 7, none⟩ = some (.slice b p d)) ∧ w.heap.size + 1 < W.heap.size) := fun W h => by
    have e1 := (h.block _ (lt_of_block bxM0)).trans bxM0
    have e2 := (h.block _ (lt_of_block bxT0)).trans bxT0
    refine ⟨⟨⟨?_, ?_, ?_, ?_, ?_, ?_, ?_, ?_⟩, lt_of_block e1⟩, ⟨?_, ?_, ?_, ?_, ?_, ?_, ?_, ?_⟩, lt_of_block e2⟩ <;> first | (rw [Lib.cell_of_heap e1]; rfl) | (rw [Lib.cell_of_heap e2]; rfl)
  have lift : ∀ W, Below W0.heap.size W0 W → Below w.heap.size w W := fun W h => hb0.trans (h.mono hb0.size)
  have hbz : Below W0.heap.size W0 W0 := Below.refl _ _
  clear bxM0 bxT0
  go_enter Try.func8, Try.ntmps8
  go_wp2_with fail
  rw [← hW0]
  clear hW0
  refine (mkM _ (lift _ hbz)).mono ?_
  rintro e wM1 ⟨⟨vaM, vcM, rfl, hEM⟩, hbM1'⟩
  have hbM1 := hbz.trans (hbM1'.mono hbz.size)
  have hPtM := ptM wM1 vaM vcM hEM
  clear ptM hEM hbM1'
  go_wp2_with (first | (go_at_call 11; first | (refine hPtM.mono ?_; clear hPtM; rintro e wM2 ⟨⟨aoM, cpM, rfl, hXM, hxcM⟩, hbM2'⟩; have hbM2 := hbM1.trans (hbM2'.mono hbM1.size); clear hbM2'; obtain ⟨⟨⟨y0, y1, y2, y3, y4, y5, y6, y7⟩, yl⟩, ⟨z0, z1, z2, z3, z4, z5, z6, z7⟩, zl⟩ := bx wM2 hbM2; have hMkT := mkT _ (lift _ hbM2)) | (refine hPtT.mono ?_; clear hPtT; rintro e wT2 ⟨⟨aoT, lnT, cpT, rfl⟩, hbT2'⟩; have hbT2 := hbT1.trans (hbT2'.mono hbT1.size); clear hbT2')) | (go_at_call 10; refine hMkT.mono ?_; clear hMkT; rintro e wT1 ⟨⟨vaT, vcT, rfl, hET⟩, hbT1'⟩; have hbT1 := hbM2.trans (hbT1'.mono hbM2.size); clear hbT1'; have hPtT := ptT wT1 vaT vcT hET; clear ptT hET) | (go_at_call 17; refine (num17_any _ _).mono ?_; rintro e w' ⟨rfl, hw'⟩; replace hw' := hw'.symm; subst hw') | (go_at_call 20; refine (hKn _).mono ?_; rintro e wz ⟨rfl, hbz'⟩; have hbzz := hbT2.trans (hbz'.mono hbT2.size)))
  go_ret
  exact ⟨rfl, lift _ hbzz⟩
set_option maxRecDepth 100000 in
set_option maxHeartbeats 2000000 in
theorem apart17_yy (m t : Msg) (a : Option Addr) (n c : Nat) (b : Option Addr) (p d : Nat) (w : World) (hn : m.log.length = n) (hp : t.log.length = p) (hN : EsAt w.cell? a m.log) (hP : EsAt w.cell? b t.log) (hf : FairL m.log) (hg : FairL t.log) (hM : pE m.ok m.b = 0) (hT : pE t.ok t.b = 0) :
    Calls Try.prog 8 #[msgV m.kd m.fr m.tt m.vw m.op m.cm m.nm (.slice a n c), msgV t.kd t.fr t.tt t.vw t.op t.cm t.nm (.slice b p d)] w fun e w' => e = .returned (.bool true) ∧ Below w.heap.size w w' := by
  have mkM := mkM_any m a n c w hn hN hf
  have mkT := mkM_any t b p d w hp hP hg
  have hKn := knows17_any
  have ptM : ∀ W va vc, EsAt W.cell? va m.log → Calls Try.prog 11 #[msgV m.kd m.fr m.tt m.vw m.op m.cm m.nm (.slice va n vc)] W (PutYes m.b m.b.length W) := fun W va vc hE => (put17_any m va n vc W hn hE hf.1).mono fun e w' h => h.yes hM
  have ptT : ∀ W va vc, EsAt W.cell? va t.log → Calls Try.prog 11 #[msgV t.kd t.fr t.tt t.vw t.op t.cm t.nm (.slice va p vc)] W (PutYes t.b t.b.length W) := fun W va vc hE => (put17_any t va p vc W hp hE hg.1).mono fun e w' h => h.yes hT
  have hsame := msg_apart (pE_yes hM).1 (pE_yes hT).1
  have smA : ∀ W ua uc va vc, EsAt W.cell? ua m.log → EsAt W.cell? va t.log → Calls Try.prog 18 #[msgV m.kd m.fr m.tt m.vw m.op m.cm m.nm (.slice ua n uc), msgV t.kd t.fr t.tt t.vw t.op t.cm t.nm (.slice va p vc)] W fun e w' => e = .returned (.bool (decide (m = t))) ∧ Below W.heap.size W w' := fun W ua uc va vc h1 h2 => sameMsg_any m t ua n uc va p vc W hn hp h1 h2 (by rw [← hn]; exact Nat.le_trans hf.2 (by decide)) (by rw [← hp]; exact Nat.le_trans hg.2 (by decide))
  generalize decide (m = t) = sm at *
  obtain ⟨BM, hBM⟩ : ∃ z, z = m.b := ⟨_, rfl⟩
  obtain ⟨BT, hBT⟩ : ∃ z, z = t.b := ⟨_, rfl⟩
  rw [← hBM] at ptM hsame
  rw [← hBT] at ptT hsame
  obtain ⟨NM, hNM⟩ : ∃ z, z = BM.length := ⟨_, rfl⟩
  obtain ⟨NT, hNT⟩ : ∃ z, z = BT.length := ⟨_, rfl⟩
  rw [← hNM] at ptM
  rw [← hNT] at ptT
  have HNM := hid hNM
  have HNT := hid hNT
  clear hBM hBT hNM hNT hM hT
  clear hN hP hf hg hn hp
  obtain ⟨mkd, mfr, mtt, mvw, mop, mcm, mnm, LM⟩ := m
  simp only at *
  obtain ⟨tkd, tfr, ttt, tvw, top, tcm, tnm, LT⟩ := t
  simp only at *
  obtain ⟨W0, hW0⟩ : ∃ W, W = (w.alloc (.cells #[.int .i64 mkd, .int .i64 mfr, .int .i64 mtt, .int .i64 mvw, .int .i64 mop, .int .i64 mcm, .int .i64 mnm, .slice a n c] 24)).alloc (.cells #[.int .i64 tkd, .int .i64 tfr, .int .i64 ttt, .int .i64 tvw, .int .i64 top, .int .i64 tcm, .int .i64 tnm, .slice b p d] 24) := ⟨_, rfl⟩
  have hb0 : Below w.heap.size w W0 := by rw [hW0]; exact (two_boxes _ _ _ _ _).2
  have bxM0 : W0.heap[w.heap.size]? = some (.cells #[.int .i64 mkd, .int .i64 mfr, .int .i64 mtt, .int .i64 mvw, .int .i64 mop, .int .i64 mcm, .int .i64 mnm, .slice a n c] 24 (0, 0)) := by rw [hW0, Below.heap_alloc _ _ _ (by simp)]; exact heap_alloc_new w _
  have bxT0 : W0.heap[w.heap.size + 1]? = some (.cells #[.int .i64 tkd, .int .i64 tfr, .int .i64 ttt, .int .i64 tvw, .int .i64 top, .int .i64 tcm, .int .i64 tnm, .slice b p d] 24 (0, 0)) := by rw [hW0]; exact (two_boxes _ _ _ _ _).1
  have bx : ∀ W, Below W0.heap.size W0 W → ((W.cell? ⟨w.heap.size, 0, none⟩ = some (.int .i64 mkd) ∧ W.cell? ⟨w.heap.size, 1, none⟩ = some (.int .i64 mfr) ∧ W.cell? ⟨w.heap.size, 2, none⟩ = some (.int .i64 mtt) ∧ W.cell? ⟨w.heap.size, 3, none⟩ = some (.int .i64 mvw) ∧ W.cell? ⟨w.heap.size, 4, none⟩ = some (.int .i64 mop) ∧ W.cell? ⟨w.heap.size, 5, none⟩ = some (.int .i64 mcm) ∧ W.cell? ⟨w.heap.size, 6, none⟩ = some (.int .i64 mnm) ∧ W.cell? ⟨w.heap.size, 7, none⟩ = some (.slice a n c)) ∧ w.heap.size < W.heap.size) ∧ ((W.cell? ⟨w.heap.size + 1, 0, none⟩ = some (.int .i64 tkd) ∧ W.cell? ⟨w.heap.size + 1, 1, none⟩ = some (.int .i64 tfr) ∧ W.cell? ⟨w.heap.size + 1, 2, none⟩ = some (.int .i64 ttt) ∧ W.cell? ⟨w.heap.size + 1, 3, none⟩ = some (.int .i64 tvw) ∧ W.cell? ⟨w.heap.size + 1, 4, none⟩ = some (.int .i64 top) ∧ W.cell? ⟨w.heap.size + 1, 5, none⟩ = some (.int .i64 tcm) ∧ W.cell? ⟨w.heap.size + 1, 6, none⟩ = some (.int .i64 tnm) ∧ W.cell? ⟨w.heap.size + 1, 7, none⟩ = some (.slice b p d)) ∧ w.heap.size + 1 < W.heap.size) := fun W h => by
    have e1 := (h.block _ (lt_of_block bxM0)).trans bxM0
    have e2 := (h.block _ (lt_of_block bxT0)).trans bxT0
    refine ⟨⟨⟨?_, ?_, ?_, ?_, ?_, ?_, ?_, ?_⟩, lt_of_block e1⟩, ⟨?_, ?_, ?_, ?_, ?_, ?_, ?_, ?_⟩, lt_of_block e2⟩ <;> first | (rw [Lib.cell_of_heap e1]; rfl) | (rw [Lib.cell_of_heap e2]; rfl)
  have lift : ∀ W, Below W0.heap.size W0 W → Below w.heap.size w W := fun W h => hb0.trans (h.mono hb0.size)
  have hbz : Below W0.heap.size W0 W0 := Below.refl _ _
  clear bxM0 bxT0
  go_enter Try.func8, Try.ntmps8
  go_wp2_with fail
  rw [← hW0]
  clear hW0
  refine (mkM _ (lift _ hbz)).mono ?_
  rintro e wM1 ⟨⟨vaM, vcM, rfl, hEM⟩, hbM1'⟩
  have hbM1 := hbz.trans (hbM1'.mono hbz.size)
  have hPtM := ptM wM1 vaM vcM hEM
  clear ptM hEM hbM1'
  go_wp2_with (first | (go_at_call 11; first | (refine hPtM.mono ?_; clear hPtM; rintro e wM2 ⟨⟨aoM, cpM, rfl, hXM, hxcM⟩, hbM2'⟩; have hbM2 := hbM1.trans (hbM2'.mono hbM1.size); clear hbM2'; obtain ⟨⟨⟨y0, y1, y2, y3, y4, y5, y6, y7⟩, yl⟩, ⟨z0, z1, z2, z3, z4, z5, z6, z7⟩, zl⟩ := bx wM2 hbM2; have hMkT := mkT _ (lift _ hbM2)) | (refine hPtT.mono ?_; clear hPtT; rintro e wT2 ⟨⟨aoT, cpT, rfl, hXT, hxcT⟩, hbT2'⟩; have hbT2 := hbT1.trans (hbT2'.mono hbT1.size); have hbTM := hbTMa.trans (hbT2'.mono hbTMa.size); clear hbT2' hbTMa)) | (go_at_call 10; refine hMkT.mono ?_; clear hMkT; rintro e wT1 ⟨⟨vaT, vcT, rfl, hET⟩, hbT1'⟩; have hbT1 := hbM2.trans (hbT1'.mono hbM2.size); have hbTMa := hbT1'; clear hbT1'; have hPtT := ptT wT1 vaT vcT hET; clear ptT hET) | (go_at_call 17; refine (num17_any _ _).mono ?_; rintro e w' ⟨rfl, hw'⟩; replace hw' := hw'.symm; subst hw'))
  have hXM2 : Bs wT2 aoM BM := hXM.keep (below_keep (hbTM))
  have hSk : ∀ W, Below wT2.heap.size wT2 W → (((W.cell? ⟨w.heap.size, 0, none⟩ = some (.int .i64 mkd) ∧ W.cell? ⟨w.heap.size, 1, none⟩ = some (.int .i64 mfr) ∧ W.cell? ⟨w.heap.size, 2, none⟩ = some (.int .i64 mtt) ∧ W.cell? ⟨w.heap.size, 3, none⟩ = some (.int .i64 mvw) ∧ W.cell? ⟨w.heap.size, 4, none⟩ = some (.int .i64 mop) ∧ W.cell? ⟨w.heap.size, 5, none⟩ = some (.int .i64 mcm) ∧ W.cell? ⟨w.heap.size, 6, none⟩ = some (.int .i64 mnm) ∧ W.cell? ⟨w.heap.size, 7, none⟩ = some (.slice a n c)) ∧ w.heap.size < W.heap.size) ∧ ((W.cell? ⟨w.heap.size + 1, 0, none⟩ = some (.int .i64 tkd) ∧ W.cell? ⟨w.heap.size + 1, 1, none⟩ = some (.int .i64 tfr) ∧ W.cell? ⟨w.heap.size + 1, 2, none⟩ = some (.int .i64 ttt) ∧ W.cell? ⟨w.heap.size + 1, 3, none⟩ = some (.int .i64 tvw) ∧ W.cell? ⟨w.heap.size + 1, 4, none⟩ = some (.int .i64 top) ∧ W.cell? ⟨w.heap.size + 1, 5, none⟩ = some (.int .i64 tcm) ∧ W.cell? ⟨w.heap.size + 1, 6, none⟩ = some (.int .i64 tnm) ∧ W.cell? ⟨w.heap.size + 1, 7, none⟩ = some (.slice b p d)) ∧ w.heap.size + 1 < W.heap.size)) ∧ (convert 25 9 (.slice aoM NM cpM)).run Try.prog W = .ok (.string ⟨BM.toArray⟩) W ∧ (convert 25 9 (.slice aoT NT cpT)).run Try.prog W = .ok (.string ⟨BT.toArray⟩) W := fun W h => by
    have q := bx W (hbT2.trans (h.mono hbT2.size))
    refine ⟨q, ?_, ?_⟩
    · have := run_str (hXM2.keep (below_keep h)) cpM
      rw [← HNM.out] at this
      exact this
    · have := run_str (hXT.keep (below_keep h)) cpT
      rw [← HNT.out] at this
      exact this
  have h0 : Below wT2.heap.size wT2 wT2 := Below.refl _ _
  have h1 : Below wT2.heap.size wT2 wT2.drew := (Below.refl _ _).drew
  have hMa := fun W (h : Below wT2.heap.size wT2 W) => mkM W (lift _ (hbT2.trans (h.mono hbT2.size)))
  have hMb := fun W (h : Below wT2.heap.size wT2 W) => mkT W (lift _ (hbT2.trans (h.mono hbT2.size)))
  clear mkM mkT hXM hXT hXM2 bx hbTM
  by_cases hpq : BM = BT
  · subst hpq
    obtain rfl : sm = true := by simpa using hsame.symm
    clear hsame
    go_region_held3 (fun W => (((W.cell? ⟨w.heap.size, 0, none⟩ = some (.int .i64 mkd) ∧ W.cell? ⟨w.heap.size, 1, none⟩ = some (.int .i64 mfr) ∧ W.cell? ⟨w.heap.size, 2, none⟩ = some (.int .i64 mtt) ∧ W.cell? ⟨w.heap.size, 3, none⟩ = some (.int .i64 mvw) ∧ W.cell? ⟨w.heap.size, 4, none⟩ = some (.int .i64 mop) ∧ W.cell? ⟨w.heap.size, 5, none⟩ = some (.int .i64 mcm) ∧ W.cell? ⟨w.heap.size, 6, none⟩ = some (.int .i64 mnm) ∧ W.cell? ⟨w.heap.size, 7, none⟩ = some (.slice a n c)) ∧ w.heap.size < W.heap.size) ∧ ((W.cell? ⟨w.heap.size + 1, 0, none⟩ = some (.int .i64 tkd) ∧ W.cell? ⟨w.heap.size + 1, 1, none⟩ = some (.int .i64 tfr) ∧ W.cell? ⟨w.heap.size + 1, 2, none⟩ = some (.int .i64 ttt) ∧ W.cell? ⟨w.heap.size + 1, 3, none⟩ = some (.int .i64 tvw) ∧ W.cell? ⟨w.heap.size + 1, 4, none⟩ = some (.int .i64 top) ∧ W.cell? ⟨w.heap.size + 1, 5, none⟩ = some (.int .i64 tcm) ∧ W.cell? ⟨w.heap.size + 1, 6, none⟩ = some (.int .i64 tnm) ∧ W.cell? ⟨w.heap.size + 1, 7, none⟩ = some (.slice b p d)) ∧ w.heap.size + 1 < W.heap.size)) ∧ (convert 25 9 (.slice aoM NM cpM)).run Try.prog W = .ok (.string ⟨BM.toArray⟩) W ∧ (convert 25 9 (.slice aoT NT cpT)).run Try.prog W = .ok (.string ⟨BM.toArray⟩) W) (first | exact hSk _ h17 | exact hSk _ h16 | exact hSk _ h15 | exact hSk _ h14 | exact hSk _ h1 | exact hSk _ h0 | go_keep) (first
      | (go_at_call 10; first
          | (refine (hMa _ h1).mono ?_; clear hMa; rintro e w14 ⟨⟨ua, uc, rfl, hU⟩, h14'⟩; have h14 := h1.trans (h14'.mono h1.size); clear h14'; have hMb2 := hMb _ h14; clear hMb)
          | (refine hMb2.mono ?_; clear hMb2; rintro e w15 ⟨⟨ta, tc, rfl, hV⟩, h15'⟩; have h15 := h14.trans (h15'.mono h14.size); have hSm := smA w15 ua uc ta tc (hU.keep (below_keep h15')) hV; clear smA h15' hU hV))
      | (go_at_call 18; refine hSm.mono ?_; clear hSm; rintro e w16 ⟨rfl, h16'⟩; have h16 := h15.trans (h16'.mono h15.size); clear h16')
      | (go_at_call 20; refine (hKn _).mono ?_; clear hKn; rintro e w17 ⟨rfl, h17'⟩; have h17 := h16.trans (h17'.mono h16.size); clear h17'))
    all_goals
      go_wp2_with fail
      go_ret
      exact ⟨rfl, lift _ (hbT2.trans (h17.mono hbT2.size))⟩
  · obtain rfl : sm = false := by rw [← hsame]; exact decide_eq_false hpq
    have q1 : (BM == BT) = false := by simp [hpq]
    clear hsame
    go_region_held3 (fun W => (((W.cell? ⟨w.heap.size, 0, none⟩ = some (.int .i64 mkd) ∧ W.cell? ⟨w.heap.size, 1, none⟩ = some (.int .i64 mfr) ∧ W.cell? ⟨w.heap.size, 2, none⟩ = some (.int .i64 mtt) ∧ W.cell? ⟨w.heap.size, 3, none⟩ = some (.int .i64 mvw) ∧ W.cell? ⟨w.heap.size, 4, none⟩ = some (.int .i64 mop) ∧ W.cell? ⟨w.heap.size, 5, none⟩ = some (.int .i64 mcm) ∧ W.cell? ⟨w.heap.size, 6, none⟩ = some (.int .i64 mnm) ∧ W.cell? ⟨w.heap.size, 7, none⟩ = some (.slice a n c)) ∧ w.heap.size < W.heap.size) ∧ ((W.cell? ⟨w.heap.size + 1, 0, none⟩ = some (.int .i64 tkd) ∧ W.cell? ⟨w.heap.size + 1, 1, none⟩ = some (.int .i64 tfr) ∧ W.cell? ⟨w.heap.size + 1, 2, none⟩ = some (.int .i64 ttt) ∧ W.cell? ⟨w.heap.size + 1, 3, none⟩ = some (.int .i64 tvw) ∧ W.cell? ⟨w.heap.size + 1, 4, none⟩ = some (.int .i64 top) ∧ W.cell? ⟨w.heap.size + 1, 5, none⟩ = some (.int .i64 tcm) ∧ W.cell? ⟨w.heap.size + 1, 6, none⟩ = some (.int .i64 tnm) ∧ W.cell? ⟨w.heap.size + 1, 7, none⟩ = some (.slice b p d)) ∧ w.heap.size + 1 < W.heap.size)) ∧ (convert 25 9 (.slice aoM NM cpM)).run Try.prog W = .ok (.string ⟨BM.toArray⟩) W ∧ (convert 25 9 (.slice aoT NT cpT)).run Try.prog W = .ok (.string ⟨BT.toArray⟩) W) (first | exact hSk _ h17 | exact hSk _ h16 | exact hSk _ h15 | exact hSk _ h14 | exact hSk _ h1 | exact hSk _ h0 | go_keep) (first
      | (go_at_call 10; first
          | (refine (hMa _ h1).mono ?_; clear hMa; rintro e w14 ⟨⟨ua, uc, rfl, hU⟩, h14'⟩; have h14 := h1.trans (h14'.mono h1.size); clear h14'; have hMb2 := hMb _ h14; clear hMb)
          | (refine hMb2.mono ?_; clear hMb2; rintro e w15 ⟨⟨ta, tc, rfl, hV⟩, h15'⟩; have h15 := h14.trans (h15'.mono h14.size); have hSm := smA w15 ua uc ta tc (hU.keep (below_keep h15')) hV; clear smA h15' hU hV))
      | (go_at_call 18; refine hSm.mono ?_; clear hSm; rintro e w16 ⟨rfl, h16'⟩; have h16 := h15.trans (h16'.mono h15.size); clear h16')
      | (go_at_call 20; refine (hKn _).mono ?_; clear hKn; rintro e w17 ⟨rfl, h17'⟩; have h17 := h16.trans (h17'.mono h16.size); clear h17'))
    all_goals
      go_wp2_with fail
      go_ret
      exact ⟨rfl, lift _ (hbT2.trans (h17.mono hbT2.size))⟩
theorem apart17_any (m t : Msg) (a : Option Addr) (n c : Nat) (b : Option Addr) (p d : Nat) (w : World) (hn : m.log.length = n) (hp : t.log.length = p) (hN : EsAt w.cell? a m.log) (hP : EsAt w.cell? b t.log) (hf : FairL m.log) (hg : FairL t.log) :
    Calls Try.prog 8 #[msgV m.kd m.fr m.tt m.vw m.op m.cm m.nm (.slice a n c), msgV t.kd t.fr t.tt t.vw t.op t.cm t.nm (.slice b p d)] w fun e w' => e = .returned (.bool true) ∧ Below w.heap.size w w' := by
  by_cases h1 : pE m.ok m.b = 0
  · by_cases h2 : pE t.ok t.b = 0
    · exact apart17_yy m t a n c b p d w hn hp hN hP hf hg h1 h2
    · exact apart17_yn m t a n c b p d w hn hp hN hP hf hg h1 h2
  · exact apart17_nx m t a n c b p d w hn hp hN hP hf hg h1
end Go.Proofs.Ytmaecpmdikdclaa
