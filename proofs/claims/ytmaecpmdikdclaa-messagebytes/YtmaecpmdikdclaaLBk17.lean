/- Layer 17: the law MessageBack. -/
import Derived.Test.YtmaecpmdikdclaaMT
namespace Go.Proofs.Ytmaecpmdikdclaa
open Go.RowKit
set_option maxRecDepth 100000 in
set_option maxHeartbeats 4000000 in
theorem back17_nn (m : Msg) (r : Rec17) (x : UInt8) (a : Option Addr) (n c : Nat) (b : Option Addr) (p d : Nat) (w : World) (hn : m.log.length = n) (hp : r.log.length = p) (hN : EsAt w.cell? a m.log) (hP : EsAt w.cell? b r.log) (hf : FairL m.log) (hg : FairL r.log) (hMe : pE m.ok m.b ≠ 0) (hRe : pE r.ok r.b ≠ 0) :
    Calls Try.prog 6 #[msgV m.kd m.fr m.tt m.vw m.op m.cm m.nm (.slice a n c), recV r.kd r.vw r.nm r.op (.slice b p d), .int .u8 (x.toNat : Int)] w fun e w' => e = .returned (.bool true) ∧ Below w.heap.size w w' := by
  have mkM := mkM_any m a n c w hn hN hf
  have ptM : ∀ W va vc, EsAt W.cell? va m.log → Calls Try.prog 11 #[msgV m.kd m.fr m.tt m.vw m.op m.cm m.nm (.slice va n vc)] W (PutNo (pE m.ok m.b) W) := fun W va vc hE => (put17_any m va n vc W hn hE hf.1).mono fun e w' h => h.no
  have mkR := mkR_any r b p d w hp hP hg
  have ptR : ∀ W va vc, EsAt W.cell? va r.log → Calls Try.prog 22 #[recV r.kd r.vw r.nm r.op (.slice va p vc)] W (PutNo (pE r.ok r.b) W) := fun W va vc hE => (putRec17_any r va p vc W hp hE hg.1).mono fun e w' h => h.no
  have hKn := knows17_any
  clear hf hg hN hP
  generalize pE m.ok m.b = erM at *
  have nzM : (erM == 0) = false := by simp [hMe]
  clear hMe hn
  generalize pE r.ok r.b = erR at *
  have nzR : (erR == 0) = false := by simp [hRe]
  clear hRe hp
  obtain ⟨mkd, mfr, mtt, mvw, mop, mcm, mnm, LM⟩ := m
  simp only at *
  obtain ⟨rkd, rvw, rnm, rop, LR⟩ := r
  simp only at *
  obtain ⟨W0, hW0⟩ : ∃ W, W = (w.alloc (.cells #[.int .i64 mkd, .int .i64 mfr, .int .i64 mtt, .int .i64 mvw, .int .i64 mop, .int .i64 mcm, .int .i64 mnm, .slice a n c] 24)).alloc (.cells #[.int .i64 rkd, .int .i64 rvw, .int .i64 rnm, .int .i64 rop, .slice b p d] 48) := ⟨_, rfl⟩
  have hb0 : Below w.heap.size w W0 := by rw [hW0]; exact (two_boxes _ _ _ _ _).2
  have bxM0 : W0.heap[w.heap.size]? = some (.cells #[.int .i64 mkd, .int .i64 mfr, .int .i64 mtt, .int .i64 mvw, .int .i64 mop, .int .i64 mcm, .int .i64 mnm, .slice a n c] 24 (0, 0)) := by rw [hW0, Below.heap_alloc _ _ _ (by simp)]; exact heap_alloc_new w _
  have bxR0 : W0.heap[w.heap.size + 1]? = some (.cells #[.int .i64 rkd, .int .i64 rvw, .int .i64 rnm, .int .i64 rop, .slice b p d] 48 (0, 0)) := by rw [hW0]; exact (two_boxes _ _ _ _ _).1
  have bxM : ∀ W, Below W0.heap.size W0 W → (W.cell? ⟨w.heap.size, 0, none⟩ = some (.int .i64 mkd) ∧ W.cell? ⟨w.heap.size, 1, none⟩ = some (.int .i64 mfr) ∧ W.cell? ⟨w.heap.size, 2, none⟩ = some (.int .i64 mtt) ∧ W.cell? ⟨w.heap.size, 3, none⟩ = some (.int .i64 mvw) ∧ W.cell? ⟨w.heap.size, 4, none⟩ = some (.int .i64 mop) ∧ W.cell? ⟨w.heap.size, 5, none⟩ = some (.int .i64 mcm) ∧ W.cell? ⟨w.heap.size, 6, none⟩ = some (.int .i64 mnm) ∧ W.cell? ⟨w.heap.size, 7, none⟩ = some (.slice a n c)) ∧ w.heap.size < W.heap.size := fun W h => by
    have e := (h.block _ (lt_of_block bxM0)).trans bxM0
    refine ⟨⟨?_, ?_, ?_, ?_, ?_, ?_, ?_, ?_⟩, lt_of_block e⟩ <;> (rw [Lib.cell_of_heap e]; rfl)
  have bxR : ∀ W, Below W0.heap.size W0 W → (W.cell? ⟨w.heap.size + 1, 0, none⟩ = some (.int .i64 rkd) ∧ W.cell? ⟨w.heap.size + 1, 1, none⟩ = some (.int .i64 rvw) ∧ W.cell? ⟨w.heap.size + 1, 2, none⟩ = some (.int .i64 rnm) ∧ W.cell? ⟨w.heap.size + 1, 3, none⟩ = some (.int .i64 rop) ∧ W.cell? ⟨w.heap.size + 1, 4, none⟩ = some (.slice b p d)) ∧ w.heap.size + 1 < W.heap.size := fun W h => by
    have e := (h.block _ (lt_of_block bxR0)).trans bxR0
    refine ⟨⟨?_, ?_, ?_, ?_, ?_⟩, lt_of_block e⟩ <;> (rw [Lib.cell_of_heap e]; rfl)
  have lift : ∀ W, Below W0.heap.size W0 W → Below w.heap.size w W := fun W h => hb0.trans (h.mono hb0.size)
  have hbz : Below W0.heap.size W0 W0 := Below.refl _ _
  clear bxM0 bxR0
  go_enter Try.func6, Try.ntmps6
  go_wp2_with fail
  rw [← hW0]
  clear hW0
  refine (mkM W0 (lift _ hbz)).mono ?_
  clear mkM
  rintro e wM1 ⟨⟨vaM, vcM, rfl, hEM⟩, hbM1'⟩
  have hbM1 := hbz.trans (hbM1'.mono hbz.size)
  clear hbM1'
  have hPtM := ptM wM1 vaM vcM hEM
  clear ptM hEM
  go_wp2_with (first | (go_at_call 11; refine hPtM.mono ?_; clear hPtM; rintro e wM2 ⟨⟨aoM, lnM, cpM, rfl⟩, hbM2'⟩; have hbM2 := hbM1.trans (hbM2'.mono hbM1.size); clear hbM2'; obtain ⟨⟨y0, y1, y2, y3, y4⟩, yl⟩ := bxR wM2 hbM2) | (go_at_call 17; refine (num17_any _ _).mono ?_; rintro e w' ⟨rfl, hw'⟩; replace hw' := hw'.symm; subst hw') | (go_at_call 21; refine (mkR wM2 (lift _ hbM2)).mono ?_; clear mkR; rintro e wR1 ⟨⟨vaR, vcR, rfl, hER⟩, hbR1'⟩; have hbR1 := hbM2.trans (hbR1'.mono hbM2.size); clear hbR1'; have hPtR := ptR wR1 vaR vcR hER; clear ptR hER) | (go_at_call 22; refine hPtR.mono ?_; clear hPtR; rintro e wR2 ⟨⟨aoR, lnR, cpR, rfl⟩, hbR2'⟩; have hbR2 := hbR1.trans (hbR2'.mono hbR1.size); clear hbR2'; skip) | (go_at_call 20; refine (hKn _).mono ?_; rintro e wz ⟨rfl, hbz'⟩; have hbzz := hbR2.trans (hbz'.mono hbR2.size)))
  go_ret
  exact ⟨rfl, lift _ hbzz⟩
set_option maxRecDepth 100000 in
set_option maxHeartbeats 4000000 in
theorem back17_ny (m : Msg) (r : Rec17) (x : UInt8) (a : Option Addr) (n c : Nat) (b : Option Addr) (p d : Nat) (w : World) (hn : m.log.length = n) (hp : r.log.length = p) (hN : EsAt w.cell? a m.log) (hP : EsAt w.cell? b r.log) (hf : FairL m.log) (hg : FairL r.log) (hMe : pE m.ok m.b ≠ 0) (hRe : pE r.ok r.b = 0) :
    Calls Try.prog 6 #[msgV m.kd m.fr m.tt m.vw m.op m.cm m.nm (.slice a n c), recV r.kd r.vw r.nm r.op (.slice b p d), .int .u8 (x.toNat : Int)] w fun e w' => e = .returned (.bool true) ∧ Below w.heap.size w w' := by
  have mkM := mkM_any m a n c w hn hN hf
  have ptM : ∀ W va vc, EsAt W.cell? va m.log → Calls Try.prog 11 #[msgV m.kd m.fr m.tt m.vw m.op m.cm m.nm (.slice va n vc)] W (PutNo (pE m.ok m.b) W) := fun W va vc hE => (put17_any m va n vc W hn hE hf.1).mono fun e w' h => h.no
  have mkR := mkR_any r b p d w hp hP hg
  have ptR : ∀ W va vc, EsAt W.cell? va r.log → Calls Try.prog 22 #[recV r.kd r.vw r.nm r.op (.slice va p vc)] W (PutYes r.b r.b.length W) := fun W va vc hE => (putRec17_any r va p vc W hp hE hg.1).mono fun e w' h => h.yes hRe
  obtain ⟨okR, leR, _⟩ := pE_yes hRe
  have sfR := getR_self r okR leR
  have moR := fun (y : UInt8) => getR_no (readOk_more (ok := Rec17.ok) (gRec_reads okR) y) (by simp; omega)
  have ctR := fun k (hk : k < r.b.length) => getR_no (readOk_cut (ok := Rec17.ok) (gRec_reads okR) gRec_steady k hk) (by rw [List.length_take]; omega)
  have lnR := recB_len r
  have smR : ∀ W ua uc va vc, EsAt W.cell? ua r.log → EsAt W.cell? va r.log → Calls Try.prog 28 #[recV r.kd r.vw r.nm r.op (.slice ua r.log.length uc), recV r.kd r.vw r.nm r.op (.slice va p vc)] W fun e w' => e = .returned (.bool true) ∧ Below W.heap.size W w' := fun W ua uc va vc h1 h2 => by
    have := sameRec_any r r ua _ uc va p vc W rfl hp h1 h2 (Nat.le_trans hg.2 (by decide)) (by rw [← hp]; exact Nat.le_trans hg.2 (by decide))
    rw [decide_eq_true rfl] at this
    exact this
  have hKn := knows17_any
  clear hf hg hN hP
  generalize pE m.ok m.b = erM at *
  have nzM : (erM == 0) = false := by simp [hMe]
  clear hMe hn
  obtain ⟨BR, hBR⟩ : ∃ z, z = r.b := ⟨_, rfl⟩
  rw [← hBR] at ptR sfR moR ctR lnR leR
  obtain ⟨NR, hNR⟩ : ∃ z, z = BR.length := ⟨_, rfl⟩
  rw [← hNR] at ptR sfR ctR lnR leR
  have HNR := hid hNR
  clear hBR hNR okR hRe
  obtain ⟨llR, hllR⟩ : ∃ z, z = r.log.length := ⟨_, rfl⟩
  rw [← hllR] at sfR smR
  clear hllR hp
  obtain ⟨mkd, mfr, mtt, mvw, mop, mcm, mnm, LM⟩ := m
  simp only at *
  obtain ⟨rkd, rvw, rnm, rop, LR⟩ := r
  simp only at *
  obtain ⟨W0, hW0⟩ : ∃ W, W = (w.alloc (.cells #[.int .i64 mkd, .int .i64 mfr, .int .i64 mtt, .int .i64 mvw, .int .i64 mop, .int .i64 mcm, .int .i64 mnm, .slice a n c] 24)).alloc (.cells #[.int .i64 rkd, .int .i64 rvw, .int .i64 rnm, .int .i64 rop, .slice b p d] 48) := ⟨_, rfl⟩
  have hb0 : Below w.heap.size w W0 := by rw [hW0]; exact (two_boxes _ _ _ _ _).2
  have bxM0 : W0.heap[w.heap.size]? = some (.cells #[.int .i64 mkd, .int .i64 mfr, .int .i64 mtt, .int .i64 mvw, .int .i64 mop, .int .i64 mcm, .int .i64 mnm, .slice a n c] 24 (0, 0)) := by rw [hW0, Below.heap_alloc _ _ _ (by simp)]; exact heap_alloc_new w _
  have bxR0 : W0.heap[w.heap.size + 1]? = some (.cells #[.int .i64 rkd, .int .i64 rvw, .int .i64 rnm, .int .i64 rop, .slice b p d] 48 (0, 0)) := by rw [hW0]; exact (two_boxes _ _ _ _ _).1
  have bxM : ∀ W, Below W0.heap.size W0 W → (W.cell? ⟨w.heap.size, 0, none⟩ = some (.int .i64 mkd) ∧ W.cell? ⟨w.heap.size, 1, none⟩ = some (.int .i64 mfr) ∧ W.cell? ⟨w.heap.size, 2, none⟩ = some (.int .i64 mtt) ∧ W.cell? ⟨w.heap.size, 3, none⟩ = some (.int .i64 mvw) ∧ W.cell? ⟨w.heap.size, 4, none⟩ = some (.int .i64 mop) ∧ W.cell? ⟨w.heap.size, 5, none⟩ = some (.int .i64 mcm) ∧ W.cell? ⟨w.heap.size, 6, none⟩ = some (.int .i64 mnm) ∧ W.cell? ⟨w.heap.size, 7, none⟩ = some (.slice a n c)) ∧ w.heap.size < W.heap.size := fun W h => by
    have e := (h.block _ (lt_of_block bxM0)).trans bxM0
    refine ⟨⟨?_, ?_, ?_, ?_, ?_, ?_, ?_, ?_⟩, lt_of_block e⟩ <;> (rw [Lib.cell_of_heap e]; rfl)
  have bxR : ∀ W, Below W0.heap.size W0 W → (W.cell? ⟨w.heap.size + 1, 0, none⟩ = some (.int .i64 rkd) ∧ W.cell? ⟨w.heap.size + 1, 1, none⟩ = some (.int .i64 rvw) ∧ W.cell? ⟨w.heap.size + 1, 2, none⟩ = some (.int .i64 rnm) ∧ W.cell? ⟨w.heap.size + 1, 3, none⟩ = some (.int .i64 rop) ∧ W.cell? ⟨w.heap.size + 1, 4, none⟩ = some (.slice b p d)) ∧ w.heap.size + 1 < W.heap.size := fun W h => by
    have e := (h.block _ (lt_of_block bxR0)).trans bxR0
    refine ⟨⟨?_, ?_, ?_, ?_, ?_⟩, lt_of_block e⟩ <;> (rw [Lib.cell_of_heap e]; rfl)
  have lift : ∀ W, Below W0.heap.size W0 W → Below w.heap.size w W := fun W h => hb0.trans (h.mono hb0.size)
  have hbz : Below W0.heap.size W0 W0 := Below.refl _ _
  clear bxM0 bxR0
  go_enter Try.func6, Try.ntmps6
  go_wp2_with fail
  rw [← hW0]
  clear hW0
  refine (mkM W0 (lift _ hbz)).mono ?_
  clear mkM
  rintro e wM1 ⟨⟨vaM, vcM, rfl, hEM⟩, hbM1'⟩
  have hbM1 := hbz.trans (hbM1'.mono hbz.size)
  clear hbM1'
  have hPtM := ptM wM1 vaM vcM hEM
  clear ptM hEM
  go_wp2_with (first | (go_at_call 11; refine hPtM.mono ?_; clear hPtM; rintro e wM2 ⟨⟨aoM, lnM, cpM, rfl⟩, hbM2'⟩; have hbM2 := hbM1.trans (hbM2'.mono hbM1.size); clear hbM2'; obtain ⟨⟨y0, y1, y2, y3, y4⟩, yl⟩ := bxR wM2 hbM2) | (go_at_call 17; refine (num17_any _ _).mono ?_; rintro e w' ⟨rfl, hw'⟩; replace hw' := hw'.symm; subst hw') | (go_at_call 21; refine (mkR wM2 (lift _ hbM2)).mono ?_; rintro e wR1 ⟨⟨vaR, vcR, rfl, hER⟩, hbR1'⟩; have hbR1 := hbM2.trans (hbR1'.mono hbM2.size); clear hbR1'; have hPtR := ptR wR1 vaR vcR hER; clear ptR hER) | (go_at_call 22; refine hPtR.mono ?_; clear hPtR; rintro e wR2 ⟨⟨aoR, cpR, rfl, hXR, hxcR⟩, hbR2'⟩; have hbR2 := hbR1.trans (hbR2'.mono hbR1.size); clear hbR2'))
  have hGR := sfR wR2 aoR cpR hXR
  clear sfR
  refine hGR.mono ?_
  clear hGR
  rintro e wR3 ⟨⟨uR, ucR, rfl, hUR⟩, hbR3'⟩
  have hbR3 := hbR2.trans (hbR3'.mono hbR2.size)
  replace hXR := hXR.keep (below_keep hbR3')
  obtain ⟨VR, hVR⟩ : ∃ W, W = wR3.alloc (.cells #[.int .i64 rkd, .int .i64 rvw, .int .i64 rnm, .int .i64 rop, .slice uR llR ucR] 50) := ⟨_, rfl⟩
  have hvR : Below wR3.heap.size wR3 VR := by rw [hVR]; exact (Below.refl _ _).alloc (Nat.le_refl _) _
  obtain ⟨XR, hXXR⟩ : ∃ z, z = wR3.heap.size := ⟨_, rfl⟩
  have bXR : VR.heap[XR]? = some (.cells #[.int .i64 rkd, .int .i64 rvw, .int .i64 rnm, .int .i64 rop, .slice uR llR ucR] 50 (0, 0)) := by rw [hVR, hXXR]; exact heap_alloc_new wR3 _
  have hbR6 := hbR3.trans (hvR.mono hbR3.size)
  replace hXR := hXR.keep (below_keep hvR)
  replace hUR := hUR.keep (below_keep hvR)
  have hO0 : OwnB (VR.alloc (.cells #[] 5)) VR.heap.size (.slice (some ⟨VR.heap.size, 0, none⟩) 0 0) [] := World.ownsRow_lit VR #[] 0 (Nat.le_refl _) (Nat.zero_le _) rfl
  have hb7 : Below VR.heap.size VR (VR.alloc (.cells #[] 5)) := (Below.refl _ _).alloc (Nat.le_refl _) _
  have hSrc := src_bs (P := Try.prog) _ Try.underlying25 (hXR.keep (below_keep hb7)) cpR
  rw [← HNR.out] at hSrc
  go_upto_region 11 with fail
  rw [← hVR, ← hXXR]
  clear hVR hXXR
  go_wp2_with (first | (at_builtin; first | (refine wpList_app _ rfl _ _ _ _ rfl elem_u8 VR.heap.size _ _ rfl hO0 _ rfl (BR.map bv) hSrc (by simp only [List.length_map, ← HNR.out]; unfold maxLen; simp; omega) (by simp only [List.length_map, ← HNR.out]; simp; omega) (by simp) ?_; intro v8 w8 ho8 hs8; clear hO0 hSrc; have hO8 : OwnB w8 VR.heap.size v8 BR := (by simpa [OwnB] using ho8); have hO8a := Own.alloc hO8 (.cells #[.int .u8 (x.toNat : Int)] 5); have hS8 := src_one (P := Try.prog) w8 Try.underlying25 (.int .u8 (x.toNat : Int)) (bv x) 5 rfl rfl 1; have hb8 : Below VR.heap.size VR w8 := hb7.trans (hs8.below hb7.size fun k e => by cases e; exact Nat.le_refl _); have z8 := hb8.size) | (refine wpList_app _ rfl _ _ _ _ rfl elem_u8 VR.heap.size _ _ rfl hO8a _ rfl [bv x] hS8 (by simp only [List.length_map, List.length_cons, List.length_nil, ← HNR.out]; unfold maxLen; omega) (by simp only [List.length_map, List.length_cons, List.length_nil, ← HNR.out]; omega) (by simp; omega) ?_; intro v9 w9 ho9 hs9; clear hO8a hS8; have hO9 : OwnB w9 VR.heap.size v9 (BR ++ [x]) := (by simpa [OwnB] using ho9); obtain ⟨a9, c9, rfl, l9, m9, hB9, _, _⟩ := Own.bs hO9)))
  have hb9 : Below VR.heap.size VR w9 := (hb8.alloc z8 (.cells #[.int .u8 (x.toNat : Int)] 5)).trans (hs9.below (by simp; omega) fun k e => (Own.lt hO8 k e).1)
  replace hXR := hXR.keep (below_keep hb9)
  have hG9 := moR x w9 a9 (BR.length + 1) c9 (by simp) hB9
  clear moR
  refine hG9.mono ?_
  rintro e wR10 ⟨rfl, hb10'⟩
  clear hG9
  have hb10 := hb9.trans (hb10'.mono hb9.size)
  have hb11 := hb10.alloc hb10.size (.cells #[.int .i64 0, .int .i64 0, .int .i64 0, .int .i64 0, .slice none 0 0] 50)
  replace hXR := (hXR.keep (below_keep hb10')).keep (keep_alloc _ (.cells #[.int .i64 0, .int .i64 0, .int .i64 0, .int .i64 0, .slice none 0 0] 50))
  have hG11 := ctR (NR - 1) (by omega) _ aoR (NR - 1) cpR (by rw [List.length_take, ← HNR.out]; omega) (bs_take hXR (NR - 1))
  clear ctR
  have hlen : (0 : Int) ≤ (NR : Int) - 1 := by omega
  have hlen2 : (NR : Int) - 1 ≤ (cpR : Int) := by omega
  have hton : ((NR : Int) - 1).toNat = NR - 1 := by omega
  go_wp2_with fail
  refine hG11.mono ?_
  rintro e wR12 ⟨rfl, hb12'⟩
  clear hG11
  have hb12 := hb11.trans (hb12'.mono hb11.size)
  obtain ⟨ZR, hZR⟩ : ∃ W, W = wR12.alloc (.cells #[.int .i64 0, .int .i64 0, .int .i64 0, .int .i64 0, .slice none 0 0] 50) := ⟨_, rfl⟩
  have hb13 : Below VR.heap.size VR ZR := by rw [hZR]; exact hb12.alloc hb12.size _
  have hbR13 := hbR6.trans (hb13.mono hbR6.size)
  have hU13 := fun W (h : Below ZR.heap.size ZR W) => hUR.keep (below_keep (hb13.trans (h.mono hb13.size)))
  have bX13 := (hb13.block _ (lt_of_block bXR)).trans bXR
  have hS13 : ∀ W, Below ZR.heap.size ZR W → ((W.cell? ⟨XR, 0, none⟩ = some (.int .i64 rkd) ∧ W.cell? ⟨XR, 1, none⟩ = some (.int .i64 rvw) ∧ W.cell? ⟨XR, 2, none⟩ = some (.int .i64 rnm) ∧ W.cell? ⟨XR, 3, none⟩ = some (.int .i64 rop) ∧ W.cell? ⟨XR, 4, none⟩ = some (.slice uR llR ucR)) ∧ XR < W.heap.size) ∧ ((W.cell? ⟨w.heap.size + 1, 0, none⟩ = some (.int .i64 rkd) ∧ W.cell? ⟨w.heap.size + 1, 1, none⟩ = some (.int .i64 rvw) ∧ W.cell? ⟨w.heap.size + 1, 2, none⟩ = some (.int .i64 rnm) ∧ W.cell? ⟨w.heap.size + 1, 3, none⟩ = some (.int .i64 rop) ∧ W.cell? ⟨w.heap.size + 1, 4, none⟩ = some (.slice b p d)) ∧ w.heap.size + 1 < W.heap.size) := fun W h => by
    have e := (h.block _ (lt_of_block bX13)).trans bX13
    refine ⟨⟨⟨?_, ?_, ?_, ?_, ?_⟩, lt_of_block e⟩, bxR W (hbR13.trans (h.mono hbR13.size))⟩ <;> (rw [Lib.cell_of_heap e]; rfl)
  have hMk := fun W (h : Below ZR.heap.size ZR W) => mkR W (lift _ (hbR13.trans (h.mono hbR13.size)))
  clear mkR hO8 hO9 hB9 hs9 hs8 ho8 ho9 hb7 hb8 hb9 hb10 hb11 hb10' hb12' hb12 hXR hUR bXR bX13 hton hlen hlen2 hbR3'
  have h0 : Below ZR.heap.size ZR ZR := Below.refl _ _
  have h1 : Below ZR.heap.size ZR ZR.drew := (Below.refl _ _).drew
  obtain ⟨⟨⟨qR0, qR1, qR2, qR3, qR4⟩, qxl⟩, ⟨mR0, mR1, mR2, mR3, mR4⟩, qml⟩ := hS13 ZR h0
  go_upto_region 13 with fail
  rw [← hZR]
  clear hZR
  go_region_held3 (fun W => ((W.cell? ⟨XR, 0, none⟩ = some (.int .i64 rkd) ∧ W.cell? ⟨XR, 1, none⟩ = some (.int .i64 rvw) ∧ W.cell? ⟨XR, 2, none⟩ = some (.int .i64 rnm) ∧ W.cell? ⟨XR, 3, none⟩ = some (.int .i64 rop) ∧ W.cell? ⟨XR, 4, none⟩ = some (.slice uR llR ucR)) ∧ XR < W.heap.size) ∧ ((W.cell? ⟨w.heap.size + 1, 0, none⟩ = some (.int .i64 rkd) ∧ W.cell? ⟨w.heap.size + 1, 1, none⟩ = some (.int .i64 rvw) ∧ W.cell? ⟨w.heap.size + 1, 2, none⟩ = some (.int .i64 rnm) ∧ W.cell? ⟨w.heap.size + 1, 3, none⟩ = some (.int .i64 rop) ∧ W.cell? ⟨w.heap.size + 1, 4, none⟩ = some (.slice b p d)) ∧ w.heap.size + 1 < W.heap.size)) (first | go_keep | exact hS13 _ h15 | exact hS13 _ h14 | exact hS13 _ h1 | exact hS13 _ h0) (first
    | (go_at_call 17; refine (num17_any _ _).mono ?_; rintro e w' ⟨rfl, hw'⟩; replace hw' := hw'.symm; subst hw')
    | (go_at_call 21; refine (hMk _ h1).mono ?_; clear hMk; rintro e wR14 ⟨⟨ta, tc, rfl, hT⟩, h14'⟩; have h14 := h1.trans (h14'.mono h1.size); clear h14'; have hSm := smR wR14 uR ucR ta tc (hU13 _ h14) hT; clear smR hU13 hT)
    | (go_at_call 28; refine hSm.mono ?_; clear hSm; rintro e wR15 ⟨rfl, h15'⟩; have h15 := h14.trans (h15'.mono h14.size); clear h15'; have hbR15 := hbR13.trans (h15.mono hbR13.size); skip))
  go_wp2_with (first | (go_at_call 20; refine (hKn _).mono ?_; rintro e wz ⟨rfl, hbz'⟩; have hbzz := hbR15.trans (hbz'.mono hbR15.size)) | (go_at_call 17; refine (num17_any _ _).mono ?_; rintro e w' ⟨rfl, hw'⟩; replace hw' := hw'.symm; subst hw'))
  go_ret
  exact ⟨rfl, lift _ hbzz⟩
set_option maxRecDepth 100000 in
set_option maxHeartbeats 4000000 in
theorem back17_yn (m : Msg) (r : Rec17) (x : UInt8) (a : Option Addr) (n c : Nat) (b : Option Addr) (p d : Nat) (w : World) (hn : m.log.length = n) (hp : r.log.length = p) (hN : EsAt w.cell? a m.log) (hP : EsAt w.cell? b r.log) (hf : FairL m.log) (hg : FairL r.log) (hMe : pE m.ok m.b = 0) (hRe : pE r.ok r.b ≠ 0) :
    Calls Try.prog 6 #[msgV m.kd m.fr m.tt m.vw m.op m.cm m.nm (.slice a n c), recV r.kd r.vw r.nm r.op (.slice b p d), .int .u8 (x.toNat : Int)] w fun e w' => e = .returned (.bool true) ∧ Below w.heap.size w w' := by
  have mkM := mkM_any m a n c w hn hN hf
  have ptM : ∀ W va vc, EsAt W.cell? va m.log → Calls Try.prog 11 #[msgV m.kd m.fr m.tt m.vw m.op m.cm m.nm (.slice va n vc)] W (PutYes m.b m.b.length W) := fun W va vc hE => (put17_any m va n vc W hn hE hf.1).mono fun e w' h => h.yes hMe
  obtain ⟨okM, leM, _⟩ := pE_yes hMe
  have sfM := getM_self m okM leM
  have moM := fun (y : UInt8) => getM_no (readOk_more (ok := Msg.ok) (gMsg_reads okM) y) (by simp; omega)
  have ctM := fun k (hk : k < m.b.length) => getM_no (readOk_cut (ok := Msg.ok) (gMsg_reads okM) gMsg_steady k hk) (by rw [List.length_take]; omega)
  have lnM := msgB_len m
  have smM : ∀ W ua uc va vc, EsAt W.cell? ua m.log → EsAt W.cell? va m.log → Calls Try.prog 18 #[msgV m.kd m.fr m.tt m.vw m.op m.cm m.nm (.slice ua m.log.length uc), msgV m.kd m.fr m.tt m.vw m.op m.cm m.nm (.slice va n vc)] W fun e w' => e = .returned (.bool true) ∧ Below W.heap.size W w' := fun W ua uc va vc h1 h2 => by
    have := sameMsg_any m m ua _ uc va n vc W rfl hn h1 h2 (Nat.le_trans hf.2 (by decide)) (by rw [← hn]; exact Nat.le_trans hf.2 (by decide))
    rw [decide_eq_true rfl] at this
    exact this
  have mkR := mkR_any r b p d w hp hP hg
  have ptR : ∀ W va vc, EsAt W.cell? va r.log → Calls Try.prog 22 #[recV r.kd r.vw r.nm r.op (.slice va p vc)] W (PutNo (pE r.ok r.b) W) := fun W va vc hE => (putRec17_any r va p vc W hp hE hg.1).mono fun e w' h => h.no
  have hKn := knows17_any
  clear hf hg hN hP
  obtain ⟨BM, hBM⟩ : ∃ z, z = m.b := ⟨_, rfl⟩
  rw [← hBM] at ptM sfM moM ctM lnM leM
  obtain ⟨NM, hNM⟩ : ∃ z, z = BM.length := ⟨_, rfl⟩
  rw [← hNM] at ptM sfM ctM lnM leM
  have HNM := hid hNM
  clear hBM hNM okM hMe
  obtain ⟨llM, hllM⟩ : ∃ z, z = m.log.length := ⟨_, rfl⟩
  rw [← hllM] at sfM smM
  clear hllM hn
  generalize pE r.ok r.b = erR at *
  have nzR : (erR == 0) = false := by simp [hRe]
  clear hRe hp
  obtain ⟨mkd, mfr, mtt, mvw, mop, mcm, mnm, LM⟩ := m
  simp only at *
  obtain ⟨rkd, rvw, rnm, rop, LR⟩ := r
  simp only at *
  obtain ⟨W0, hW0⟩ : ∃ W, W = (w.alloc (.cells #[.int .i64 mkd, .int .i64 mfr, .int .i64 mtt, .int .i64 mvw, .int .i64 mop, .int .i64 mcm, .int .i64 mnm, .slice a n c] 24)).alloc (.cells #[.int .i64 rkd, .int .i64 rvw, .int .i64 rnm, .int .i64 rop, .slice b p d] 48) := ⟨_, rfl⟩
  have hb0 : Below w.heap.size w W0 := by rw [hW0]; exact (two_boxes _ _ _ _ _).2
  have bxM0 : W0.heap[w.heap.size]? = some (.cells #[.int .i64 mkd, .int .i64 mfr, .int .i64 mtt, .int .i64 mvw, .int .i64 mop, .int .i64 mcm, .int .i64 mnm, .slice a n c] 24 (0, 0)) := by rw [hW0, Below.heap_alloc _ _ _ (by simp)]; exact heap_alloc_new w _
  have bxR0 : W0.heap[w.heap.size + 1]? = some (.cells #[.int .i64 rkd, .int .i64 rvw, .int .i64 rnm, .int .i64 rop, .slice b p d] 48 (0, 0)) := by rw [hW0]; exact (two_boxes _ _ _ _ _).1
  have bxM : ∀ W, Below W0.heap.size W0 W → (W.cell? ⟨w.heap.size, 0, none⟩ = some (.int .i64 mkd) ∧ W.cell? ⟨w.heap.size, 1, none⟩ = some (.int .i64 mfr) ∧ W.cell? ⟨w.heap.size, 2, none⟩ = some (.int .i64 mtt) ∧ W.cell? ⟨w.heap.size, 3, none⟩ = some (.int .i64 mvw) ∧ W.cell? ⟨w.heap.size, 4, none⟩ = some (.int .i64 mop) ∧ W.cell? ⟨w.heap.size, 5, none⟩ = some (.int .i64 mcm) ∧ W.cell? ⟨w.heap.size, 6, none⟩ = some (.int .i64 mnm) ∧ W.cell? ⟨w.heap.size, 7, none⟩ = some (.slice a n c)) ∧ w.heap.size < W.heap.size := fun W h => by
    have e := (h.block _ (lt_of_block bxM0)).trans bxM0
    refine ⟨⟨?_, ?_, ?_, ?_, ?_, ?_, ?_, ?_⟩, lt_of_block e⟩ <;> (rw [Lib.cell_of_heap e]; rfl)
  have bxR : ∀ W, Below W0.heap.size W0 W → (W.cell? ⟨w.heap.size + 1, 0, none⟩ = some (.int .i64 rkd) ∧ W.cell? ⟨w.heap.size + 1, 1, none⟩ = some (.int .i64 rvw) ∧ W.cell? ⟨w.heap.size + 1, 2, none⟩ = some (.int .i64 rnm) ∧ W.cell? ⟨w.heap.size + 1, 3, none⟩ = some (.int .i64 rop) ∧ W.cell? ⟨w.heap.size + 1, 4, none⟩ = some (.slice b p d)) ∧ w.heap.size + 1 < W.heap.size := fun W h => by
    have e := (h.block _ (lt_of_block bxR0)).trans bxR0
    refine ⟨⟨?_, ?_, ?_, ?_, ?_⟩, lt_of_block e⟩ <;> (rw [Lib.cell_of_heap e]; rfl)
  have lift : ∀ W, Below W0.heap.size W0 W → Below w.heap.size w W := fun W h => hb0.trans (h.mono hb0.size)
  have hbz : Below W0.heap.size W0 W0 := Below.refl _ _
  clear bxM0 bxR0
  go_enter Try.func6, Try.ntmps6
  go_wp2_with fail
  rw [← hW0]
  clear hW0
  refine (mkM W0 (lift _ hbz)).mono ?_
  rintro e wM1 ⟨⟨vaM, vcM, rfl, hEM⟩, hbM1'⟩
  have hbM1 := hbz.trans (hbM1'.mono hbz.size)
  clear hbM1'
  have hPtM := ptM wM1 vaM vcM hEM
  clear ptM hEM
  go_wp2_with (first | (go_at_call 11; refine hPtM.mono ?_; clear hPtM; rintro e wM2 ⟨⟨aoM, cpM, rfl, hXM, hxcM⟩, hbM2'⟩; have hbM2 := hbM1.trans (hbM2'.mono hbM1.size); clear hbM2') | (go_at_call 17; refine (num17_any _ _).mono ?_; rintro e w' ⟨rfl, hw'⟩; replace hw' := hw'.symm; subst hw'))
  have hGM := sfM wM2 aoM cpM hXM
  clear sfM
  refine hGM.mono ?_
  clear hGM
  rintro e wM3 ⟨⟨uM, ucM, rfl, hUM⟩, hbM3'⟩
  have hbM3 := hbM2.trans (hbM3'.mono hbM2.size)
  replace hXM := hXM.keep (below_keep hbM3')
  obtain ⟨VM, hVM⟩ : ∃ W, W = wM3.alloc (.cells #[.int .i64 mkd, .int .i64 mfr, .int .i64 mtt, .int .i64 mvw, .int .i64 mop, .int .i64 mcm, .int .i64 mnm, .slice uM llM ucM] 29) := ⟨_, rfl⟩
  have hvM : Below wM3.heap.size wM3 VM := by rw [hVM]; exact (Below.refl _ _).alloc (Nat.le_refl _) _
  obtain ⟨XM, hXXM⟩ : ∃ z, z = wM3.heap.size := ⟨_, rfl⟩
  have bXM : VM.heap[XM]? = some (.cells #[.int .i64 mkd, .int .i64 mfr, .int .i64 mtt, .int .i64 mvw, .int .i64 mop, .int .i64 mcm, .int .i64 mnm, .slice uM llM ucM] 29 (0, 0)) := by rw [hVM, hXXM]; exact heap_alloc_new wM3 _
  have hbM6 := hbM3.trans (hvM.mono hbM3.size)
  replace hXM := hXM.keep (below_keep hvM)
  replace hUM := hUM.keep (below_keep hvM)
  have hO0 : OwnB (VM.alloc (.cells #[] 5)) VM.heap.size (.slice (some ⟨VM.heap.size, 0, none⟩) 0 0) [] := World.ownsRow_lit VM #[] 0 (Nat.le_refl _) (Nat.zero_le _) rfl
  have hb7 : Below VM.heap.size VM (VM.alloc (.cells #[] 5)) := (Below.refl _ _).alloc (Nat.le_refl _) _
  have hSrc := src_bs (P := Try.prog) _ Try.underlying25 (hXM.keep (below_keep hb7)) cpM
  rw [← HNM.out] at hSrc
  go_upto_region 4 with fail
  rw [← hVM, ← hXXM]
  clear hVM hXXM
  go_wp2_with (first | (at_builtin; first | (refine wpList_app _ rfl _ _ _ _ rfl elem_u8 VM.heap.size _ _ rfl hO0 _ rfl (BM.map bv) hSrc (by simp only [List.length_map, ← HNM.out]; unfold maxLen; simp; omega) (by simp only [List.length_map, ← HNM.out]; simp; omega) (by simp) ?_; intro v8 w8 ho8 hs8; clear hO0 hSrc; have hO8 : OwnB w8 VM.heap.size v8 BM := (by simpa [OwnB] using ho8); have hO8a := Own.alloc hO8 (.cells #[.int .u8 (x.toNat : Int)] 5); have hS8 := src_one (P := Try.prog) w8 Try.underlying25 (.int .u8 (x.toNat : Int)) (bv x) 5 rfl rfl 1; have hb8 : Below VM.heap.size VM w8 := hb7.trans (hs8.below hb7.size fun k e => by cases e; exact Nat.le_refl _); have z8 := hb8.size) | (refine wpList_app _ rfl _ _ _ _ rfl elem_u8 VM.heap.size _ _ rfl hO8a _ rfl [bv x] hS8 (by simp only [List.length_map, List.length_cons, List.length_nil, ← HNM.out]; unfold maxLen; omega) (by simp only [List.length_map, List.length_cons, List.length_nil, ← HNM.out]; omega) (by simp; omega) ?_; intro v9 w9 ho9 hs9; clear hO8a hS8; have hO9 : OwnB w9 VM.heap.size v9 (BM ++ [x]) := (by simpa [OwnB] using ho9); obtain ⟨a9, c9, rfl, l9, m9, hB9, _, _⟩ := Own.bs hO9)))
  have hb9 : Below VM.heap.size VM w9 := (hb8.alloc z8 (.cells #[.int .u8 (x.toNat : Int)] 5)).trans (hs9.below (by simp; omega) fun k e => (Own.lt hO8 k e).1)
  replace hXM := hXM.keep (below_keep hb9)
  have hG9 := moM x w9 a9 (BM.length + 1) c9 (by simp) hB9
  clear moM
  refine hG9.mono ?_
  rintro e wM10 ⟨rfl, hb10'⟩
  clear hG9
  have hb10 := hb9.trans (hb10'.mono hb9.size)
  have hb11 := hb10.alloc hb10.size (.cells #[.int .i64 0, .int .i64 0, .int .i64 0, .int .i64 0, .int .i64 0, .int .i64 0, .int .i64 0, .slice none 0 0] 29)
  replace hXM := (hXM.keep (below_keep hb10')).keep (keep_alloc _ (.cells #[.int .i64 0, .int .i64 0, .int .i64 0, .int .i64 0, .int .i64 0, .int .i64 0, .int .i64 0, .slice none 0 0] 29))
  have hG11 := ctM (NM - 1) (by omega) _ aoM (NM - 1) cpM (by rw [List.length_take, ← HNM.out]; omega) (bs_take hXM (NM - 1))
  clear ctM
  have hlen : (0 : Int) ≤ (NM : Int) - 1 := by omega
  have hlen2 : (NM : Int) - 1 ≤ (cpM : Int) := by omega
  have hton : ((NM : Int) - 1).toNat = NM - 1 := by omega
  go_wp2_with fail
  refine hG11.mono ?_
  rintro e wM12 ⟨rfl, hb12'⟩
  clear hG11
  have hb12 := hb11.trans (hb12'.mono hb11.size)
  obtain ⟨ZM, hZM⟩ : ∃ W, W = wM12.alloc (.cells #[.int .i64 0, .int .i64 0, .int .i64 0, .int .i64 0, .int .i64 0, .int .i64 0, .int .i64 0, .slice none 0 0] 29) := ⟨_, rfl⟩
  have hb13 : Below VM.heap.size VM ZM := by rw [hZM]; exact hb12.alloc hb12.size _
  have hbM13 := hbM6.trans (hb13.mono hbM6.size)
  have hU13 := fun W (h : Below ZM.heap.size ZM W) => hUM.keep (below_keep (hb13.trans (h.mono hb13.size)))
  have bX13 := (hb13.block _ (lt_of_block bXM)).trans bXM
  have hS13 : ∀ W, Below ZM.heap.size ZM W → ((W.cell? ⟨XM, 0, none⟩ = some (.int .i64 mkd) ∧ W.cell? ⟨XM, 1, none⟩ = some (.int .i64 mfr) ∧ W.cell? ⟨XM, 2, none⟩ = some (.int .i64 mtt) ∧ W.cell? ⟨XM, 3, none⟩ = some (.int .i64 mvw) ∧ W.cell? ⟨XM, 4, none⟩ = some (.int .i64 mop) ∧ W.cell? ⟨XM, 5, none⟩ = some (.int .i64 mcm) ∧ W.cell? ⟨XM, 6, none⟩ = some (.int .i64 mnm) ∧ W.cell? ⟨XM, 7, none⟩ = some (.slice uM llM ucM)) ∧ XM < W.heap.size) ∧ ((W.cell? ⟨w.heap.size, 0, none⟩ = some (.int .i64 mkd) ∧ W.cell? ⟨w.heap.size, 1, none⟩ = some (.int .i64 mfr) ∧ W.cell? ⟨w.heap.size, 2, none⟩ = some (.int .i64 mtt) ∧ W.cell? ⟨w.heap.size, 3, none⟩ = some (.int .i64 mvw) ∧ W.cell? ⟨w.heap.size, 4, none⟩ = some (.int .i64 mop) ∧ W.cell? ⟨w.heap.size, 5, none⟩ = some (.int .i64 mcm) ∧ W.cell? ⟨w.heap.size, 6, none⟩ = some (.int .i64 mnm) ∧ W.cell? ⟨w.heap.size, 7, none⟩ = some (.slice a n c)) ∧ w.heap.size < W.heap.size) := fun W h => by
    have e := (h.block _ (lt_of_block bX13)).trans bX13
    refine ⟨⟨⟨?_, ?_, ?_, ?_, ?_, ?_, ?_, ?_⟩, lt_of_block e⟩, bxM W (hbM13.trans (h.mono hbM13.size))⟩ <;> (rw [Lib.cell_of_heap e]; rfl)
  have hMk := fun W (h : Below ZM.heap.size ZM W) => mkM W (lift _ (hbM13.trans (h.mono hbM13.size)))
  clear mkM hO8 hO9 hB9 hs9 hs8 ho8 ho9 hb7 hb8 hb9 hb10 hb11 hb10' hb12' hb12 hXM hUM bXM bX13 hton hlen hlen2 hbM3'
  have h0 : Below ZM.heap.size ZM ZM := Below.refl _ _
  have h1 : Below ZM.heap.size ZM ZM.drew := (Below.refl _ _).drew
  obtain ⟨⟨⟨qM0, qM1, qM2, qM3, qM4, qM5, qM6, qM7⟩, qxl⟩, ⟨mM0, mM1, mM2, mM3, mM4, mM5, mM6, mM7⟩, qml⟩ := hS13 ZM h0
  go_upto_region 6 with fail
  rw [← hZM]
  clear hZM
  go_region_held3 (fun W => ((W.cell? ⟨XM, 0, none⟩ = some (.int .i64 mkd) ∧ W.cell? ⟨XM, 1, none⟩ = some (.int .i64 mfr) ∧ W.cell? ⟨XM, 2, none⟩ = some (.int .i64 mtt) ∧ W.cell? ⟨XM, 3, none⟩ = some (.int .i64 mvw) ∧ W.cell? ⟨XM, 4, none⟩ = some (.int .i64 mop) ∧ W.cell? ⟨XM, 5, none⟩ = some (.int .i64 mcm) ∧ W.cell? ⟨XM, 6, none⟩ = some (.int .i64 mnm) ∧ W.cell? ⟨XM, 7, none⟩ = some (.slice uM llM ucM)) ∧ XM < W.heap.size) ∧ ((W.cell? ⟨w.heap.size, 0, none⟩ = some (.int .i64 mkd) ∧ W.cell? ⟨w.heap.size, 1, none⟩ = some (.int .i64 mfr) ∧ W.cell? ⟨w.heap.size, 2, none⟩ = some (.int .i64 mtt) ∧ W.cell? ⟨w.heap.size, 3, none⟩ = some (.int .i64 mvw) ∧ W.cell? ⟨w.heap.size, 4, none⟩ = some (.int .i64 mop) ∧ W.cell? ⟨w.heap.size, 5, none⟩ = some (.int .i64 mcm) ∧ W.cell? ⟨w.heap.size, 6, none⟩ = some (.int .i64 mnm) ∧ W.cell? ⟨w.heap.size, 7, none⟩ = some (.slice a n c)) ∧ w.heap.size < W.heap.size)) (first | go_keep | exact hS13 _ h15 | exact hS13 _ h14 | exact hS13 _ h1 | exact hS13 _ h0) (first
    | (go_at_call 17; refine (num17_any _ _).mono ?_; rintro e w' ⟨rfl, hw'⟩; replace hw' := hw'.symm; subst hw')
    | (go_at_call 10; refine (hMk _ h1).mono ?_; clear hMk; rintro e wM14 ⟨⟨ta, tc, rfl, hT⟩, h14'⟩; have h14 := h1.trans (h14'.mono h1.size); clear h14'; have hSm := smM wM14 uM ucM ta tc (hU13 _ h14) hT; clear smM hU13 hT)
    | (go_at_call 18; refine hSm.mono ?_; clear hSm; rintro e wM15 ⟨rfl, h15'⟩; have h15 := h14.trans (h15'.mono h14.size); clear h15'; have hbM15 := hbM13.trans (h15.mono hbM13.size); obtain ⟨⟨z0, z1, z2, z3, z4⟩, zl⟩ := bxR wM15 hbM15))
  go_wp2_with (first | (go_at_call 21; refine (mkR wM15 (lift _ hbM15)).mono ?_; clear mkR; rintro e wR1 ⟨⟨vaR, vcR, rfl, hER⟩, hbR1'⟩; have hbR1 := hbM15.trans (hbR1'.mono hbM15.size); clear hbR1'; have hPtR := ptR wR1 vaR vcR hER; clear ptR hER) | (go_at_call 22; refine hPtR.mono ?_; clear hPtR; rintro e wR2 ⟨⟨aoR, lnR, cpR, rfl⟩, hbR2'⟩; have hbR2 := hbR1.trans (hbR2'.mono hbR1.size); clear hbR2'; skip) | (go_at_call 17; refine (num17_any _ _).mono ?_; rintro e w' ⟨rfl, hw'⟩; replace hw' := hw'.symm; subst hw') | (go_at_call 20; refine (hKn _).mono ?_; rintro e wz ⟨rfl, hbz'⟩; have hbzz := hbR2.trans (hbz'.mono hbR2.size)))
  go_ret
  exact ⟨rfl, lift _ hbzz⟩
set_option maxRecDepth 100000 in
set_option maxHeartbeats 4000000 in
theorem back17_yy (m : Msg) (r : Rec17) (x : UInt8) (a : Option Addr) (n c : Nat) (b : Option Addr) (p d : Nat) (w : World) (hn : m.log.length = n) (hp : r.log.length = p) (hN : EsAt w.cell? a m.log) (hP : EsAt w.cell? b r.log) (hf : FairL m.log) (hg : FairL r.log) (hMe : pE m.ok m.b = 0) (hRe : pE r.ok r.b = 0) :
    Calls Try.prog 6 #[msgV m.kd m.fr m.tt m.vw m.op m.cm m.nm (.slice a n c), recV r.kd r.vw r.nm r.op (.slice b p d), .int .u8 (x.toNat : Int)] w fun e w' => e = .returned (.bool true) ∧ Below w.heap.size w w' := by
  have mkM := mkM_any m a n c w hn hN hf
  have ptM : ∀ W va vc, EsAt W.cell? va m.log → Calls Try.prog 11 #[msgV m.kd m.fr m.tt m.vw m.op m.cm m.nm (.slice va n vc)] W (PutYes m.b m.b.length W) := fun W va vc hE => (put17_any m va n vc W hn hE hf.1).mono fun e w' h => h.yes hMe
  obtain ⟨okM, leM, _⟩ := pE_yes hMe
  have sfM := getM_self m okM leM
  have moM := fun (y : UInt8) => getM_no (readOk_more (ok := Msg.ok) (gMsg_reads okM) y) (by simp; omega)
  have ctM := fun k (hk : k < m.b.length) => getM_no (readOk_cut (ok := Msg.ok) (gMsg_reads okM) gMsg_steady k hk) (by rw [List.length_take]; omega)
  have lnM := msgB_len m
  have smM : ∀ W ua uc va vc, EsAt W.cell? ua m.log → EsAt W.cell? va m.log → Calls Try.prog 18 #[msgV m.kd m.fr m.tt m.vw m.op m.cm m.nm (.slice ua m.log.length uc), msgV m.kd m.fr m.tt m.vw m.op m.cm m.nm (.slice va n vc)] W fun e w' => e = .returned (.bool true) ∧ Below W.heap.size W w' := fun W ua uc va vc h1 h2 => by
    have := sameMsg_any m m ua _ uc va n vc W rfl hn h1 h2 (Nat.le_trans hf.2 (by decide)) (by rw [← hn]; exact Nat.le_trans hf.2 (by decide))
    rw [decide_eq_true rfl] at this
    exact this
  have mkR := mkR_any r b p d w hp hP hg
  have ptR : ∀ W va vc, EsAt W.cell? va r.log → Calls Try.prog 22 #[recV r.kd r.vw r.nm r.op (.slice va p vc)] W (PutYes r.b r.b.length W) := fun W va vc hE => (putRec17_any r va p vc W hp hE hg.1).mono fun e w' h => h.yes hRe
  obtain ⟨okR, leR, _⟩ := pE_yes hRe
  have sfR := getR_self r okR leR
  have moR := fun (y : UInt8) => getR_no (readOk_more (ok := Rec17.ok) (gRec_reads okR) y) (by simp; omega)
  have ctR := fun k (hk : k < r.b.length) => getR_no (readOk_cut (ok := Rec17.ok) (gRec_reads okR) gRec_steady k hk) (by rw [List.length_take]; omega)
  have lnR := recB_len r
  have smR : ∀ W ua uc va vc, EsAt W.cell? ua r.log → EsAt W.cell? va r.log → Calls Try.prog 28 #[recV r.kd r.vw r.nm r.op (.slice ua r.log.length uc), recV r.kd r.vw r.nm r.op (.slice va p vc)] W fun e w' => e = .returned (.bool true) ∧ Below W.heap.size W w' := fun W ua uc va vc h1 h2 => by
    have := sameRec_any r r ua _ uc va p vc W rfl hp h1 h2 (Nat.le_trans hg.2 (by decide)) (by rw [← hp]; exact Nat.le_trans hg.2 (by decide))
    rw [decide_eq_true rfl] at this
    exact this
  have hKn := knows17_any
  clear hf hg hN hP
  obtain ⟨BM, hBM⟩ : ∃ z, z = m.b := ⟨_, rfl⟩
  rw [← hBM] at ptM sfM moM ctM lnM leM
  obtain ⟨NM, hNM⟩ : ∃ z, z = BM.length := ⟨_, rfl⟩
  rw [← hNM] at ptM sfM ctM lnM leM
  have HNM := hid hNM
  clear hBM hNM okM hMe
  obtain ⟨llM, hllM⟩ : ∃ z, z = m.log.length := ⟨_, rfl⟩
  rw [← hllM] at sfM smM
  clear hllM hn
  obtain ⟨BR, hBR⟩ : ∃ z, z = r.b := ⟨_, rfl⟩
  rw [← hBR] at ptR sfR moR ctR lnR leR
  obtain ⟨NR, hNR⟩ : ∃ z, z = BR.length := ⟨_, rfl⟩
  rw [← hNR] at ptR sfR ctR lnR leR
  have HNR := hid hNR
  clear hBR hNR okR hRe
  obtain ⟨llR, hllR⟩ : ∃ z, z = r.log.length := ⟨_, rfl⟩
  rw [← hllR] at sfR smR
  clear hllR hp
  obtain ⟨mkd, mfr, mtt, mvw, mop, mcm, mnm, LM⟩ := m
  simp only at *
  obtain ⟨rkd, rvw, rnm, rop, LR⟩ := r
  simp only at *
  obtain ⟨W0, hW0⟩ : ∃ W, W = (w.alloc (.cells #[.int .i64 mkd, .int .i64 mfr, .int .i64 mtt, .int .i64 mvw, .int .i64 mop, .int .i64 mcm, .int .i64 mnm, .slice a n c] 24)).alloc (.cells #[.int .i64 rkd, .int .i64 rvw, .int .i64 rnm, .int .i64 rop, .slice b p d] 48) := ⟨_, rfl⟩
  have hb0 : Below w.heap.size w W0 := by rw [hW0]; exact (two_boxes _ _ _ _ _).2
  have bxM0 : W0.heap[w.heap.size]? = some (.cells #[.int .i64 mkd, .int .i64 mfr, .int .i64 mtt, .int .i64 mvw, .int .i64 mop, .int .i64 mcm, .int .i64 mnm, .slice a n c] 24 (0, 0)) := by rw [hW0, Below.heap_alloc _ _ _ (by simp)]; exact heap_alloc_new w _
  have bxR0 : W0.heap[w.heap.size + 1]? = some (.cells #[.int .i64 rkd, .int .i64 rvw, .int .i64 rnm, .int .i64 rop, .slice b p d] 48 (0, 0)) := by rw [hW0]; exact (two_boxes _ _ _ _ _).1
  have bxM : ∀ W, Below W0.heap.size W0 W → (W.cell? ⟨w.heap.size, 0, none⟩ = some (.int .i64 mkd) ∧ W.cell? ⟨w.heap.size, 1, none⟩ = some (.int .i64 mfr) ∧ W.cell? ⟨w.heap.size, 2, none⟩ = some (.int .i64 mtt) ∧ W.cell? ⟨w.heap.size, 3, none⟩ = some (.int .i64 mvw) ∧ W.cell? ⟨w.heap.size, 4, none⟩ = some (.int .i64 mop) ∧ W.cell? ⟨w.heap.size, 5, none⟩ = some (.int .i64 mcm) ∧ W.cell? ⟨w.heap.size, 6, none⟩ = some (.int .i64 mnm) ∧ W.cell? ⟨w.heap.size, 7, none⟩ = some (.slice a n c)) ∧ w.heap.size < W.heap.size := fun W h => by
    have e := (h.block _ (lt_of_block bxM0)).trans bxM0
    refine ⟨⟨?_, ?_, ?_, ?_, ?_, ?_, ?_, ?_⟩, lt_of_block e⟩ <;> (rw [Lib.cell_of_heap e]; rfl)
  have bxR : ∀ W, Below W0.heap.size W0 W → (W.cell? ⟨w.heap.size + 1, 0, none⟩ = some (.int .i64 rkd) ∧ W.cell? ⟨w.heap.size + 1, 1, none⟩ = some (.int .i64 rvw) ∧ W.cell? ⟨w.heap.size + 1, 2, none⟩ = some (.int .i64 rnm) ∧ W.cell? ⟨w.heap.size + 1, 3, none⟩ = some (.int .i64 rop) ∧ W.cell? ⟨w.heap.size + 1, 4, none⟩ = some (.slice b p d)) ∧ w.heap.size + 1 < W.heap.size := fun W h => by
    have e := (h.block _ (lt_of_block bxR0)).trans bxR0
    refine ⟨⟨?_, ?_, ?_, ?_, ?_⟩, lt_of_block e⟩ <;> (rw [Lib.cell_of_heap e]; rfl)
  have lift : ∀ W, Below W0.heap.size W0 W → Below w.heap.size w W := fun W h => hb0.trans (h.mono hb0.size)
  have hbz : Below W0.heap.size W0 W0 := Below.refl _ _
  clear bxM0 bxR0
  go_enter Try.func6, Try.ntmps6
  go_wp2_with fail
  rw [← hW0]
  clear hW0
  refine (mkM W0 (lift _ hbz)).mono ?_
  rintro e wM1 ⟨⟨vaM, vcM, rfl, hEM⟩, hbM1'⟩
  have hbM1 := hbz.trans (hbM1'.mono hbz.size)
  clear hbM1'
  have hPtM := ptM wM1 vaM vcM hEM
  clear ptM hEM
  go_wp2_with (first | (go_at_call 11; refine hPtM.mono ?_; clear hPtM; rintro e wM2 ⟨⟨aoM, cpM, rfl, hXM, hxcM⟩, hbM2'⟩; have hbM2 := hbM1.trans (hbM2'.mono hbM1.size); clear hbM2') | (go_at_call 17; refine (num17_any _ _).mono ?_; rintro e w' ⟨rfl, hw'⟩; replace hw' := hw'.symm; subst hw'))
  have hGM := sfM wM2 aoM cpM hXM
  clear sfM
  refine hGM.mono ?_
  clear hGM
  rintro e wM3 ⟨⟨uM, ucM, rfl, hUM⟩, hbM3'⟩
  have hbM3 := hbM2.trans (hbM3'.mono hbM2.size)
  replace hXM := hXM.keep (below_keep hbM3')
  obtain ⟨VM, hVM⟩ : ∃ W, W = wM3.alloc (.cells #[.int .i64 mkd, .int .i64 mfr, .int .i64 mtt, .int .i64 mvw, .int .i64 mop, .int .i64 mcm, .int .i64 mnm, .slice uM llM ucM] 29) := ⟨_, rfl⟩
  have hvM : Below wM3.heap.size wM3 VM := by rw [hVM]; exact (Below.refl _ _).alloc (Nat.le_refl _) _
  obtain ⟨XM, hXXM⟩ : ∃ z, z = wM3.heap.size := ⟨_, rfl⟩
  have bXM : VM.heap[XM]? = some (.cells #[.int .i64 mkd, .int .i64 mfr, .int .i64 mtt, .int .i64 mvw, .int .i64 mop, .int .i64 mcm, .int .i64 mnm, .slice uM llM ucM] 29 (0, 0)) := by rw [hVM, hXXM]; exact heap_alloc_new wM3 _
  have hbM6 := hbM3.trans (hvM.mono hbM3.size)
  replace hXM := hXM.keep (below_keep hvM)
  replace hUM := hUM.keep (below_keep hvM)
  have hO0 : OwnB (VM.alloc (.cells #[] 5)) VM.heap.size (.slice (some ⟨VM.heap.size, 0, none⟩) 0 0) [] := World.ownsRow_lit VM #[] 0 (Nat.le_refl _) (Nat.zero_le _) rfl
  have hb7 : Below VM.heap.size VM (VM.alloc (.cells #[] 5)) := (Below.refl _ _).alloc (Nat.le_refl _) _
  have hSrc := src_bs (P := Try.prog) _ Try.underlying25 (hXM.keep (below_keep hb7)) cpM
  rw [← HNM.out] at hSrc
  go_upto_region 4 with fail
  rw [← hVM, ← hXXM]
  clear hVM hXXM
  go_wp2_with (first | (at_builtin; first | (refine wpList_app _ rfl _ _ _ _ rfl elem_u8 VM.heap.size _ _ rfl hO0 _ rfl (BM.map bv) hSrc (by simp only [List.length_map, ← HNM.out]; unfold maxLen; simp; omega) (by simp only [List.length_map, ← HNM.out]; simp; omega) (by simp) ?_; intro v8 w8 ho8 hs8; clear hO0 hSrc; have hO8 : OwnB w8 VM.heap.size v8 BM := (by simpa [OwnB] using ho8); have hO8a := Own.alloc hO8 (.cells #[.int .u8 (x.toNat : Int)] 5); have hS8 := src_one (P := Try.prog) w8 Try.underlying25 (.int .u8 (x.toNat : Int)) (bv x) 5 rfl rfl 1; have hb8 : Below VM.heap.size VM w8 := hb7.trans (hs8.below hb7.size fun k e => by cases e; exact Nat.le_refl _); have z8 := hb8.size) | (refine wpList_app _ rfl _ _ _ _ rfl elem_u8 VM.heap.size _ _ rfl hO8a _ rfl [bv x] hS8 (by simp only [List.length_map, List.length_cons, List.length_nil, ← HNM.out]; unfold maxLen; omega) (by simp only [List.length_map, List.length_cons, List.length_nil, ← HNM.out]; omega) (by simp; omega) ?_; intro v9 w9 ho9 hs9; clear hO8a hS8; have hO9 : OwnB w9 VM.heap.size v9 (BM ++ [x]) := (by simpa [OwnB] using ho9); obtain ⟨a9, c9, rfl, l9, m9, hB9, _, _⟩ := Own.bs hO9)))
  have hb9 : Below VM.heap.size VM w9 := (hb8.alloc z8 (.cells #[.int .u8 (x.toNat : Int)] 5)).trans (hs9.below (by simp; omega) fun k e => (Own.lt hO8 k e).1)
  replace hXM := hXM.keep (below_keep hb9)
  have hG9 := moM x w9 a9 (BM.length + 1) c9 (by simp) hB9
  clear moM
  refine hG9.mono ?_
  rintro e wM10 ⟨rfl, hb10'⟩
  clear hG9
  have hb10 := hb9.trans (hb10'.mono hb9.size)
  have hb11 := hb10.alloc hb10.size (.cells #[.int .i64 0, .int .i64 0, .int .i64 0, .int .i64 0, .int .i64 0, .int .i64 0, .int .i64 0, .slice none 0 0] 29)
  replace hXM := (hXM.keep (below_keep hb10')).keep (keep_alloc _ (.cells #[.int .i64 0, .int .i64 0, .int .i64 0, .int .i64 0, .int .i64 0, .int .i64 0, .int .i64 0, .slice none 0 0] 29))
  have hG11 := ctM (NM - 1) (by omega) _ aoM (NM - 1) cpM (by rw [List.length_take, ← HNM.out]; omega) (bs_take hXM (NM - 1))
  clear ctM
  have hlen : (0 : Int) ≤ (NM : Int) - 1 := by omega
  have hlen2 : (NM : Int) - 1 ≤ (cpM : Int) := by omega
  have hton : ((NM : Int) - 1).toNat = NM - 1 := by omega
  go_wp2_with fail
  refine hG11.mono ?_
  rintro e wM12 ⟨rfl, hb12'⟩
  clear hG11
  have hb12 := hb11.trans (hb12'.mono hb11.size)
  obtain ⟨ZM, hZM⟩ : ∃ W, W = wM12.alloc (.cells #[.int .i64 0, .int .i64 0, .int .i64 0, .int .i64 0, .int .i64 0, .int .i64 0, .int .i64 0, .slice none 0 0] 29) := ⟨_, rfl⟩
  have hb13 : Below VM.heap.size VM ZM := by rw [hZM]; exact hb12.alloc hb12.size _
  have hbM13 := hbM6.trans (hb13.mono hbM6.size)
  have hU13 := fun W (h : Below ZM.heap.size ZM W) => hUM.keep (below_keep (hb13.trans (h.mono hb13.size)))
  have bX13 := (hb13.block _ (lt_of_block bXM)).trans bXM
  have hS13 : ∀ W, Below ZM.heap.size ZM W → ((W.cell? ⟨XM, 0, none⟩ = some (.int .i64 mkd) ∧ W.cell? ⟨XM, 1, none⟩ = some (.int .i64 mfr) ∧ W.cell? ⟨XM, 2, none⟩ = some (.int .i64 mtt) ∧ W.cell? ⟨XM, 3, none⟩ = some (.int .i64 mvw) ∧ W.cell? ⟨XM, 4, none⟩ = some (.int .i64 mop) ∧ W.cell? ⟨XM, 5, none⟩ = some (.int .i64 mcm) ∧ W.cell? ⟨XM, 6, none⟩ = some (.int .i64 mnm) ∧ W.cell? ⟨XM, 7, none⟩ = some (.slice uM llM ucM)) ∧ XM < W.heap.size) ∧ ((W.cell? ⟨w.heap.size, 0, none⟩ = some (.int .i64 mkd) ∧ W.cell? ⟨w.heap.size, 1, none⟩ = some (.int .i64 mfr) ∧ W.cell? ⟨w.heap.size, 2, none⟩ = some (.int .i64 mtt) ∧ W.cell? ⟨w.heap.size, 3, none⟩ = some (.int .i64 mvw) ∧ W.cell? ⟨w.heap.size, 4, none⟩ = some (.int .i64 mop) ∧ W.cell? ⟨w.heap.size, 5, none⟩ = some (.int .i64 mcm) ∧ W.cell? ⟨w.heap.size, 6, none⟩ = some (.int .i64 mnm) ∧ W.cell? ⟨w.heap.size, 7, none⟩ = some (.slice a n c)) ∧ w.heap.size < W.heap.size) := fun W h => by
    have e := (h.block _ (lt_of_block bX13)).trans bX13
    refine ⟨⟨⟨?_, ?_, ?_, ?_, ?_, ?_, ?_, ?_⟩, lt_of_block e⟩, bxM W (hbM13.trans (h.mono hbM13.size))⟩ <;> (rw [Lib.cell_of_heap e]; rfl)
  have hMk := fun W (h : Below ZM.heap.size ZM W) => mkM W (lift _ (hbM13.trans (h.mono hbM13.size)))
  clear mkM hO8 hO9 hB9 hs9 hs8 ho8 ho9 hb7 hb8 hb9 hb10 hb11 hb10' hb12' hb12 hXM hUM bXM bX13 hton hlen hlen2 hbM3'
  have h0 : Below ZM.heap.size ZM ZM := Below.refl _ _
  have h1 : Below ZM.heap.size ZM ZM.drew := (Below.refl _ _).drew
  obtain ⟨⟨⟨qM0, qM1, qM2, qM3, qM4, qM5, qM6, qM7⟩, qxl⟩, ⟨mM0, mM1, mM2, mM3, mM4, mM5, mM6, mM7⟩, qml⟩ := hS13 ZM h0
  go_upto_region 6 with fail
  rw [← hZM]
  clear hZM
  go_region_held3 (fun W => ((W.cell? ⟨XM, 0, none⟩ = some (.int .i64 mkd) ∧ W.cell? ⟨XM, 1, none⟩ = some (.int .i64 mfr) ∧ W.cell? ⟨XM, 2, none⟩ = some (.int .i64 mtt) ∧ W.cell? ⟨XM, 3, none⟩ = some (.int .i64 mvw) ∧ W.cell? ⟨XM, 4, none⟩ = some (.int .i64 mop) ∧ W.cell? ⟨XM, 5, none⟩ = some (.int .i64 mcm) ∧ W.cell? ⟨XM, 6, none⟩ = some (.int .i64 mnm) ∧ W.cell? ⟨XM, 7, none⟩ = some (.slice uM llM ucM)) ∧ XM < W.heap.size) ∧ ((W.cell? ⟨w.heap.size, 0, none⟩ = some (.int .i64 mkd) ∧ W.cell? ⟨w.heap.size, 1, none⟩ = some (.int .i64 mfr) ∧ W.cell? ⟨w.heap.size, 2, none⟩ = some (.int .i64 mtt) ∧ W.cell? ⟨w.heap.size, 3, none⟩ = some (.int .i64 mvw) ∧ W.cell? ⟨w.heap.size, 4, none⟩ = some (.int .i64 mop) ∧ W.cell? ⟨w.heap.size, 5, none⟩ = some (.int .i64 mcm) ∧ W.cell? ⟨w.heap.size, 6, none⟩ = some (.int .i64 mnm) ∧ W.cell? ⟨w.heap.size, 7, none⟩ = some (.slice a n c)) ∧ w.heap.size < W.heap.size)) (first | go_keep | exact hS13 _ h15 | exact hS13 _ h14 | exact hS13 _ h1 | exact hS13 _ h0) (first
    | (go_at_call 17; refine (num17_any _ _).mono ?_; rintro e w' ⟨rfl, hw'⟩; replace hw' := hw'.symm; subst hw')
    | (go_at_call 10; refine (hMk _ h1).mono ?_; clear hMk; rintro e wM14 ⟨⟨ta, tc, rfl, hT⟩, h14'⟩; have h14 := h1.trans (h14'.mono h1.size); clear h14'; have hSm := smM wM14 uM ucM ta tc (hU13 _ h14) hT; clear smM hU13 hT)
    | (go_at_call 18; refine hSm.mono ?_; clear hSm; rintro e wM15 ⟨rfl, h15'⟩; have h15 := h14.trans (h15'.mono h14.size); clear h15'; have hbM15 := hbM13.trans (h15.mono hbM13.size); obtain ⟨⟨z0, z1, z2, z3, z4⟩, zl⟩ := bxR wM15 hbM15))
  go_wp2_with (first | (go_at_call 21; refine (mkR wM15 (lift _ hbM15)).mono ?_; rintro e wR1 ⟨⟨vaR, vcR, rfl, hER⟩, hbR1'⟩; have hbR1 := hbM15.trans (hbR1'.mono hbM15.size); clear hbR1'; have hPtR := ptR wR1 vaR vcR hER; clear ptR hER) | (go_at_call 22; refine hPtR.mono ?_; clear hPtR; rintro e wR2 ⟨⟨aoR, cpR, rfl, hXR, hxcR⟩, hbR2'⟩; have hbR2 := hbR1.trans (hbR2'.mono hbR1.size); clear hbR2') | (go_at_call 17; refine (num17_any _ _).mono ?_; rintro e w' ⟨rfl, hw'⟩; replace hw' := hw'.symm; subst hw'))
  have hGR := sfR wR2 aoR cpR hXR
  clear sfR
  refine hGR.mono ?_
  clear hGR
  rintro e wR3 ⟨⟨uR, ucR, rfl, hUR⟩, hbR3'⟩
  have hbR3 := hbR2.trans (hbR3'.mono hbR2.size)
  replace hXR := hXR.keep (below_keep hbR3')
  obtain ⟨VR, hVR⟩ : ∃ W, W = wR3.alloc (.cells #[.int .i64 rkd, .int .i64 rvw, .int .i64 rnm, .int .i64 rop, .slice uR llR ucR] 50) := ⟨_, rfl⟩
  have hvR : Below wR3.heap.size wR3 VR := by rw [hVR]; exact (Below.refl _ _).alloc (Nat.le_refl _) _
  obtain ⟨XR, hXXR⟩ : ∃ z, z = wR3.heap.size := ⟨_, rfl⟩
  have bXR : VR.heap[XR]? = some (.cells #[.int .i64 rkd, .int .i64 rvw, .int .i64 rnm, .int .i64 rop, .slice uR llR ucR] 50 (0, 0)) := by rw [hVR, hXXR]; exact heap_alloc_new wR3 _
  have hbR6 := hbR3.trans (hvR.mono hbR3.size)
  replace hXR := hXR.keep (below_keep hvR)
  replace hUR := hUR.keep (below_keep hvR)
  have hO0 : OwnB (VR.alloc (.cells #[] 5)) VR.heap.size (.slice (some ⟨VR.heap.size, 0, none⟩) 0 0) [] := World.ownsRow_lit VR #[] 0 (Nat.le_refl _) (Nat.zero_le _) rfl
  have hb7 : Below VR.heap.size VR (VR.alloc (.cells #[] 5)) := (Below.refl _ _).alloc (Nat.le_refl _) _
  have hSrc := src_bs (P := Try.prog) _ Try.underlying25 (hXR.keep (below_keep hb7)) cpR
  rw [← HNR.out] at hSrc
  go_upto_region 11 with fail
  rw [← hVR, ← hXXR]
  clear hVR hXXR
  go_wp2_with (first | (at_builtin; first | (refine wpList_app _ rfl _ _ _ _ rfl elem_u8 VR.heap.size _ _ rfl hO0 _ rfl (BR.map bv) hSrc (by simp only [List.length_map, ← HNR.out]; unfold maxLen; simp; omega) (by simp only [List.length_map, ← HNR.out]; simp; omega) (by simp) ?_; intro v8 w8 ho8 hs8; clear hO0 hSrc; have hO8 : OwnB w8 VR.heap.size v8 BR := (by simpa [OwnB] using ho8); have hO8a := Own.alloc hO8 (.cells #[.int .u8 (x.toNat : Int)] 5); have hS8 := src_one (P := Try.prog) w8 Try.underlying25 (.int .u8 (x.toNat : Int)) (bv x) 5 rfl rfl 1; have hb8 : Below VR.heap.size VR w8 := hb7.trans (hs8.below hb7.size fun k e => by cases e; exact Nat.le_refl _); have z8 := hb8.size) | (refine wpList_app _ rfl _ _ _ _ rfl elem_u8 VR.heap.size _ _ rfl hO8a _ rfl [bv x] hS8 (by simp only [List.length_map, List.length_cons, List.length_nil, ← HNR.out]; unfold maxLen; omega) (by simp only [List.length_map, List.length_cons, List.length_nil, ← HNR.out]; omega) (by simp; omega) ?_; intro v9 w9 ho9 hs9; clear hO8a hS8; have hO9 : OwnB w9 VR.heap.size v9 (BR ++ [x]) := (by simpa [OwnB] using ho9); obtain ⟨a9, c9, rfl, l9, m9, hB9, _, _⟩ := Own.bs hO9)))
  have hb9 : Below VR.heap.size VR w9 := (hb8.alloc z8 (.cells #[.int .u8 (x.toNat : Int)] 5)).trans (hs9.below (by simp; omega) fun k e => (Own.lt hO8 k e).1)
  replace hXR := hXR.keep (below_keep hb9)
  have hG9 := moR x w9 a9 (BR.length + 1) c9 (by simp) hB9
  clear moR
  refine hG9.mono ?_
  rintro e wR10 ⟨rfl, hb10'⟩
  clear hG9
  have hb10 := hb9.trans (hb10'.mono hb9.size)
  have hb11 := hb10.alloc hb10.size (.cells #[.int .i64 0, .int .i64 0, .int .i64 0, .int .i64 0, .slice none 0 0] 50)
  replace hXR := (hXR.keep (below_keep hb10')).keep (keep_alloc _ (.cells #[.int .i64 0, .int .i64 0, .int .i64 0, .int .i64 0, .slice none 0 0] 50))
  have hG11 := ctR (NR - 1) (by omega) _ aoR (NR - 1) cpR (by rw [List.length_take, ← HNR.out]; omega) (bs_take hXR (NR - 1))
  clear ctR
  have hlen : (0 : Int) ≤ (NR : Int) - 1 := by omega
  have hlen2 : (NR : Int) - 1 ≤ (cpR : Int) := by omega
  have hton : ((NR : Int) - 1).toNat = NR - 1 := by omega
  go_wp2_with fail
  refine hG11.mono ?_
  rintro e wR12 ⟨rfl, hb12'⟩
  clear hG11
  have hb12 := hb11.trans (hb12'.mono hb11.size)
  obtain ⟨ZR, hZR⟩ : ∃ W, W = wR12.alloc (.cells #[.int .i64 0, .int .i64 0, .int .i64 0, .int .i64 0, .slice none 0 0] 50) := ⟨_, rfl⟩
  have hb13 : Below VR.heap.size VR ZR := by rw [hZR]; exact hb12.alloc hb12.size _
  have hbR13 := hbR6.trans (hb13.mono hbR6.size)
  have hU13 := fun W (h : Below ZR.heap.size ZR W) => hUR.keep (below_keep (hb13.trans (h.mono hb13.size)))
  have bX13 := (hb13.block _ (lt_of_block bXR)).trans bXR
  have hS13 : ∀ W, Below ZR.heap.size ZR W → ((W.cell? ⟨XR, 0, none⟩ = some (.int .i64 rkd) ∧ W.cell? ⟨XR, 1, none⟩ = some (.int .i64 rvw) ∧ W.cell? ⟨XR, 2, none⟩ = some (.int .i64 rnm) ∧ W.cell? ⟨XR, 3, none⟩ = some (.int .i64 rop) ∧ W.cell? ⟨XR, 4, none⟩ = some (.slice uR llR ucR)) ∧ XR < W.heap.size) ∧ ((W.cell? ⟨w.heap.size + 1, 0, none⟩ = some (.int .i64 rkd) ∧ W.cell? ⟨w.heap.size + 1, 1, none⟩ = some (.int .i64 rvw) ∧ W.cell? ⟨w.heap.size + 1, 2, none⟩ = some (.int .i64 rnm) ∧ W.cell? ⟨w.heap.size + 1, 3, none⟩ = some (.int .i64 rop) ∧ W.cell? ⟨w.heap.size + 1, 4, none⟩ = some (.slice b p d)) ∧ w.heap.size + 1 < W.heap.size) := fun W h => by
    have e := (h.block _ (lt_of_block bX13)).trans bX13
    refine ⟨⟨⟨?_, ?_, ?_, ?_, ?_⟩, lt_of_block e⟩, bxR W (hbR13.trans (h.mono hbR13.size))⟩ <;> (rw [Lib.cell_of_heap e]; rfl)
  have hMk := fun W (h : Below ZR.heap.size ZR W) => mkR W (lift _ (hbR13.trans (h.mono hbR13.size)))
  clear mkR hO8 hO9 hB9 hs9 hs8 ho8 ho9 hb7 hb8 hb9 hb10 hb11 hb10' hb12' hb12 hXR hUR bXR bX13 hton hlen hlen2 hbR3'
  have h0 : Below ZR.heap.size ZR ZR := Below.refl _ _
  have h1 : Below ZR.heap.size ZR ZR.drew := (Below.refl _ _).drew
  obtain ⟨⟨⟨qR0, qR1, qR2, qR3, qR4⟩, qxl⟩, ⟨mR0, mR1, mR2, mR3, mR4⟩, qml⟩ := hS13 ZR h0
  go_upto_region 13 with fail
  rw [← hZR]
  clear hZR
  go_region_held3 (fun W => ((W.cell? ⟨XR, 0, none⟩ = some (.int .i64 rkd) ∧ W.cell? ⟨XR, 1, none⟩ = some (.int .i64 rvw) ∧ W.cell? ⟨XR, 2, none⟩ = some (.int .i64 rnm) ∧ W.cell? ⟨XR, 3, none⟩ = some (.int .i64 rop) ∧ W.cell? ⟨XR, 4, none⟩ = some (.slice uR llR ucR)) ∧ XR < W.heap.size) ∧ ((W.cell? ⟨w.heap.size + 1, 0, none⟩ = some (.int .i64 rkd) ∧ W.cell? ⟨w.heap.size + 1, 1, none⟩ = some (.int .i64 rvw) ∧ W.cell? ⟨w.heap.size + 1, 2, none⟩ = some (.int .i64 rnm) ∧ W.cell? ⟨w.heap.size + 1, 3, none⟩ = some (.int .i64 rop) ∧ W.cell? ⟨w.heap.size + 1, 4, none⟩ = some (.slice b p d)) ∧ w.heap.size + 1 < W.heap.size)) (first | go_keep | exact hS13 _ h15 | exact hS13 _ h14 | exact hS13 _ h1 | exact hS13 _ h0) (first
    | (go_at_call 17; refine (num17_any _ _).mono ?_; rintro e w' ⟨rfl, hw'⟩; replace hw' := hw'.symm; subst hw')
    | (go_at_call 21; refine (hMk _ h1).mono ?_; clear hMk; rintro e wR14 ⟨⟨ta, tc, rfl, hT⟩, h14'⟩; have h14 := h1.trans (h14'.mono h1.size); clear h14'; have hSm := smR wR14 uR ucR ta tc (hU13 _ h14) hT; clear smR hU13 hT)
    | (go_at_call 28; refine hSm.mono ?_; clear hSm; rintro e wR15 ⟨rfl, h15'⟩; have h15 := h14.trans (h15'.mono h14.size); clear h15'; have hbR15 := hbR13.trans (h15.mono hbR13.size); skip))
  go_wp2_with (first | (go_at_call 20; refine (hKn _).mono ?_; rintro e wz ⟨rfl, hbz'⟩; have hbzz := hbR15.trans (hbz'.mono hbR15.size)) | (go_at_call 17; refine (num17_any _ _).mono ?_; rintro e w' ⟨rfl, hw'⟩; replace hw' := hw'.symm; subst hw'))
  go_ret
  exact ⟨rfl, lift _ hbzz⟩
theorem back17_any (m : Msg) (r : Rec17) (x : UInt8) (a : Option Addr) (n c : Nat) (b : Option Addr) (p d : Nat) (w : World) (hn : m.log.length = n) (hp : r.log.length = p) (hN : EsAt w.cell? a m.log) (hP : EsAt w.cell? b r.log) (hf : FairL m.log) (hg : FairL r.log) :
    Calls Try.prog 6 #[msgV m.kd m.fr m.tt m.vw m.op m.cm m.nm (.slice a n c), recV r.kd r.vw r.nm r.op (.slice b p d), .int .u8 (x.toNat : Int)] w fun e w' => e = .returned (.bool true) ∧ Below w.heap.size w w' := by
  by_cases h1 : pE m.ok m.b = 0
  · by_cases h2 : pE r.ok r.b = 0
    · exact back17_yy m r x a n c b p d w hn hp hN hP hf hg h1 h2
    · exact back17_yn m r x a n c b p d w hn hp hN hP hf hg h1 h2
  · by_cases h2 : pE r.ok r.b = 0
    · exact back17_ny m r x a n c b p d w hn hp hN hP hf hg h1 h2
    · exact back17_nn m r x a n c b p d w hn hp hN hP hf hg h1 h2
end Go.Proofs.Ytmaecpmdikdclaa
