/- Layer 17: the document's Put. -/
import Derived.Test.YtmaecpmdikdclaaND
import Derived.Test.YtmaecpmdikdclaaNE
namespace Go.Proofs.Ytmaecpmdikdclaa
open Go.RowKit
theorem lit_u83 (W : World) (x y z : Int) (h1 : 0 ≤ x) (h2 : x ≤ 255) (h3 : 0 ≤ y) (h4 : y ≤ 255) (h5 : 0 ≤ z) (h6 : z ≤ 255) : OwnB (W.alloc (.cells #[.int .u8 x, .int .u8 y, .int .u8 z] 5)) W.heap.size (.slice (some ⟨W.heap.size, 0, none⟩) 3 3) [UInt8.ofNat x.toNat, UInt8.ofNat y.toNat, UInt8.ofNat z.toNat] := by
  have e : [UInt8.ofNat x.toNat, UInt8.ofNat y.toNat, UInt8.ofNat z.toNat].map bv = [.int .u8 x, .int .u8 y, .int .u8 z] := by
    simp only [List.map_cons, List.map_nil, bv, UInt8.toNat_ofNat']
    simp
    omega
  unfold OwnB
  rw [e]
  exact World.ownsRow_lit W #[.int .u8 x, .int .u8 y, .int .u8 z] 3 (Nat.le_refl _) (by decide) rfl
set_option maxRecDepth 100000 in
set_option maxHeartbeats 40000000 in
theorem rput17_any (m : Msg) (a : Option Addr) (n c : Nat) (w : World) (hn : m.log.length = n) (hN : EsAt w.cell? a m.log) (hs : ∀ x ∈ m.log, x.d.length ≤ 9223372036854775807) : Calls Try.prog 12 #[msgV m.kd m.fr m.tt m.vw m.op m.cm m.nm (.slice a n c)] w (PutEnd17 m.ok m.b w) := by
  have hfin := fun e w' h => (h : PutEnd17 m.ok m.b w e w')
  obtain ⟨kd, fr, tt, vw, op, cm, nm, L⟩ := m
  simp only at hn hN hs ⊢
  obtain ⟨W1, hW1⟩ : ∃ W, W = w.alloc (.cells #[.int .i64 kd, .int .i64 fr, .int .i64 tt, .int .i64 vw, .int .i64 op, .int .i64 cm, .int .i64 nm, .slice a n c] 24) := ⟨_, rfl⟩
  have hb1 : Below w.heap.size w W1 := by rw [hW1]; exact (Below.refl _ w).alloc (Nat.le_refl _) _
  have bx1 : W1.heap[w.heap.size]? = some (.cells #[.int .i64 kd, .int .i64 fr, .int .i64 tt, .int .i64 vw, .int .i64 op, .int .i64 cm, .int .i64 nm, .slice a n c] 24 (0, 0)) := by rw [hW1]; exact heap_alloc_new w _
  have bx : ∀ W, Below W1.heap.size W1 W → (W.cell? ⟨w.heap.size, 0, none⟩ = some (.int .i64 kd) ∧ W.cell? ⟨w.heap.size, 1, none⟩ = some (.int .i64 fr) ∧ W.cell? ⟨w.heap.size, 2, none⟩ = some (.int .i64 tt) ∧ W.cell? ⟨w.heap.size, 3, none⟩ = some (.int .i64 vw) ∧ W.cell? ⟨w.heap.size, 4, none⟩ = some (.int .i64 op) ∧ W.cell? ⟨w.heap.size, 5, none⟩ = some (.int .i64 cm) ∧ W.cell? ⟨w.heap.size, 6, none⟩ = some (.int .i64 nm) ∧ W.cell? ⟨w.heap.size, 7, none⟩ = some (.slice a n c)) ∧ w.heap.size < W.heap.size := fun W h => by
    have e := (h.block _ (lt_of_block bx1)).trans bx1
    refine ⟨⟨?_, ?_, ?_, ?_, ?_, ?_, ?_, ?_⟩, lt_of_block e⟩ <;> (rw [Lib.cell_of_heap e]; rfl)
  have hRt := rright17_any ⟨kd, fr, tt, vw, op, cm, nm, L⟩ a n c W1 hn (hN.keep (below_keep hb1)) hs
  obtain ⟨⟨x0, x1, x2, x3, x4, x5, x6, x7⟩, xl⟩ := bx W1 (Below.refl _ _)
  cases hok : Msg.ok ⟨kd, fr, tt, vw, op, cm, nm, L⟩ with
  | false =>
    rw [hok] at hfin hRt
    clear hN hs hok bx1
    go_enter Try.func12, Try.ntmps12
    go_wp2_with fail
    rw [← hW1]
    clear hW1
    refine hRt.mono ?_
    clear hRt
    rintro e w2 ⟨rfl, hb2⟩
    go_wp2_with fail
    go_ret2
    exact hfin _ _ (putNo hb1 hb2)
  | true =>
    rw [hok] at hfin hRt
    obtain ⟨⟨a1, a2⟩, ⟨b1, b2⟩, ⟨c1, c2⟩, ⟨d1, d2⟩, e1, ⟨f1, f2⟩, ⟨g1, g2⟩, _⟩ := Msg.facts hok
    obtain ⟨hl1, hl2⟩ := logOk.facts e1
    have hsm : ∀ x ∈ L, x.d.length ≤ 16384 := fun x hx => (Ent.facts (hl2 x hx)).2.2
    simp only at hl1 a1 a2 b1 b2 c1 c2 d1 d2 f1 f2 g1 g2
    have HM : Hid (Msg.b ⟨kd, fr, tt, vw, op, cm, nm, L⟩ = ([UInt8.ofNat kd.toNat, UInt8.ofNat fr.toNat, UInt8.ofNat tt.toNat] ++ ints [vw, op, cm, nm]) ++ logB L) := hid rfl
    have HFin := hid hfin
    have hEn : ∀ W, Below w.heap.size w W → Calls Try.prog 41 #[.slice a n c] W fun e w' => ∃ v', e = .returned v' ∧ OwnB w' W.heap.size v' (logB L) ∧ Below W.heap.size W w' := fun W hW => entries17_any a n c L W hn (hN.keep (below_keep hW)) (by omega) hsm
    have hL1 : (logB L).length ≤ 40000000 := by
      have key : ∀ (M : List Ent), (∀ x ∈ M, x.d.length ≤ 16384) → (M.flatMap entB).length ≤ 16394 * M.length := by
        intro M
        induction M with
        | nil => intro _; simp
        | cons x r ih =>
          intro h
          have a := ih fun y hy => h y (List.mem_cons_of_mem _ hy)
          have b := h x (List.mem_cons_self ..)
          have c : (entB x).length = 10 + x.d.length := by unfold entB; rw [List.length_append, be64_length, text_length]; omega
          simp only [List.flatMap_cons, List.length_append, List.length_cons]
          omega
      have := key L hsm
      unfold logB
      simp only [List.length_append, List.length_cons, List.length_nil]
      omega
    have hI1 : (ints [vw, op, cm, nm]).length = 32 := by rw [ints_length]; rfl
    have hwkd : IntKind.u8.wrap kd = kd := by rw [IntKind.wrap_u8]; omega
    have hwfr : IntKind.u8.wrap fr = fr := by rw [IntKind.wrap_u8]; omega
    have hwtt : IntKind.u8.wrap tt = tt := by rw [IntKind.wrap_u8]; omega
    clear hN hs hok bx1 hl2 hsm e1 hfin
    have HEn := hid hEn
    have HBx := hid bx
    clear hEn bx
    generalize hlg : logB L = lg at *
    clear hlg
    go_enter Try.func12, Try.ntmps12
    go_wp2_with fail
    rw [← hW1]
    clear hW1
    refine hRt.mono ?_
    clear hRt
    rintro e w2 ⟨rfl, hb2⟩
    obtain ⟨⟨y0, y1, y2, y3, y4, y5, y6, y7⟩, yl⟩ := HBx.out w2 hb2
    clear x0 x1 x2 x3 x4 x5 x6 x7 xl
    have ua : ∀ (X : World) (o : Obj), Below W1.heap.size W1 X → Below W1.heap.size W1 (X.alloc o) := fun X o h => h.alloc h.size o
    obtain ⟨V2, hV2⟩ : ∃ W, W = w2.alloc (.cells #[.int .u8 kd, .int .u8 fr, .int .u8 tt] 5) := ⟨_, rfl⟩
    have R : Run W1.heap.size W1 V2 (.slice (some ⟨w2.heap.size, 0, none⟩) 3 3) [UInt8.ofNat kd.toNat, UInt8.ofNat fr.toNat, UInt8.ofNat tt.toNat] := by rw [hV2]; exact ⟨ownB_mono (lit_u83 w2 kd fr tt (by omega) (by omega) (by omega) (by omega) (by omega) (by omega)) hb2.size (hrefl _), ua w2 _ hb2, (ua w2 _ hb2).size⟩
    obtain ⟨⟨z0, z1, z2, z3, z4, z5, z6, z7⟩, zl⟩ := HBx.out V2 R.below

    go_upto_region 4 with fail
    rw [← hV2]
    clear hV2 y0 y1 y2 y3 y4 y5 y6 y7 yl
    obtain ⟨V3, hV3⟩ : ∃ W, W = V2.alloc (.cells #[.int .i64 vw, .int .i64 op, .int .i64 cm, .int .i64 nm] 3) := ⟨_, rfl⟩
    have P1 : Calls Try.prog 40 #[.slice (some ⟨V2.heap.size, 0, none⟩) 4 4] V3 _ := numbers17_any (some ⟨V2.heap.size, 0, none⟩) 4 4 [vw, op, cm, nm] V3 rfl (by omega) (nsAt_lit [vw, op, cm, nm] (by rw [hV3]; exact heap_alloc_new V2 _))
    replace R := R.alloc (.cells #[.int .i64 vw, .int .i64 op, .int .i64 cm, .int .i64 nm] 3)
    rw [← hV3] at R
    generalize ints [vw, op, cm, nm] = tk at *
    have l1 := hid hI1
    clear hI1
    go_wp2_with fail
    rw [← hV3]
    clear hV3
    refine P1.mono ?_
    clear P1
    rintro e w3 ⟨r, rfl, hO, hb3⟩
    obtain ⟨g0, j0, hr0, S0⟩ := Side.new R hO
    subst hr0
    replace R := R.call hb3
    clear hO hb3
    · go_upto_region 5 with (at_builtin; refine wpList_app _ rfl _ _ _ _ rfl elem_u8 W1.heap.size _ _ rfl R.row _ rfl (tk.map bv) (S0.src _) (by simp only [List.length_map, List.length_cons, List.length_nil]; unfold maxLen; rw [l1.out]; omega) (by simp only [List.length_map, List.length_cons, List.length_nil]; rw [l1.out]; omega) R.size ?_; intro vn w4 ho hs; replace R := R.app ho hs; clear S0 ho hs)
      obtain ⟨⟨s0, s1, s2, s3, s4, s5, s6, s7⟩, sl⟩ := HBx.out _ R.below
      clear HBx
      obtain ⟨nl, hnl⟩ : ∃ z, z = (([UInt8.ofNat kd.toNat, UInt8.ofNat fr.toNat, UInt8.ofNat tt.toNat] ++ tk) ++ lg).length := ⟨_, rfl⟩
      have HNL := hid hnl.symm
      clear hnl
      have HW := hid hb1
      by_cases hbig : nl ≤ 1048576
      · have hx : ¬ ((1048576 : Int) < (nl : Int)) := by omega
        go_wp2_with (first
          | (go_at_call 41; refine (HEn.out _ (HW.out.trans (R.below.mono HW.out.size))).mono ?_; clear HEn; rintro e w5 ⟨r, rfl, hO, hb5⟩; obtain ⟨g1, j1, hr1, S1⟩ := Side.new R hO; subst hr1; replace R := R.call hb5; clear hO hb5)
          | (at_builtin; refine wpList_app _ rfl _ _ _ _ rfl elem_u8 W1.heap.size _ _ rfl R.row _ rfl (lg.map bv) (S1.src _) (by simp only [List.length_map, List.length_append, List.length_cons, List.length_nil]; unfold maxLen; rw [l1.out]; omega) (by simp only [List.length_map, List.length_append, List.length_cons, List.length_nil]; rw [l1.out]; omega) R.size ?_; intro vn w6 ho hs; replace R := R.app ho hs; clear S1 ho hs; obtain ⟨ao, cap, hv, hcap, _, hB, _, _⟩ := Own.bs R.row; rw [HNL.out] at hv hcap; subst hv))
        go_ret2
        exact HFin.out _ _ (by rw [HM.out]; exact putYes17 (HW.out.trans (R.below.mono HW.out.size)) HNL.out hbig hB hcap)
      · have hx : (1048576 : Int) < (nl : Int) := by omega
        go_wp2_with (first
          | (go_at_call 41; refine (HEn.out _ (HW.out.trans (R.below.mono HW.out.size))).mono ?_; clear HEn; rintro e w5 ⟨r, rfl, hO, hb5⟩; obtain ⟨g1, j1, hr1, S1⟩ := Side.new R hO; subst hr1; replace R := R.call hb5; clear hO hb5)
          | (at_builtin; refine wpList_app _ rfl _ _ _ _ rfl elem_u8 W1.heap.size _ _ rfl R.row _ rfl (lg.map bv) (S1.src _) (by simp only [List.length_map, List.length_append, List.length_cons, List.length_nil]; unfold maxLen; rw [l1.out]; omega) (by simp only [List.length_map, List.length_append, List.length_cons, List.length_nil]; rw [l1.out]; omega) R.size ?_; intro vn w6 ho hs; replace R := R.app ho hs; clear S1 ho hs; obtain ⟨ao, cap, hv, hcap, _, hB, _, _⟩ := Own.bs R.row; rw [HNL.out] at hv hcap; subst hv))
        go_ret2
        exact HFin.out _ _ (by rw [HM.out]; exact putBig17 (HW.out.trans (R.below.mono HW.out.size)) (by rw [HNL.out]; omega))
end Go.Proofs.Ytmaecpmdikdclaa
