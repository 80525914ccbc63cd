/- Layer 17: the document's PutRecord, Put. -/
import Derived.Test.YtmaecpmdikdclaaNA
import Derived.Test.YtmaecpmdikdclaaMU
import Derived.Test.YtmaecpmdikdclaaML
import Derived.Test.YtmaecpmdikdclaaMT
namespace Go.Proofs.Ytmaecpmdikdclaa
open Go.RowKit
theorem hrefl (w : World) : Below w.heap.size w w := Below.refl _ w
theorem nsAt_lit {W : World} {b : Nat} {t : TypeId} {f : Nat × Nat} (xs : List Int) (h : W.heap[b]? = some (.cells (xs.map (Value.int .i64)).toArray t f)) : NsAt W.cell? (some ⟨b, 0, none⟩) xs :=
  .inr ⟨b, 0, rfl, fun j hj => by rw [Lib.cell_of_heap h]; simp [hj]⟩
theorem lit_u8 (W : World) (kd : Int) (h1 : 0 ≤ kd) (h2 : kd ≤ 255) : OwnB (W.alloc (.cells #[.int .u8 kd] 5)) W.heap.size (.slice (some ⟨W.heap.size, 0, none⟩) 1 1) [UInt8.ofNat kd.toNat] := by
  have e : [UInt8.ofNat kd.toNat].map bv = [.int .u8 kd] := by
    simp only [List.map_cons, List.map_nil, bv, UInt8.toNat_ofNat']
    simp
    omega
  unfold OwnB
  rw [e]
  exact World.ownsRow_lit W #[.int .u8 kd] 1 (Nat.le_refl _) (by decide) rfl
theorem putYes17 {bs : List UInt8} {w w' : World} {ao : Option Addr} {cap nl : Nat} (h : Below w.heap.size w w') (hl : bs.length = nl) (hs : nl ≤ 1048576) (hB : Bs w' ao bs) (hc : nl ≤ cap) : PutEnd17 true bs w (.returned (.tuple #[.slice ao nl cap, .int .i64 0])) w' := by
  subst hl
  have e1 : pB true bs = bs := by simp [pB, hs]
  have e2 : pE true bs = 0 := by simp only [pE]; rw [if_neg (by decide), if_neg (by omega)]
  exact ⟨h, ao, cap, by rw [e1, e2], by rw [e1]; exact hB, by rw [e1]; exact hc⟩
theorem putBig17 {bs : List UInt8} {w w' : World} (h : Below w.heap.size w w') (hl : 1048576 < bs.length) : PutEnd17 true bs w (.returned (.tuple #[.slice none 0 0, .int .i64 6])) w' := by
  have e1 : pB true bs = [] := by simp only [pB]; rw [if_neg (by omega)]
  have e2 : pE true bs = 6 := by simp only [pE]; rw [if_neg (by decide), if_pos hl]
  exact ⟨h, none, 0, by rw [e1, e2]; rfl, by rw [e1]; exact .inl rfl, by rw [e1]; simp⟩
theorem ownB_mono {W W' : World} {b B : Nat} {v : Value} {xs : List UInt8} (h : OwnB W b v xs) (hb : B ≤ b) (hW : Below W.heap.size W W') : OwnB W' B v xs := Own.below (row_lower4 h hb) hW
set_option maxRecDepth 100000 in
set_option maxHeartbeats 40000000 in
theorem rputRec17_any (m : Rec17) (a : Option Addr) (n c : Nat) (w : World) (hn : m.log.length = n) (hN : EsAt w.cell? a m.log) (hs : ∀ x ∈ m.log, x.d.length ≤ 9223372036854775807) : Calls Try.prog 23 #[recV m.kd m.vw m.nm m.op (.slice a n c)] w (PutEnd17 m.ok m.b w) := by
  have hfin := fun e w' h => (h : PutEnd17 m.ok m.b w e w')
  obtain ⟨kd, vw, nm, op, L⟩ := m
  simp only at hn hN hs ⊢
  obtain ⟨W1, hW1⟩ : ∃ W, W = w.alloc (.cells #[.int .i64 kd, .int .i64 vw, .int .i64 nm, .int .i64 op, .slice a n c] 48) := ⟨_, rfl⟩
  have hb1 : Below w.heap.size w W1 := by rw [hW1]; exact (Below.refl _ w).alloc (Nat.le_refl _) _
  have bx1 : W1.heap[w.heap.size]? = some (.cells #[.int .i64 kd, .int .i64 vw, .int .i64 nm, .int .i64 op, .slice a n c] 48 (0, 0)) := by rw [hW1]; exact heap_alloc_new w _
  have bx : ∀ W, Below W1.heap.size W1 W → (W.cell? ⟨w.heap.size, 0, none⟩ = some (.int .i64 kd) ∧ W.cell? ⟨w.heap.size, 1, none⟩ = some (.int .i64 vw) ∧ W.cell? ⟨w.heap.size, 2, none⟩ = some (.int .i64 nm) ∧ W.cell? ⟨w.heap.size, 3, none⟩ = some (.int .i64 op) ∧ W.cell? ⟨w.heap.size, 4, none⟩ = some (.slice a n c)) ∧ w.heap.size < W.heap.size := fun W h => by
    have e := (h.block _ (lt_of_block bx1)).trans bx1
    refine ⟨⟨?_, ?_, ?_, ?_, ?_⟩, lt_of_block e⟩ <;> (rw [Lib.cell_of_heap e]; rfl)
  have hRt := rrightRec17_any ⟨kd, vw, nm, op, L⟩ a n c W1 hn (hN.keep (below_keep hb1)) hs
  obtain ⟨⟨x0, x1, x2, x3, x4⟩, xl⟩ := bx W1 (Below.refl _ _)
  cases hok : Rec17.ok ⟨kd, vw, nm, op, L⟩ with
  | false =>
    rw [hok] at hfin hRt
    clear hN hs hok bx1
    go_enter Try.func23, Try.ntmps23
    go_wp2_with fail
    rw [← hW1]
    clear hW1
    refine hRt.mono ?_
    clear hRt
    rintro e w2 ⟨rfl, hb2⟩
    go_wp2_with fail
    go_ret2
    exact hfin _ _ (putNo hb1 hb2)
  | true =>
    rw [hok] at hfin hRt
    obtain ⟨⟨a1, a2⟩, ⟨b1, b2⟩, ⟨c1, c2⟩, ⟨d1, d2⟩, e1⟩ := Rec17.facts hok
    obtain ⟨hl1, hl2⟩ := logOk.facts e1
    have hsm : ∀ x ∈ L, x.d.length ≤ 16384 := fun x hx => (Ent.facts (hl2 x hx)).2.2
    simp only at hl1 a1 a2 b1 b2 c1 c2 d1 d2
    have HM : Hid (Rec17.b ⟨kd, vw, nm, op, L⟩ = ([UInt8.ofNat kd.toNat] ++ ints [vw, nm, op]) ++ logB L) := hid rfl
    have HFin := hid hfin
    have hEn : ∀ W, Below w.heap.size w W → Calls Try.prog 41 #[.slice a n c] W fun e w' => ∃ v', e = .returned v' ∧ OwnB w' W.heap.size v' (logB L) ∧ Below W.heap.size W w' := fun W hW => entries17_any a n c L W hn (hN.keep (below_keep hW)) (by omega) hsm
    have hL1 : (logB L).length ≤ 40000000 := by
      have key : ∀ (M : List Ent), (∀ x ∈ M, x.d.length ≤ 16384) → (M.flatMap entB).length ≤ 16394 * M.length := by
        intro M
        induction M with
        | nil => intro _; simp
        | cons x r ih =>
          intro h
          have a := ih fun y hy => h y (List.mem_cons_of_mem _ hy)
          have b := h x (List.mem_cons_self ..)
          have c : (entB x).length = 10 + x.d.length := by unfold entB; rw [List.length_append, be64_length, text_length]; omega
          simp only [List.flatMap_cons, List.length_append, List.length_cons]
          omega
      have := key L hsm
      unfold logB
      simp only [List.length_append, List.length_cons, List.length_nil]
      omega
    have hI1 : (ints [vw, nm, op]).length = 24 := by rw [ints_length]; rfl
    have hw8 : IntKind.u8.wrap kd = kd := by rw [IntKind.wrap_u8]; omega
    clear hN hs hok bx1 hl2 hsm e1 hfin
    have HEn := hid hEn
    have HBx := hid bx
    clear hEn bx
    generalize hlg : logB L = lg at *
    clear hlg
    go_enter Try.func23, Try.ntmps23
    go_wp2_with fail
    rw [← hW1]
    clear hW1
    refine hRt.mono ?_
    clear hRt
    rintro e w2 ⟨rfl, hb2⟩
    obtain ⟨⟨y0, y1, y2, y3, y4⟩, yl⟩ := HBx.out w2 hb2
    clear x0 x1 x2 x3 x4 xl
    have eN : ∀ args w, (callFunc 40 args).run Try.prog w = .ok (.enter 40 args) w := enters_of Try.func40 (by kernel_rfl) rfl
    obtain ⟨OB, hOB⟩ : ∃ o, o = Obj.cells #[.int .u8 kd] 5 := ⟨_, rfl⟩
    have ua : ∀ (X : World) (o : Obj), Below W1.heap.size W1 X → Below W1.heap.size W1 (X.alloc o) := fun X o h => h.alloc h.size o
    have kb : ∀ X, Below W1.heap.size W1 X → Run W1.heap.size W1 (X.alloc (.cells #[.int .u8 kd] 5)) (.slice (some ⟨X.heap.size, 0, none⟩) 1 1) [UInt8.ofNat kd.toNat] := fun X h => ⟨ownB_mono (lit_u8 X kd (by omega) (by omega)) h.size (hrefl _), ua X _ h, (ua X _ h).size⟩
    have E1 : ((w2.alloc (.cells #[.int .u8 kd] 5)).alloc (.cells #[.int .i64 vw, .int .i64 nm, .int .i64 op] 3)).heap[w2.heap.size + 1]? = some (.cells #[.int .i64 vw, .int .i64 nm, .int .i64 op] 3 (0, 0)) := (by have := heap_alloc_new (w2.alloc (.cells #[.int .u8 kd] 5)) (.cells #[.int .i64 vw, .int .i64 nm, .int .i64 op] 3); rw [show (w2.alloc (.cells #[.int .u8 kd] 5)).heap.size = w2.heap.size + 1 by simp] at this; exact this)
    have P1 : Calls Try.prog 40 #[.slice (some ⟨w2.heap.size + 1, 0, none⟩) 3 3] ((w2.alloc (.cells #[.int .u8 kd] 5)).alloc (.cells #[.int .i64 vw, .int .i64 nm, .int .i64 op] 3)).drew _ := numbers17_any (some ⟨w2.heap.size + 1, 0, none⟩) 3 3 [vw, nm, op] _ rfl (by omega) (show NsAt ((w2.alloc (.cells #[.int .u8 kd] 5)).alloc (.cells #[.int .i64 vw, .int .i64 nm, .int .i64 op] 3)).cell? (some ⟨w2.heap.size + 1, 0, none⟩) [vw, nm, op] from nsAt_lit [vw, nm, op] E1)
    have Q1 : Run W1.heap.size W1 ((w2.alloc (.cells #[.int .u8 kd] 5)).alloc (.cells #[.int .i64 vw, .int .i64 nm, .int .i64 op] 3)).drew (.slice (some ⟨w2.heap.size, 0, none⟩) 1 1) [UInt8.ofNat kd.toNat] := ((kb w2 hb2).alloc _).call ((hrefl _).drew)
    have E2 : ((w2.alloc (.cells #[.int .i64 vw, .int .i64 nm, .int .i64 op] 3)).alloc (.cells #[.int .u8 kd] 5)).heap[w2.heap.size]? = some (.cells #[.int .i64 vw, .int .i64 nm, .int .i64 op] 3 (0, 0)) := (by rw [Below.heap_alloc _ _ _ (by simp)]; exact heap_alloc_new w2 _)
    have P2 : Calls Try.prog 40 #[.slice (some ⟨w2.heap.size, 0, none⟩) 3 3] ((w2.alloc (.cells #[.int .i64 vw, .int .i64 nm, .int .i64 op] 3)).alloc (.cells #[.int .u8 kd] 5)).drew _ := numbers17_any (some ⟨w2.heap.size, 0, none⟩) 3 3 [vw, nm, op] _ rfl (by omega) (show NsAt ((w2.alloc (.cells #[.int .i64 vw, .int .i64 nm, .int .i64 op] 3)).alloc (.cells #[.int .u8 kd] 5)).cell? (some ⟨w2.heap.size, 0, none⟩) [vw, nm, op] from nsAt_lit [vw, nm, op] E2)
    have Q2 : Run W1.heap.size W1 ((w2.alloc (.cells #[.int .i64 vw, .int .i64 nm, .int .i64 op] 3)).alloc (.cells #[.int .u8 kd] 5)).drew (.slice (some ⟨w2.heap.size + 1, 0, none⟩) 1 1) [UInt8.ofNat kd.toNat] := by have := (kb (w2.alloc (.cells #[.int .i64 vw, .int .i64 nm, .int .i64 op] 3)) (ua w2 _ hb2)).call ((hrefl _).drew); rw [show (w2.alloc (.cells #[.int .i64 vw, .int .i64 nm, .int .i64 op] 3)).heap.size = w2.heap.size + 1 by simp] at this; exact this
    have P3 : Calls Try.prog 40 #[.slice (some ⟨w2.heap.size, 0, none⟩) 3 3] (w2.alloc (.cells #[.int .i64 vw, .int .i64 nm, .int .i64 op] 3)).drew _ := numbers17_any (some ⟨w2.heap.size, 0, none⟩) 3 3 [vw, nm, op] _ rfl (by omega) (show NsAt (w2.alloc (.cells #[.int .i64 vw, .int .i64 nm, .int .i64 op] 3)).cell? (some ⟨w2.heap.size, 0, none⟩) [vw, nm, op] from nsAt_lit [vw, nm, op] (heap_alloc_new w2 _))
    have Q3 : Below W1.heap.size W1 (w2.alloc (.cells #[.int .i64 vw, .int .i64 nm, .int .i64 op] 3)).drew := (ua w2 _ hb2).drew
    generalize ints [vw, nm, op] = tk at *
    have l1 := hid hI1
    clear hI1 hOB OB
    go_upto_region 3 with fail
    go_cut [4] (fun v wx => Run W1.heap.size W1 wx v ([UInt8.ofNat kd.toNat] ++ tk))
    case first =>
     go_region_held3 (fun W => ((W.cell? ⟨w.heap.size, 0, none⟩ = some (.int .i64 kd) ∧ W.cell? ⟨w.heap.size, 1, none⟩ = some (.int .i64 vw) ∧ W.cell? ⟨w.heap.size, 2, none⟩ = some (.int .i64 nm) ∧ W.cell? ⟨w.heap.size, 3, none⟩ = some (.int .i64 op) ∧ W.cell? ⟨w.heap.size, 4, none⟩ = some (.slice a n c)) ∧ w.heap.size < W.heap.size)) (first | exact HBx.out _ R.below | exact HBx.out _ Z3 | exact HBx.out _ hb2.drew | exact HBx.out _ (ua _ _ hb2).drew | exact HBx.out _ (ua _ _ (ua _ _ hb2)).drew | go_keep) (first
      | (refine step_call2 (by rfl) 40 #[.tmp 18] #[91] (by rfl) eN #[.slice (some ⟨w2.heap.size + 1, 0, none⟩) 3 3] (by rfl) _ P1 ?_; clear P1 P2 P3; rintro e wn ⟨r, rfl, hO, hb⟩; refine ⟨_, rfl, ?_⟩; obtain ⟨g0, j0, hr0, S0'⟩ := Side.new Q1 hO; subst hr0; have S0 := S0'.bs; clear S0'; have R := Q1.call hb; clear hO)
      | (refine step_call2 (by rfl) 40 #[.tmp 18] #[91] (by rfl) eN #[.slice (some ⟨w2.heap.size, 0, none⟩) 3 3] (by rfl) _ P2 ?_; clear P1 P2 P3; rintro e wn ⟨r, rfl, hO, hb⟩; refine ⟨_, rfl, ?_⟩; obtain ⟨g0, j0, hr0, S0'⟩ := Side.new Q2 hO; subst hr0; have S0 := S0'.bs; clear S0'; have R := Q2.call hb; clear hO)
      | (refine step_call2 (by rfl) 40 #[.tmp 18] #[91] (by rfl) eN #[.slice (some ⟨w2.heap.size, 0, none⟩) 3 3] (by rfl) _ P3 ?_; clear P1 P2 P3; rintro e wn ⟨r, rfl, hO, hb⟩; refine ⟨_, rfl, ?_⟩; obtain ⟨g0, j0, hr0, _, _, S0', _, _⟩ := Own.bs hO; subst hr0; have Z3 := Q3.trans (hb.mono Q3.size); have R := kb wn Z3; have S0 := S0'.keep (below_keep ((hrefl wn).alloc (Nat.le_refl _) (.cells #[.int .u8 kd] 5))); clear hO S0')
      | (refine step_app _ (by rfl) (.tmp 11) (.tmp 19) 25 25 (by rfl) elem_u8 W1.heap.size _ _ (by rfl) R.row _ (by rfl) (tk.map bv) (src_bs _ Try.underlying25 S0 _) (by simp only [List.length_map]; unfold maxLen; rw [l1.out]; simp) (by simp only [List.length_map]; rw [l1.out]; simp) R.size ?_; intro vn w4 ho hs; replace R := R.app ho hs; clear S0 ho hs))
     all_goals
      go_wp2_with fail
      go_meet
      exact R
    case rest =>
      have R := hcut
      clear hcut
      clear P1 P2 P3 Q1 Q2 Q3 kb ua y0 y1 y2 y3 y4 yl E1 E2
      obtain ⟨⟨s0, s1, s2, s3, s4⟩, sl⟩ := HBx.out _ R.below
      clear HBx
      obtain ⟨nl, hnl⟩ : ∃ z, z = (([UInt8.ofNat kd.toNat] ++ tk) ++ lg).length := ⟨_, rfl⟩
      have HNL := hid hnl.symm
      clear hnl
      have HW := hid hb1
      by_cases hbig : nl ≤ 1048576
      · have hx : ¬ ((1048576 : Int) < (nl : Int)) := by omega
        go_wp2_with (first
          | (go_at_call 41; refine (HEn.out _ (HW.out.trans (R.below.mono HW.out.size))).mono ?_; clear HEn; rintro e w5 ⟨r, rfl, hO, hb5⟩; obtain ⟨g1, j1, hr1, S1⟩ := Side.new R hO; subst hr1; replace R := R.call hb5; clear hO hb5)
          | (at_builtin; refine wpList_app _ rfl _ _ _ _ rfl elem_u8 W1.heap.size _ _ rfl R.row _ rfl (lg.map bv) (S1.src _) (by simp only [List.length_map, List.length_append, List.length_cons, List.length_nil]; unfold maxLen; rw [l1.out]; omega) (by simp only [List.length_map, List.length_append, List.length_cons, List.length_nil]; rw [l1.out]; omega) R.size ?_; intro vn w6 ho hs; replace R := R.app ho hs; clear S1 ho hs; obtain ⟨ao, cap, hv, hcap, _, hB, _, _⟩ := Own.bs R.row; rw [HNL.out] at hv hcap; subst hv))
        go_ret2
        exact HFin.out _ _ (by rw [HM.out]; exact putYes17 (HW.out.trans (R.below.mono HW.out.size)) HNL.out hbig hB hcap)
      · have hx : (1048576 : Int) < (nl : Int) := by omega
        go_wp2_with (first
          | (go_at_call 41; refine (HEn.out _ (HW.out.trans (R.below.mono HW.out.size))).mono ?_; clear HEn; rintro e w5 ⟨r, rfl, hO, hb5⟩; obtain ⟨g1, j1, hr1, S1⟩ := Side.new R hO; subst hr1; replace R := R.call hb5; clear hO hb5)
          | (at_builtin; refine wpList_app _ rfl _ _ _ _ rfl elem_u8 W1.heap.size _ _ rfl R.row _ rfl (lg.map bv) (S1.src _) (by simp only [List.length_map, List.length_append, List.length_cons, List.length_nil]; unfold maxLen; rw [l1.out]; omega) (by simp only [List.length_map, List.length_append, List.length_cons, List.length_nil]; rw [l1.out]; omega) R.size ?_; intro vn w6 ho hs; replace R := R.app ho hs; clear S1 ho hs; obtain ⟨ao, cap, hv, hcap, _, hB, _, _⟩ := Own.bs R.row; rw [HNL.out] at hv hcap; subst hv))
        go_ret2
        exact HFin.out _ _ (by rw [HM.out]; exact putBig17 (HW.out.trans (R.below.mono HW.out.size)) (by rw [HNL.out]; omega))
end Go.Proofs.Ytmaecpmdikdclaa
