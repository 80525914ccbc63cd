/- What package code reads: a function. -/
import Derived.Test.YtkbmmaacmofijaaGM
import Derived.Test.YtkbmmaacmofijaaCCf
import Derived.Laws.BitsAllLaws
namespace Go.Proofs.Ytkbmmaacmofijaa
open Go.RowKit
theorem or256 (hi lo : Nat) (h1 : hi ≤ 255) (h2 : lo ≤ 255) : bits BinOp.or IntKind.i64 (IntKind.i64.wrap ((hi : Int) * 256)) (lo : Int) = ((hi * 256 + lo : Nat) : Int) := by
  have e0 : IntKind.i64.wrap ((hi : Int) * 256) = (hi : Int) * 256 := by rw [IntKind.wrap_i64]; omega
  rw [e0]
  have e : (hi : Int) * 256 = ((hi * 256 : Nat) : Int) := by omega
  rw [e]
  show IntKind.i64.wrap ((BitVec.ofInt 64 ((hi * 256 : Nat) : Int) ||| BitVec.ofInt 64 (lo : Int)).toNat : Int) = _
  rw [BitVec.toNat_or, ofInt_u64 _ (by omega), ofInt_u64 _ (by omega), nat_join8 _ _ (by omega) (by omega), IntKind.wrap_i64]
  omega
theorem FnOwn.chg {w w' : World} {base h : Nat} {f : Fn} {u0 u1 u2 u3 : Value} (H : FnOwn w base f u0 u1 u2 u3) (hc : Chg w w' (fun k => k = h)) (hh : h < base) : FnOwn w' base f u0 u1 u2 u3 := by
  have key : ∀ {e : TypeId} {size n : Nat} {v : Value} {xs : List Value}, w.ownsRow base e size v n xs → w'.ownsRow base e size v n xs := fun hr => row_chg4 hr hc fun g hg e => by have := (row_lt4 hr g hg).1; omega
  exact ⟨key H.1, key H.2.1, key H.2.2.1, key H.2.2.2⟩
/-- How a function that was read ends. -/
def FnEnd (f : Fn) (p h g : Nat) (st : RSt) (w : World) (x : Ending) (w' : World) : Prop := (∃ u0 u1 u2 u3, x = .returned (.agg #[u0, u1, u2, u3]) ∧ FnOwn w' w.heap.size f u0 u1 u2 u3) ∧ RdS w' p h g st.1 st.2 ∧ Chg w w' (fun k => k = h)
theorem chg_set4 (w : World) (b : Nat) (x0 x1 x2 x3 : Value) : Chg w (set4 w b x0 x1 x2 x3) (fun k => k = b) :=
  (((Chg.setCell w ⟨b, 0, none⟩ x0).trans (Chg.setCell _ ⟨b, 1, none⟩ x1) fun _ _ e => e).trans (Chg.setCell _ ⟨b, 2, none⟩ x2) fun _ _ e => e).trans (Chg.setCell _ ⟨b, 3, none⟩ x3) fun _ _ e => e
set_option maxRecDepth 100000 in
set_option maxHeartbeats 1000000 in
theorem gfn_s (p h g : Nat) (s : RSt) (w : World) (H : RdS w p h g s.1 s.2) (hg : g < w.heap.size) : Calls Try.prog 75 #[rdV p] w (FnEnd (gFn s).1 p h g (gFn s).2 w) := by
  obtain ⟨hp, hh⟩ := rds_lt4 H
  obtain ⟨W1, hW1⟩ : ∃ W1, W1 = (w.alloc (.cells #[.pointer (some ⟨p, 0, none⟩)] 70)).alloc (.cells #[.slice none 0 0, .slice none 0 0, .slice none 0 0, .slice none 0 0] 32) := ⟨_, rfl⟩
  have hC1 : Chg w W1 (fun k => k = h) := by rw [hW1]; exact (Chg.alloc w _ _).trans (Chg.alloc _ _ _) (fun _ _ e => e)
  have H1 : RdS W1 p h g s.1 s.2 := by rw [hW1]; exact (H.chg (Chg.alloc w _ (fun _ => False)) id id id).chg (Chg.alloc _ _ (fun _ => False)) id id id
  have bA : W1.heap[w.heap.size]? = some (.cells #[.pointer (some ⟨p, 0, none⟩)] 70 (0, 0)) := by rw [hW1, Below.heap_alloc _ _ _ (by simp)]; exact heap_alloc_new w _
  have bB : W1.heap[w.heap.size + 1]? = some (.cells #[.slice none 0 0, .slice none 0 0, .slice none 0 0, .slice none 0 0] 32 (0, 0)) := by
    have := heap_alloc_new (w.alloc (.cells #[.pointer (some ⟨p, 0, none⟩)] 70)) (.cells #[.slice none 0 0, .slice none 0 0, .slice none 0 0, .slice none 0 0] 32)
    rw [hW1]; simpa using this
  have lB := lt_of_block bB
  have hbox : ∀ W, Chg W1 W (fun k => k = h) → W.cell? ⟨w.heap.size, 0, none⟩ = some (.pointer (some ⟨p, 0, none⟩)) := fun W hW => by
    rw [Lib.cell_of_heap ((hW.block _ (by omega) (by omega)).trans bA)]; rfl
  have hres : ∀ W, Chg W1 W (fun k => k = h) → W.heap[w.heap.size + 1]? = some (.cells #[.slice none 0 0, .slice none 0 0, .slice none 0 0, .slice none 0 0] 32 (0, 0)) := fun W hW => (hW.block _ lB (by omega)).trans bB
  have z1 := hC1.size
  have hgW : ∀ W, Chg W1 W (fun k => k = h) → g < W.heap.size := fun W hW => Nat.lt_of_lt_of_le hg (Nat.le_trans z1 hW.size)
  -- what is read
  have hT0 := gtypes_s p h g s W1.drew (H1.chg (Chg.drew W1 (fun _ => False)) id id id) (hgW _ (Chg.drew _ _))
  have hF : gFn s = (⟨(gTypes s).1, (gTypes (gTypes s).2).1, (gTypes (gTypes (gTypes s).2).2).1, (gCode (gTypes (gTypes (gTypes s).2).2).2).1⟩, (gCode (gTypes (gTypes (gTypes s).2).2).2).2) := rfl
  rw [hF]
  clear hF
  obtain ⟨P0, hP0⟩ : ∃ x, x = (gTypes s).1 := ⟨_, rfl⟩
  obtain ⟨s0, hs0⟩ : ∃ x, x = (gTypes s).2 := ⟨_, rfl⟩
  rw [← hP0, ← hs0] at hT0 ⊢
  have hT1 : ∀ W, RdS W p h g s0.1 s0.2 → Chg W1 W (fun k => k = h) → _ := fun W HW hW => gtypes_s p h g s0 W HW (hgW W hW)
  obtain ⟨P1, hP1⟩ : ∃ x, x = (gTypes s0).1 := ⟨_, rfl⟩
  obtain ⟨s1, hs1⟩ : ∃ x, x = (gTypes s0).2 := ⟨_, rfl⟩
  rw [← hP1, ← hs1] at hT1 ⊢
  have hT2 : ∀ W, RdS W p h g s1.1 s1.2 → Chg W1 W (fun k => k = h) → _ := fun W HW hW => gtypes_s p h g s1 W HW (hgW W hW)
  obtain ⟨P2, hP2⟩ : ∃ x, x = (gTypes s1).1 := ⟨_, rfl⟩
  obtain ⟨s2, hs2⟩ : ∃ x, x = (gTypes s1).2 := ⟨_, rfl⟩
  rw [← hP2, ← hs2] at hT2 ⊢
  obtain ⟨n1, l1, e1⟩ := gByte_nat s2
  obtain ⟨n2, l2, e2⟩ := gByte_nat (gByte s2).2
  have hB1 : ∀ W, RdS W p h g s2.1 s2.2 → _ := fun W HW => gbyte_s p h g s2 W HW
  have hG : gCode s2 = gMany gIns (n1 * 256 + n2) (gByte (gByte s2).2).2 := by unfold gCode; rw [e1, e2, Int.toNat_natCast, Int.toNat_natCast]
  rw [hG]
  rw [e1] at hB1
  generalize (gByte s2).2 = s3 at *
  have hB2 : ∀ W, RdS W p h g s3.1 s3.2 → _ := fun W HW => gbyte_s p h g s3 W HW
  rw [e2] at hB2
  generalize (gByte s3).2 = s4 at *
  have hM : ∀ W, RdS W p h g s4.1 s4.2 → Chg W1 W (fun k => k = h) → _ := fun W HW hW => manyI p h g gIns W (n1 * 256 + n2) s4 HW (hgW W hW) (by omega) (fun W' s' h' hz => gins_s p h g s' W' h' (Nat.lt_of_lt_of_le (hgW W hW) hz))
  have hor := or256 n1 n2 l1 l2
  generalize n1 * 256 + n2 = N at hM hor ⊢
  generalize (gMany gIns N s4).1 = P3 at hM ⊢
  generalize (gMany gIns N s4).2 = s5 at hM ⊢
  have fin : ∀ (w9 : World) u0 u1 u2 u3, w9.ownsRow w.heap.size 3 1 u0 P0.length (cellsN P0) → w9.ownsRow w.heap.size 3 1 u1 P1.length (cellsN P1) → w9.ownsRow w.heap.size 3 1 u2 P2.length (cellsN P2) → w9.ownsRow w.heap.size 51 2 u3 P3.length (cellsI P3) → RdS w9 p h g s5.1 s5.2 → Chg w w9 (fun k => k = h) → FnEnd ⟨P0, P1, P2, P3⟩ p h g s5 w (.returned (.agg #[u0, u1, u2, u3])) w9 := fun w9 u0 u1 u2 u3 q0 q1 q2 q3 HR hc => ⟨⟨u0, u1, u2, u3, rfl, q0, q1, q2, q3⟩, HR, hc⟩
  generalize P0.length = m0 at *
  generalize P1.length = m1 at *
  generalize P2.length = m2 at *
  generalize P3.length = m3 at *
  generalize cellsN P0 = x0 at *
  generalize cellsN P1 = x1 at *
  generalize cellsN P2 = x2 at *
  generalize cellsI P3 = x3 at *
  have hD0 : Chg W1 W1.drew (fun k => k = h) := Chg.drew _ _
  have c0 := hbox W1 (Chg.refl _ _)
  clear hG e1 e2 hP0 hP1 hP2 hs0 hs1 hs2
  go_enter Try.func75, Try.ntmps75
  go_wp2_with fail
  rw [← hW1]
  clear hW1
  go_region_held3 (fun W => W.cell? ⟨w.heap.size, 0, none⟩ = some (.pointer (some ⟨p, 0, none⟩))) (first | go_keep | exact hbox _ hD6 | exact hbox _ hD5 | exact hbox _ hD4 | exact hbox _ hD3 | exact hbox _ hD2 | exact hbox _ hD1 | exact hbox _ hD0 | exact hbox _ (Chg.refl _ _)) (first | (go_at_call 94; first | (refine hT0.mono ?_; clear hT0; rintro e w1 ⟨⟨r0, rfl, q0⟩, I1, k1⟩; obtain ⟨b0, d0, rfl, _⟩ := row_form q0; have hD1 := hD0.trans k1 fun _ _ e => e; have hU1 := hT1 w1 I1 hD1; clear hT1) | (refine hU1.mono ?_; clear hU1; rintro e w2 ⟨⟨r1, rfl, q1⟩, I2, k2⟩; obtain ⟨b1, d1, rfl, _⟩ := row_form q1; have hD2 := hD1.trans k2 fun _ _ e => e; have hU2 := hT2 w2 I2 hD2; clear hT2) | (refine hU2.mono ?_; clear hU2; rintro e w3 ⟨⟨r2, rfl, q2⟩, I3, k3⟩; obtain ⟨b2, d2, rfl, _⟩ := row_form q2; have hD3 := hD2.trans k3 fun _ _ e => e; have hU3 := hB1 w3 I3; clear hB1)) | (go_at_call 72; first | (refine hU3.mono ?_; clear hU3; rintro e w4 ⟨rfl, I4, k4⟩; have hD4 := hD3.trans k4 fun _ _ e => e; have hU4 := hB2 w4 I4; clear hB2) | (refine hU4.mono ?_; clear hU4; rintro e w5 ⟨rfl, I5, k5⟩; have hD5 := hD4.trans k5 fun _ _ e => e; have hU5 := hM w5 I5 hD5; clear hM)) | (go_at_call 95; refine hU5.mono ?_; clear hU5; rintro e w6 ⟨⟨r3, rfl, q3⟩, I6, k6⟩; obtain ⟨b3, d3, rfl, _⟩ := row_form q3; have hD6 := hD5.trans k6 fun _ _ e => e; have b6 := hres w6 hD6; have y0 : w6.cell? ⟨w.heap.size + 1, 0, none⟩ = some (.slice none 0 0) := (by rw [Lib.cell_of_heap b6]; rfl); have y1 : w6.cell? ⟨w.heap.size + 1, 1, none⟩ = some (.slice none 0 0) := (by rw [Lib.cell_of_heap b6]; rfl); have y2 : w6.cell? ⟨w.heap.size + 1, 2, none⟩ = some (.slice none 0 0) := (by rw [Lib.cell_of_heap b6]; rfl); have y3 : w6.cell? ⟨w.heap.size + 1, 3, none⟩ = some (.slice none 0 0) := (by rw [Lib.cell_of_heap b6]; rfl); have o0 := Lib.frozen_of_heap b6 0; have o1 := Lib.frozen_of_heap b6 1; have o2 := Lib.frozen_of_heap b6 2; have o3 := Lib.frozen_of_heap b6 3))
  all_goals
    have t1 : w.heap.size + 2 ≤ w1.heap.size := by have := hD1.size; omega
    have t2 : w.heap.size + 2 ≤ w2.heap.size := by have := hD2.size; omega
    have t5 : w.heap.size + 2 ≤ w5.heap.size := by have := hD5.size; omega
    have zz : W1.drew.heap.size = W1.heap.size := rfl
    have B0 : w.heap.size + 2 ≤ W1.drew.heap.size := by rw [zz]; omega
    have key : ∀ {W W' : World} {e : TypeId} {size n : Nat} {v : Value} {xs : List Value} {base : Nat}, W.ownsRow base e size v n xs → Chg W W' (fun k => k = h) → w.heap.size + 2 ≤ base → W'.ownsRow base e size v n xs := fun hr hc hb => row_chg4 hr hc fun g hg e => by have := (row_lt4 hr g hg).1; omega
    have T0 := key (key (key (key (key q0 k2 B0) k3 B0) k4 B0) k5 B0) k6 B0
    have T1 := key (key (key (key q1 k3 t1) k4 t1) k5 t1) k6 t1
    have T2 := key (key (key q2 k4 t2) k5 t2) k6 t2
    have Q0 := row_lower4 (set4_row (b := w.heap.size + 1) (.slice b0 m0 d0) (.slice b1 m1 d1) (.slice b2 m2 d2) (.slice b3 m3 d3) T0 (by omega)) (show w.heap.size ≤ _ by omega)
    have Q1 := row_lower4 (set4_row (b := w.heap.size + 1) (.slice b0 m0 d0) (.slice b1 m1 d1) (.slice b2 m2 d2) (.slice b3 m3 d3) T1 (by omega)) (show w.heap.size ≤ _ by omega)
    have Q2 := row_lower4 (set4_row (b := w.heap.size + 1) (.slice b0 m0 d0) (.slice b1 m1 d1) (.slice b2 m2 d2) (.slice b3 m3 d3) T2 (by omega)) (show w.heap.size ≤ _ by omega)
    have Q3 := row_lower4 (set4_row (b := w.heap.size + 1) (.slice b0 m0 d0) (.slice b1 m1 d1) (.slice b2 m2 d2) (.slice b3 m3 d3) q3 (by omega)) (show w.heap.size ≤ _ by omega)
    obtain ⟨j0, j1, j2, j3⟩ := set4_cells (.slice b0 m0 d0) (.slice b1 m1 d1) (.slice b2 m2 d2) (.slice b3 m3 d3) y0 y1 y2 y3
    have kk := chg_set4 w6 (w.heap.size + 1) (.slice b0 m0 d0) (.slice b1 m1 d1) (.slice b2 m2 d2) (.slice b3 m3 d3)
    have F := fin _ _ _ _ _ Q0 Q1 Q2 Q3 (I6.chg kk (by omega) (by omega) (by omega)) ((hC1.trans hD6 fun _ _ e => e).trans kk fun i hi e => by omega)
    rw [show ((((w6.setCell ⟨w.heap.size + 1, 0, none⟩ (.slice b0 m0 d0)).setCell ⟨w.heap.size + 1, 1, none⟩ (.slice b1 m1 d1)).setCell ⟨w.heap.size + 1, 2, none⟩ (.slice b2 m2 d2)).setCell ⟨w.heap.size + 1, 3, none⟩ (.slice b3 m3 d3)) = set4 w6 (w.heap.size + 1) (.slice b0 m0 d0) (.slice b1 m1 d1) (.slice b2 m2 d2) (.slice b3 m3 d3) from rfl]
    generalize set4 w6 (w.heap.size + 1) (.slice b0 m0 d0) (.slice b1 m1 d1) (.slice b2 m2 d2) (.slice b3 m3 d3) = W9 at j0 j1 j2 j3 F ⊢
    go_wp2_with fail
    exact bodyPost_ret (results_cell1 rfl _ _ _ _ _ rfl (load_fn j0 j1 j2 j3)) rfl F
end Go.Proofs.Ytkbmmaacmofijaa
