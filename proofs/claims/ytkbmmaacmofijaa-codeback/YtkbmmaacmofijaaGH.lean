/- code.Get of any bytes. -/
import Derived.Test.YtkbmmaacmofijaaGG
import Derived.Test.YtkbmmaacmofijaaCRd
namespace Go.Proofs.Ytkbmmaacmofijaa
open Go.RowKit
theorem gText_len (s : RSt) : (gText s).1.length ≤ 65535 := by
  unfold gText ansText
  simp only
  split
  · simp
  split
  · simp
  · have := tl_le s.1
    simp only [List.length_take]
    omega
theorem gMany_len {α : Type} {one : RSt → α × RSt} : ∀ (n : Nat) (s : RSt), (gMany one n s).1.length ≤ n
  | 0, _ => Nat.le_refl _
  | n + 1, s => by
    unfold gMany
    split
    · simp
    · simp only [List.length_cons]
      have := gMany_len (one := one) n (one s).2
      omega
theorem gMany_all {α : Type} {one : RSt → α × RSt} {P : α → Prop} (h : ∀ s, P (one s).1) : ∀ (n : Nat) (s : RSt), ∀ x ∈ (gMany one n s).1, P x
  | 0, _ => fun x hx => by simp [gMany] at hx
  | n + 1, s => fun x hx => by
    unfold gMany at hx
    split at hx
    · simp at hx
    · simp only [List.mem_cons] at hx
      rcases hx with rfl | hx
      · exact h s
      · exact gMany_all h n _ x hx
theorem gByte_le (s : RSt) : (gByte s).1.toNat ≤ 255 := by
  obtain ⟨n, hn, e⟩ := gByte_nat s
  rw [e, Int.toNat_natCast]; exact hn
theorem gFn_fits (s : RSt) : (gFn s).1.fits := by
  have hT : ∀ s, (gTypes s).1.length ≤ 255 := fun s => Nat.le_trans (gMany_len _ _) (gByte_le s)
  have hC : ∀ s, (gCode s).1.length ≤ 65535 := fun s => Nat.le_trans (gMany_len _ _) (by have := gByte_le s; have := gByte_le (gByte s).2; omega)
  have h0 := hT s
  have h1 := hT (gTypes s).2
  have h2 := hT (gTypes (gTypes s).2).2
  have h3 := hC (gTypes (gTypes (gTypes s).2).2).2
  exact ⟨Nat.le_trans h0 (by decide), Nat.le_trans h1 (by decide), Nat.le_trans h2 (by decide), Nat.le_trans h3 (by decide)⟩
theorem gScr_fits (s : RSt) : (gScr s).1.fits := by
  have h0 : (gConsts s).1.length ≤ 255 := Nat.le_trans (gMany_len _ _) (gByte_le s)
  have h1 : (gFuncs (gConsts s).2).1.length ≤ 255 := Nat.le_trans (gMany_len _ _) (gByte_le _)
  exact ⟨Nat.le_trans h0 (by decide), Nat.le_trans h1 (by decide), gMany_all gFn_fits _ _, fun x hx => Nat.le_trans (gMany_all (P := fun x => x.length ≤ 65535) gText_len _ _ x hx) (by decide)⟩
theorem ss_up {w : World} {base n : Nat} {e : TypeId} {v : Value} {ns : List (List UInt8)} (h : w.ownsRow base e 1 v n (cellsS ns)) : ∃ a c, v = .slice a ns.length c ∧ SsAt (upFrom w base) a ns := by
  obtain ⟨hn, a, c, rfl, _, hs⟩ := ss_of_row h (C := upFrom w base) (fun a x hb e => upFrom_at hb e)
  exact ⟨a, c, by rw [hn], hs⟩
/-- How a script that was read ends. -/
def ScrEnd (s : Scr) (p h g : Nat) (st : RSt) (w : World) (x : Ending) (w' : World) : Prop := (∃ u0 u1, x = .returned (.agg #[u0, u1]) ∧ ScIs (upFrom w' (w.heap.size + 2)) s u0 u1) ∧ RdS w' p h g st.1 st.2 ∧ Chg w w' (fun k => k = h)
set_option maxRecDepth 100000 in
set_option maxHeartbeats 1000000 in
theorem gscr_s (p h g : Nat) (s : RSt) (w : World) (H : RdS w p h g s.1 s.2) (hg : g < w.heap.size) : Calls Try.prog 39 #[rdV p] w (ScrEnd (gScr s).1 p h g (gScr s).2 w) := by
  obtain ⟨hp, hh⟩ := rds_lt4 H
  obtain ⟨W1, hW1⟩ : ∃ W1, W1 = (w.alloc (.cells #[.pointer (some ⟨p, 0, none⟩)] 70)).alloc (.cells #[.slice none 0 0, .slice none 0 0] 25) := ⟨_, rfl⟩
  have hC1 : Chg w W1 (fun k => k = h) := by rw [hW1]; exact (Chg.alloc w _ _).trans (Chg.alloc _ _ _) (fun _ _ e => e)
  have H1 : RdS W1 p h g s.1 s.2 := by rw [hW1]; exact (H.chg (Chg.alloc w _ (fun _ => False)) id id id).chg (Chg.alloc _ _ (fun _ => False)) id id id
  have bA : W1.heap[w.heap.size]? = some (.cells #[.pointer (some ⟨p, 0, none⟩)] 70 (0, 0)) := by rw [hW1, Below.heap_alloc _ _ _ (by simp)]; exact heap_alloc_new w _
  have bB : W1.heap[w.heap.size + 1]? = some (.cells #[.slice none 0 0, .slice none 0 0] 25 (0, 0)) := by
    have := heap_alloc_new (w.alloc (.cells #[.pointer (some ⟨p, 0, none⟩)] 70)) (.cells #[.slice none 0 0, .slice none 0 0] 25)
    rw [hW1]; simpa using this
  have lB := lt_of_block bB
  have hz : W1.heap.size = w.heap.size + 2 := by rw [hW1]; simp
  have hbox : ∀ W, Chg W1 W (fun k => k = h) → W.cell? ⟨w.heap.size, 0, none⟩ = some (.pointer (some ⟨p, 0, none⟩)) := fun W hW => by
    rw [Lib.cell_of_heap ((hW.block _ (by omega) (by omega)).trans bA)]; rfl
  have hres : ∀ W, Chg W1 W (fun k => k = h) → W.heap[w.heap.size + 1]? = some (.cells #[.slice none 0 0, .slice none 0 0] 25 (0, 0)) := fun W hW => (hW.block _ lB (by omega)).trans bB
  have hgW : ∀ W, Chg W1 W (fun k => k = h) → g < W.heap.size := fun W hW => Nat.lt_of_lt_of_le hg (Nat.le_trans hC1.size hW.size)
  have hB0 := gbyte_s p h g s W1.drew (H1.chg (Chg.drew W1 (fun _ => False)) id id id)
  obtain ⟨n1, l1, e1⟩ := gByte_nat s
  have hc : gConsts s = gMany gText n1 (gByte s).2 := by unfold gConsts; rw [e1, Int.toNat_natCast]
  have hS : gScr s = (⟨(gConsts s).1, (gFuncs (gConsts s).2).1⟩, (gFuncs (gConsts s).2).2) := rfl
  rw [hS, hc]
  rw [e1] at hB0
  generalize (gByte s).2 = s1 at *
  have hM1 : ∀ W, RdS W p h g s1.1 s1.2 → Chg W1 W (fun k => k = h) → _ := fun W HW hW => manyS p h g gText W n1 s1 HW (hgW W hW) (by omega) (fun W' s' h' _ => gtext_s p h g s' W' h')
  generalize (gMany gText n1 s1).1 = P0 at hM1 ⊢
  generalize (gMany gText n1 s1).2 = s2 at hM1 ⊢
  have hB1 : ∀ W, RdS W p h g s2.1 s2.2 → _ := fun W HW => gbyte_s p h g s2 W HW
  obtain ⟨n2, l2, e2⟩ := gByte_nat s2
  have hf : gFuncs s2 = gMany gFn n2 (gByte s2).2 := by unfold gFuncs; rw [e2, Int.toNat_natCast]
  rw [hf]
  rw [e2] at hB1
  generalize (gByte s2).2 = s3 at *
  have hM2 : ∀ W, RdS W p h g s3.1 s3.2 → Chg W1 W (fun k => k = h) → _ := fun W HW hW => manyF p h g W n2 s3 HW (hgW W hW) (by omega)
  generalize (gMany gFn n2 s3).1 = P1 at hM2 ⊢
  generalize (gMany gFn n2 s3).2 = s4 at hM2 ⊢
  have hD0 : Chg W1 W1.drew (fun k => k = h) := Chg.drew _ _
  have c0 := hbox W1 (Chg.refl _ _)
  have fin : ∀ (w9 : World) a0 d0 a1 d1, SsAt (upFrom w9 (w.heap.size + 2)) a0 P0 → FsAt (upFrom w9 (w.heap.size + 2)) a1 P1 → RdS w9 p h g s4.1 s4.2 → Chg w w9 (fun k => k = h) → ScrEnd ⟨P0, P1⟩ p h g s4 w (.returned (.agg #[.slice a0 P0.length d0, .slice a1 P1.length d1])) w9 := fun w9 a0 d0 a1 d1 q0 q1 HR hc => ⟨⟨_, _, rfl, ⟨a0, d0, rfl, q0⟩, ⟨a1, d1, rfl, q1⟩⟩, HR, hc⟩
  clear hc hf hS e1 e2
  go_enter Try.func39, Try.ntmps39
  go_wp2_with fail
  rw [← hW1]
  clear hW1
  go_region_held3 (fun W => W.cell? ⟨w.heap.size, 0, none⟩ = some (.pointer (some ⟨p, 0, none⟩))) (first | go_keep | exact hbox _ hD4 | exact hbox _ hD3 | exact hbox _ hD2 | exact hbox _ hD1 | exact hbox _ hD0 | exact hbox _ (Chg.refl _ _)) (first | (go_at_call 72; first | (refine hB0.mono ?_; clear hB0; rintro e w1 ⟨rfl, I1, k1⟩; have hD1 := hD0.trans k1 fun _ _ e => e; have hU1 := hM1 w1 I1 hD1; clear hM1) | (refine hU2.mono ?_; clear hU2; rintro e w3 ⟨rfl, I3, k3⟩; have hD3 := hD2.trans k3 fun _ _ e => e; have hU3 := hM2 w3 I3 hD3; clear hM2)) | (go_at_call 71; refine hU1.mono ?_; clear hU1; rintro e w2 ⟨⟨r0, rfl, q0⟩, I2, k2⟩; obtain ⟨a0, d0, rfl, q0'⟩ := ss_up q0; have hD2 := hD1.trans k2 fun _ _ e => e; have hU2 := hB1 w2 I2; clear hB1) | (go_at_call 74; refine hU3.mono ?_; clear hU3; rintro e w4 ⟨⟨a1, d1, rfl, q1⟩, I4, k4⟩; have hD4 := hD3.trans k4 fun _ _ e => e; have b4 := hres w4 hD4; obtain ⟨y0, y1, o0, o1⟩ := cells2 b4))
  all_goals
    have z1 : w.heap.size + 2 ≤ w1.heap.size := by have := hD1.size; omega
    have z3 : w.heap.size + 2 ≤ w3.heap.size + 1 := by have := hD3.size; omega
    have s1' := Chg.setCell w4 ⟨w.heap.size + 1, 0, none⟩ (.slice a0 P0.length d0)
    have s2' := s1'.trans (Chg.setCell _ ⟨w.heap.size + 1, 1, none⟩ (.slice a1 P1.length d1)) fun _ _ e => e
    have T0 := ((q0'.keep (upFrom_chg k3 (B' := w1.heap.size) (fun i (e : i = h) => by omega) (Nat.le_refl _))).keep (upFrom_chg k4 (B' := w1.heap.size) (fun i (e : i = h) => by omega) (Nat.le_refl _))).keep (upFrom_chg s2' (B' := w.heap.size + 2) (fun i (e : i = w.heap.size + 1) => by omega) z1)
    have T1 := q1.keep (upFrom_chg s2' (B' := w.heap.size + 2) (fun i (e : i = w.heap.size + 1) => by have := hD3.size; omega) z3)
    have F := fin _ a0 d0 a1 d1 T0 T1 (I4.chg s2' (by show ¬ p = w.heap.size + 1; omega) (by show ¬ h = w.heap.size + 1; omega) (by show ¬ g = w.heap.size + 1; omega)) ((hC1.trans hD4 fun _ _ e => e).trans s2' fun i hi (e : i = w.heap.size + 1) => by omega)
    obtain ⟨j0, j1, _, _⟩ := cells2 (set2_1 (u := .slice a1 P1.length d1) (set2_0 (u := .slice a0 P0.length d0) b4))
    go_wp2_with fail
    exact bodyPost_ret (results_cell1 rfl _ _ _ _ _ rfl (load_scr j0 j1)) rfl F
end Go.Proofs.Ytkbmmaacmofijaa
