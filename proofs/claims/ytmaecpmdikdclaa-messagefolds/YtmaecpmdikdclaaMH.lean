/- Layer 17: the law's logs and records, made out of the document's. -/
import Derived.Test.YtmaecpmdikdclaaMG
namespace Go.Proofs.Ytmaecpmdikdclaa
open Go.RowKit
/-- A log of the program's: a row of its own, from block B on. -/
structure LogAt (w : World) (B : Nat) (v : Value) (L : List Ent) : Prop where
  row : w.ownsRow B 109 2 v L.length (cellsE L)
theorem LogAt.below {w w' : World} {B : Nat} {v : Value} {L : List Ent} (h : LogAt w B v L) (k : Below w.heap.size w w') : LogAt w' B v L := ⟨row_below2 h.row k⟩
theorem LogAt.form {w : World} {B : Nat} {v : Value} {L : List Ent} (h : LogAt w B v L) : ∃ a c, v = .slice a L.length c ∧ EsAt w.cell? a L := by
  obtain ⟨_, a, c, e, hE⟩ := es_of_row h.row
  exact ⟨a, c, e, hE⟩
set_option maxRecDepth 100000 in
set_option maxHeartbeats 1000000 in
theorem logS_any (a : Option Addr) (n c : Nat) (L : List Ent) (w : World) (hn : L.length = n) (hN : EsAt w.cell? a L) (hm : n ≤ 5864062014805) : Calls Try.prog 33 #[.slice a n c] w fun e w' => ∃ v, e = .returned v ∧ LogAt w' w.heap.size v L ∧ Below w.heap.size w w' := by
  have HN := hid hn
  have HZ := hid hN
  clear hn hN
  go_enter Try.func33, Try.ntmps33
  go_wp2_with fail
  go_loopw [3, 4] (fun v iv wr => ∃ k : Nat, iv = .int .i64 k ∧ k ≤ n ∧ Hid (wr.ownsRow w.heap.size 109 2 v k (cellsE (L.take k))) ∧ Hid (Below w.heap.size w wr)) (fun _ iv _ => n - (intOf iv).toNat)
  case atStart => exact ⟨0, rfl, Nat.zero_le _, hid (by rw [List.take_zero]; exact World.ownsRow_nil _ _ _ _), hid (Below.refl _ _)⟩
  case round =>
    obtain ⟨k, rfl, hk, HR, HB⟩ := hrel
    by_cases hlt : k < n
    · have hkl : k < L.length := by rw [HN.out]; exact hlt
      obtain ⟨zb, zo, e1, y0, y1⟩ := HZ.out.get hkl
      subst e1
      obtain ⟨ra, rc, rfl, _, _, _⟩ := row_form HR.out
      have HP : Hid (cellsE (L.take (k + 1)) = cellsE (L.take k) ++ [.int .i64 L[k].v, .string ⟨L[k].d.toArray⟩]) := hid (by rw [List.take_add_one, List.getElem?_eq_getElem hkl, cellsE_app]; rfl)
      have HC : Hid (∀ W, Below wr.heap.size wr W → W.cell? ⟨zb, zo + k * 2, none⟩ = some (.int .i64 L[k].v) ∧ W.cell? ⟨zb, zo + k * 2 + 1, none⟩ = some (.string ⟨L[k].d.toArray⟩)) := hid fun W hW => by
        have h := HB.out.trans (hW.mono HB.out.size)
        exact ⟨below_keep h _ _ y0, below_keep h _ _ y1⟩
      obtain ⟨z0, z1⟩ := HC.out wr (Below.refl _ _)
      obtain ⟨u0, u1⟩ := HC.out wr.drew (Below.refl _ _).drew
      generalize L[k].v = xv at *
      generalize L[k].d = xd at *
      generalize cellsE (L.take k) = C1 at *
      have hj0 : (0 : Int) ≤ (k : Int) := by omega
      have hj1 : (k : Int) < (n : Int) := by omega
      have hbs := HB.out.size
      clear HZ y0 y1
      go_wp2_with fail
      go_region_law (refine step_appN _ (by rfl) (.tmp 11) (.tmp 23) 27 (by rfl) elemN_ent w.heap.size (.slice ra k rc) k C1 (by rfl) (World.ownsRow.alloc (World.ownsRow.drew HR.out) _) _ (by rfl) 1 [.int .i64 xv, .string ⟨xd.toArray⟩] (.inr ⟨⟨_, 0, none⟩, 1, rfl, cells_new4 _ [.int .i64 xv, .string ⟨xd.toArray⟩] 109 _ rfl⟩) rfl (by simp [Value.oneCell']) (by simp only [maxLen]; omega) (by omega) (by simp; omega) ?_; intro v' w6 hr6 hs6)
      all_goals
        have hB6 : Below w.heap.size w w6 := (((HB.out.alloc hbs _).drew).trans (hs6.below (by simp; omega) fun g e => (row_lt4 HR.out g e).1))
        simp [Act.put]
        go_wp2_with fail
        exact ⟨⟨k + 1, by go_num, by omega, by rw [HP.out]; exact hid hr6, hid hB6⟩, by simp [intOf]; omega⟩
    · go_wp2_with fail
      go_ret
      have e : L.take k = L := List.take_of_length_le (by rw [HN.out]; omega)
      have hkn : k = L.length := by rw [HN.out]; omega
      have hR := HR.out
      rw [e] at hR
      rw [hkn] at hR
      exact ⟨_, rfl, ⟨hR⟩, HB.out⟩
set_option maxRecDepth 100000 in
set_option maxHeartbeats 1000000 in
theorem recS_any (r : Rec17) (a : Option Addr) (n c : Nat) (w : World) (hn : r.log.length = n) (hN : EsAt w.cell? a r.log) (hm : n ≤ 5864062014805) : Calls Try.prog 21 #[recV r.kd r.vw r.nm r.op (.slice a n c)] w fun e w' => ∃ v, e = .returned (recV r.kd r.vw r.nm r.op v) ∧ LogAt w' w.heap.size v r.log ∧ Below w.heap.size w w' := by
  obtain ⟨W1, hW1⟩ : ∃ W, W = (w.alloc (.cells #[.int .i64 r.kd, .int .i64 r.vw, .int .i64 r.nm, .int .i64 r.op, .slice a n c] 48)).alloc (.cells #[.int .i64 0, .int .i64 0, .int .i64 0, .int .i64 0, .slice none 0 0] 50) := ⟨_, rfl⟩
  have hz1 : W1.heap.size = w.heap.size + 2 := by rw [hW1]; simp
  have hb1 : Below w.heap.size w W1 := by rw [hW1]; exact (two_boxes _ _ _ _ _).2
  have hB1 : W1.heap[w.heap.size + 1]? = some (.cells #[.int .i64 0, .int .i64 0, .int .i64 0, .int .i64 0, .slice none 0 0] 50 (0, 0)) := by rw [hW1]; exact (two_boxes _ _ _ _ _).1
  have hR1 : W1.heap[w.heap.size]? = some (.cells #[.int .i64 r.kd, .int .i64 r.vw, .int .i64 r.nm, .int .i64 r.op, .slice a n c] 48 (0, 0)) := by rw [hW1, Below.heap_alloc _ _ _ (by simp)]; exact heap_alloc_new w _
  have hC := logS_any a n c r.log W1.drew hn (hN.keep (below_keep (hb1.drew))) hm
  have hS : ∀ W, Below W1.heap.size W1 W → W.cell? ⟨w.heap.size, 0, none⟩ = some (.int .i64 r.kd) ∧ W.cell? ⟨w.heap.size, 1, none⟩ = some (.int .i64 r.vw) ∧ W.cell? ⟨w.heap.size, 2, none⟩ = some (.int .i64 r.nm) ∧ W.cell? ⟨w.heap.size, 3, none⟩ = some (.int .i64 r.op) ∧ W.cell? ⟨w.heap.size, 4, none⟩ = some (.slice a n c) := fun W h => by
    have e := (h.block _ (lt_of_block hR1)).trans hR1
    refine ⟨?_, ?_, ?_, ?_, ?_⟩ <;> (rw [Lib.cell_of_heap e]; rfl)
  obtain ⟨x0, x1, x2, x3, x4⟩ := hS W1 (Below.refl _ _)
  have hD0 : Below W1.heap.size W1 W1.drew := (Below.refl _ _).drew
  clear hn hN hR1
  obtain ⟨kd, vw, nm, op, L⟩ := r
  simp only at *
  go_enter Try.func21, Try.ntmps21
  go_wp2_with fail
  rw [← hW1]
  clear hW1
  go_region_held3 (fun W => W.cell? ⟨w.heap.size, 0, none⟩ = some (.int .i64 kd) ∧ W.cell? ⟨w.heap.size, 1, none⟩ = some (.int .i64 vw) ∧ W.cell? ⟨w.heap.size, 2, none⟩ = some (.int .i64 nm) ∧ W.cell? ⟨w.heap.size, 3, none⟩ = some (.int .i64 op) ∧ W.cell? ⟨w.heap.size, 4, none⟩ = some (.slice a n c)) (first | go_keep | exact hS _ hb3 | exact hS _ hD0 | exact hS _ (Below.refl _ _)) (first | (go_at_call 33; refine hC.mono ?_; clear hC; rintro e w3 ⟨v, rfl, hL3, hb3'⟩; have hb3 : Below W1.heap.size W1 w3 := hD0.trans (hb3'.mono hD0.size); obtain ⟨va, vc, hv, _⟩ := hL3.form; subst hv; have b3 := (hb3.block _ (lt_of_block hB1)).trans hB1; have r0 : w3.cell? ⟨w.heap.size + 1, 0, none⟩ = some (.int .i64 0) := (by rw [Lib.cell_of_heap b3]; rfl); have r1 : w3.cell? ⟨w.heap.size + 1, 1, none⟩ = some (.int .i64 0) := (by rw [Lib.cell_of_heap b3]; rfl); have r2 : w3.cell? ⟨w.heap.size + 1, 2, none⟩ = some (.int .i64 0) := (by rw [Lib.cell_of_heap b3]; rfl); have r3 : w3.cell? ⟨w.heap.size + 1, 3, none⟩ = some (.int .i64 0) := (by rw [Lib.cell_of_heap b3]; rfl); have r4 : w3.cell? ⟨w.heap.size + 1, 4, none⟩ = some (.slice none 0 0) := (by rw [Lib.cell_of_heap b3]; rfl); have f0 := Lib.frozen_of_heap b3 0; have f1 := Lib.frozen_of_heap b3 1; have f2 := Lib.frozen_of_heap b3 2; have f3 := Lib.frozen_of_heap b3 3; have f4 := Lib.frozen_of_heap b3 4))
  all_goals
    have hzd : W1.drew.heap.size = W1.heap.size := rfl
    have hlow : w.heap.size ≤ W1.drew.heap.size := by rw [hzd]; omega
    have kk := setN_chg (b := w.heap.size + 1) [.int .i64 kd, .int .i64 vw, .int .i64 nm, .int .i64 op, .slice va L.length vc] 0 w3
    have F : LogAt (setN w3 (w.heap.size + 1) 0 [.int .i64 kd, .int .i64 vw, .int .i64 nm, .int .i64 op, .slice va L.length vc]) w.heap.size (.slice va L.length vc) L ∧ Below w.heap.size w (setN w3 (w.heap.size + 1) 0 [.int .i64 kd, .int .i64 vw, .int .i64 nm, .int .i64 op, .slice va L.length vc]) := ⟨⟨row_lower4 (row_chg4 hL3.row kk fun g e q => by have := (row_lt4 hL3.row g e).1; rw [hzd] at this; omega) hlow⟩, setN_below _ _ (hb1.trans (hb3.mono hb1.size)) (Nat.le_refl _) (by omega)⟩
    clear hS hB1 hb3' kk
    go_wp2_with fail
    exact ret_set [.int .i64 kd, .int .i64 vw, .int .i64 nm, .int .i64 op, .slice va L.length vc] rfl rfl rfl b3 rfl (fun W' h => load_rec h) ⟨_, rfl, F.1, F.2⟩
set_option maxRecDepth 100000 in
set_option maxHeartbeats 1000000 in
theorem msgS_any (r : Msg) (a : Option Addr) (n c : Nat) (w : World) (hn : r.log.length = n) (hN : EsAt w.cell? a r.log) (hm : n ≤ 5864062014805) : Calls Try.prog 10 #[msgV r.kd r.fr r.tt r.vw r.op r.cm r.nm (.slice a n c)] w fun e w' => ∃ v, e = .returned (msgV r.kd r.fr r.tt r.vw r.op r.cm r.nm v) ∧ LogAt w' w.heap.size v r.log ∧ Below w.heap.size w w' := by
  obtain ⟨W1, hW1⟩ : ∃ W, W = (w.alloc (.cells #[.int .i64 r.kd, .int .i64 r.fr, .int .i64 r.tt, .int .i64 r.vw, .int .i64 r.op, .int .i64 r.cm, .int .i64 r.nm, .slice a n c] 24)).alloc (.cells #[.int .i64 0, .int .i64 0, .int .i64 0, .int .i64 0, .int .i64 0, .int .i64 0, .int .i64 0, .slice none 0 0] 29) := ⟨_, rfl⟩
  have hz1 : W1.heap.size = w.heap.size + 2 := by rw [hW1]; simp
  have hb1 : Below w.heap.size w W1 := by rw [hW1]; exact (two_boxes _ _ _ _ _).2
  have hB1 : W1.heap[w.heap.size + 1]? = some (.cells #[.int .i64 0, .int .i64 0, .int .i64 0, .int .i64 0, .int .i64 0, .int .i64 0, .int .i64 0, .slice none 0 0] 29 (0, 0)) := by rw [hW1]; exact (two_boxes _ _ _ _ _).1
  have hR1 : W1.heap[w.heap.size]? = some (.cells #[.int .i64 r.kd, .int .i64 r.fr, .int .i64 r.tt, .int .i64 r.vw, .int .i64 r.op, .int .i64 r.cm, .int .i64 r.nm, .slice a n c] 24 (0, 0)) := by rw [hW1, Below.heap_alloc _ _ _ (by simp)]; exact heap_alloc_new w _
  have hC := logS_any a n c r.log W1.drew hn (hN.keep (below_keep (hb1.drew))) hm
  have hS : ∀ W, Below W1.heap.size W1 W → W.cell? ⟨w.heap.size, 0, none⟩ = some (.int .i64 r.kd) ∧ W.cell? ⟨w.heap.size, 1, none⟩ = some (.int .i64 r.fr) ∧ W.cell? ⟨w.heap.size, 2, none⟩ = some (.int .i64 r.tt) ∧ W.cell? ⟨w.heap.size, 3, none⟩ = some (.int .i64 r.vw) ∧ W.cell? ⟨w.heap.size, 4, none⟩ = some (.int .i64 r.op) ∧ W.cell? ⟨w.heap.size, 5, none⟩ = some (.int .i64 r.cm) ∧ W.cell? ⟨w.heap.size, 6, none⟩ = some (.int .i64 r.nm) ∧ W.cell? ⟨w.heap.size, 7, none⟩ = some (.slice a n c) := fun W h => by
    have e := (h.block _ (lt_of_block hR1)).trans hR1
    refine ⟨?_, ?_, ?_, ?_, ?_, ?_, ?_, ?_⟩ <;> (rw [Lib.cell_of_heap e]; rfl)
  obtain ⟨x0, x1, x2, x3, x4, x5, x6, x7⟩ := hS W1 (Below.refl _ _)
  have hD0 : Below W1.heap.size W1 W1.drew := (Below.refl _ _).drew
  clear hn hN hR1
  obtain ⟨kd, fr, tt, vw, op, cm, nm, L⟩ := r
  simp only at *
  go_enter Try.func10, Try.ntmps10
  go_wp2_with fail
  rw [← hW1]
  clear hW1
  go_region_held3 (fun W => W.cell? ⟨w.heap.size, 0, none⟩ = some (.int .i64 kd) ∧ W.cell? ⟨w.heap.size, 1, none⟩ = some (.int .i64 fr) ∧ W.cell? ⟨w.heap.size, 2, none⟩ = some (.int .i64 tt) ∧ W.cell? ⟨w.heap.size, 3, none⟩ = some (.int .i64 vw) ∧ W.cell? ⟨w.heap.size, 4, none⟩ = some (.int .i64 op) ∧ W.cell? ⟨w.heap.size, 5, none⟩ = some (.int .i64 cm) ∧ W.cell? ⟨w.heap.size, 6, none⟩ = some (.int .i64 nm) ∧ W.cell? ⟨w.heap.size, 7, none⟩ = some (.slice a n c)) (first | go_keep | exact hS _ hb3 | exact hS _ hD0 | exact hS _ (Below.refl _ _)) (first | (go_at_call 33; refine hC.mono ?_; clear hC; rintro e w3 ⟨v, rfl, hL3, hb3'⟩; have hb3 : Below W1.heap.size W1 w3 := hD0.trans (hb3'.mono hD0.size); obtain ⟨va, vc, hv, _⟩ := hL3.form; subst hv; have b3 := (hb3.block _ (lt_of_block hB1)).trans hB1; have r0 : w3.cell? ⟨w.heap.size + 1, 0, none⟩ = some (.int .i64 0) := (by rw [Lib.cell_of_heap b3]; rfl); have r1 : w3.cell? ⟨w.heap.size + 1, 1, none⟩ = some (.int .i64 0) := (by rw [Lib.cell_of_heap b3]; rfl); have r2 : w3.cell? ⟨w.heap.size + 1, 2, none⟩ = some (.int .i64 0) := (by rw [Lib.cell_of_heap b3]; rfl); have r3 : w3.cell? ⟨w.heap.size + 1, 3, none⟩ = some (.int .i64 0) := (by rw [Lib.cell_of_heap b3]; rfl); have r4 : w3.cell? ⟨w.heap.size + 1, 4, none⟩ = some (.int .i64 0) := (by rw [Lib.cell_of_heap b3]; rfl); have r5 : w3.cell? ⟨w.heap.size + 1, 5, none⟩ = some (.int .i64 0) := (by rw [Lib.cell_of_heap b3]; rfl); have r6 : w3.cell? ⟨w.heap.size + 1, 6, none⟩ = some (.int .i64 0) := (by rw [Lib.cell_of_heap b3]; rfl); have r7 : w3.cell? ⟨w.heap.size + 1, 7, none⟩ = some (.slice none 0 0) := (by rw [Lib.cell_of_heap b3]; rfl); have f0 := Lib.frozen_of_heap b3 0; have f1 := Lib.frozen_of_heap b3 1; have f2 := Lib.frozen_of_heap b3 2; have f3 := Lib.frozen_of_heap b3 3; have f4 := Lib.frozen_of_heap b3 4; have f5 := Lib.frozen_of_heap b3 5; have f6 := Lib.frozen_of_heap b3 6; have f7 := Lib.frozen_of_heap b3 7))
  all_goals
    have hzd : W1.drew.heap.size = W1.heap.size := rfl
    have hlow : w.heap.size ≤ W1.drew.heap.size := by rw [hzd]; omega
    have kk := setN_chg (b := w.heap.size + 1) [.int .i64 kd, .int .i64 fr, .int .i64 tt, .int .i64 vw, .int .i64 op, .int .i64 cm, .int .i64 nm, .slice va L.length vc] 0 w3
    have F : LogAt (setN w3 (w.heap.size + 1) 0 [.int .i64 kd, .int .i64 fr, .int .i64 tt, .int .i64 vw, .int .i64 op, .int .i64 cm, .int .i64 nm, .slice va L.length vc]) w.heap.size (.slice va L.length vc) L ∧ Below w.heap.size w (setN w3 (w.heap.size + 1) 0 [.int .i64 kd, .int .i64 fr, .int .i64 tt, .int .i64 vw, .int .i64 op, .int .i64 cm, .int .i64 nm, .slice va L.length vc]) := ⟨⟨row_lower4 (row_chg4 hL3.row kk fun g e q => by have := (row_lt4 hL3.row g e).1; rw [hzd] at this; omega) hlow⟩, setN_below _ _ (hb1.trans (hb3.mono hb1.size)) (Nat.le_refl _) (by omega)⟩
    clear hS hB1 hb3' kk
    go_wp2_with fail
    exact ret_set [.int .i64 kd, .int .i64 fr, .int .i64 tt, .int .i64 vw, .int .i64 op, .int .i64 cm, .int .i64 nm, .slice va L.length vc] rfl rfl rfl b3 rfl (fun W' h => load_msg h) ⟨_, rfl, F.1, F.2⟩
end Go.Proofs.Ytmaecpmdikdclaa
