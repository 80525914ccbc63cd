/- Layer 17: the law's logs and records, made out of the document's. Layer 17: the law's records. Layer 17: the law's knows. -/
import Derived.Test.YtmaecpmdikdclaaME
namespace Go.Proofs.Ytmaecpmdikdclaa
open Go.RowKit
/-- A log of the program's: a row of its own, from block B on. -/
structure LogAt (w : World) (B : Nat) (v : Value) (L : List Ent) : Prop where
  row : w.ownsRow B 109 2 v L.length (cellsE L)
theorem LogAt.below {w w' : World} {B : Nat} {v : Value} {L : List Ent} (h : LogAt w B v L) (k : Below w.heap.size w w') : LogAt w' B v L := ⟨row_below2 h.row k⟩
theorem LogAt.form {w : World} {B : Nat} {v : Value} {L : List Ent} (h : LogAt w B v L) : ∃ a c, v = .slice a L.length c ∧ EsAt w.cell? a L := by
  obtain ⟨_, a, c, e, hE⟩ := es_of_row h.row
  exact ⟨a, c, e, hE⟩
set_option maxRecDepth 100000 in
set_option maxHeartbeats 1000000 in
theorem logS_any (a : Option Addr) (n c : Nat) (L : List Ent) (w : World) (hn : L.length = n) (hN : EsAt w.cell? a L) (hm : n ≤ 5864062014805) : Calls Try.prog 33 #[.slice a n c] w fun e w' => ∃ v, e = .returned v ∧ LogAt w' w.heap.size v L ∧ Below w.heap.size w w' := by
  have HN := hid hn
  have HZ := hid hN
  clear hn hN
  go_enter Try.func33, Try.ntmps33
  go_wp2_with fail
  go_loopw [3, 4] (fun v iv wr => ∃ k : Nat, iv = .int .i64 k ∧ k ≤ n ∧ Hid (wr.ownsRow w.heap.size 109 2 v k (cellsE (L.take k))) ∧ Hid (Below w.heap.size w wr)) (fun _ iv _ => n - (intOf iv).toNat)
  case atStart => exact ⟨0, rfl, Nat.zero_le _, hid (by rw [List.take_zero]; exact World.ownsRow_nil _ _ _ _), hid (Below.refl _ _)⟩
  case round =>
    obtain ⟨k, rfl, hk, HR, HB⟩ := hrel
    by_cases hlt : k < n
    · have hkl : k < L.length := by rw [HN.out]; exact hlt
      obtain ⟨zb, zo, e1, y0, y1⟩ := HZ.out.get hkl
      subst e1
      obtain ⟨ra, rc, rfl, _, _, _⟩ := row_form HR.out
      have HP : Hid (cellsE (L.take (k + 1)) = cellsE (L.take k) ++ [.int .i64 L[k].v, .string ⟨L[k].d.toArray⟩]) := hid (by rw [List.take_add_one, List.getElem?_eq_getElem hkl, cellsE_app]; rfl)
      have HC : Hid (∀ W, Below wr.heap.size wr W → W.cell? ⟨zb, zo + k * 2, none⟩ = some (.int .i64 L[k].v) ∧ W.cell? ⟨zb, zo + k * 2 + 1, none⟩ = some (.string ⟨L[k].d.toArray⟩)) := hid fun W hW => by
        have h := HB.out.trans (hW.mono HB.out.size)
        exact ⟨below_keep h _ _ y0, below_keep h _ _ y1⟩
      obtain ⟨z0, z1⟩ := HC.out wr (Below.refl _ _)
      obtain ⟨u0, u1⟩ := HC.out wr.drew (Below.refl _ _).drew
      generalize L[k].v = xv at *
      generalize L[k].d = xd at *
      generalize cellsE (L.take k) = C1 at *
      have hj0 : (0 : Int) ≤ (k : Int) := by omega
      have hj1 : (k : Int) < (n : Int) := by omega
      have hbs := HB.out.size
      clear HZ y0 y1
      go_wp2_with fail
      go_region_law (refine step_appN _ (by rfl) (.tmp 11) (.tmp 23) 27 (by rfl) elemN_ent w.heap.size (.slice ra k rc) k C1 (by rfl) (World.ownsRow.alloc (World.ownsRow.drew HR.out) _) _ (by rfl) 1 [.int .i64 xv, .string ⟨xd.toArray⟩] (.inr ⟨⟨_, 0, none⟩, 1, rfl, cells_new4 _ [.int .i64 xv, .string ⟨xd.toArray⟩] 109 _ rfl⟩) rfl (by simp [Value.oneCell']) (by simp only [maxLen]; omega) (by omega) (by simp; omega) ?_; intro v' w6 hr6 hs6)
      all_goals
        have hB6 : Below w.heap.size w w6 := (((HB.out.alloc hbs _).drew).trans (hs6.below (by simp; omega) fun g e => (row_lt4 HR.out g e).1))
        simp [Act.put]
        go_wp2_with fail
        exact ⟨⟨k + 1, by go_num, by omega, by rw [HP.out]; exact hid hr6, hid hB6⟩, by simp [intOf]; omega⟩
    · go_wp2_with fail
      go_ret
      have e : L.take k = L := List.take_of_length_le (by rw [HN.out]; omega)
      have hkn : k = L.length := by rw [HN.out]; omega
      have hR := HR.out
      rw [e] at hR
      rw [hkn] at hR
      exact ⟨_, rfl, ⟨hR⟩, HB.out⟩
set_option maxRecDepth 100000 in
set_option maxHeartbeats 1000000 in
theorem recS_any (r : Rec17) (a : Option Addr) (n c : Nat) (w : World) (hn : r.log.length = n) (hN : EsAt w.cell? a r.log) (hm : n ≤ 5864062014805) : Calls Try.prog 21 #[recV r.kd r.vw r.nm r.op (.slice a n c)] w fun e w' => ∃ v, e = .returned (recV r.kd r.vw r.nm r.op v) ∧ LogAt w' w.heap.size v r.log ∧ Below w.heap.size w w' := by
  obtain ⟨W1, hW1⟩ : ∃ W, W = (w.alloc (.cells #[.int .i64 r.kd, .int .i64 r.vw, .int .i64 r.nm, .int .i64 r.op, .slice a n c] 48)).alloc (.cells #[.int .i64 0, .int .i64 0, .int .i64 0, .int .i64 0, .slice none 0 0] 50) := ⟨_, rfl⟩
  have hz1 : W1.heap.size = w.heap.size + 2 := by rw [hW1]; simp
  have hb1 : Below w.heap.size w W1 := by rw [hW1]; exact (two_boxes _ _ _ _ _).2
  have hB1 : W1.heap[w.heap.size + 1]? = some (.cells #[.int .i64 0, .int .i64 0, .int .i64 0, .int .i64 0, .slice none 0 0] 50 (0, 0)) := by rw [hW1]; exact (two_boxes _ _ _ _ _).1
  have hR1 : W1.heap[w.heap.size]? = some (.cells #[.int .i64 r.kd, .int .i64 r.vw, .int .i64 r.nm, .int .i64 r.op, .slice a n c] 48 (0, 0)) := by rw [hW1, Below.heap_alloc _ _ _ (by simp)]; exact heap_alloc_new w _
  have hC := logS_any a n c r.log W1.drew hn (hN.keep (below_keep (hb1.drew))) hm
  have hS : ∀ W, Below W1.heap.size W1 W → W.cell? ⟨w.heap.size, 0, none⟩ = some (.int .i64 r.kd) ∧ W.cell? ⟨w.heap.size, 1, none⟩ = some (.int .i64 r.vw) ∧ W.cell? ⟨w.heap.size, 2, none⟩ = some (.int .i64 r.nm) ∧ W.cell? ⟨w.heap.size, 3, none⟩ = some (.int .i64 r.op) ∧ W.cell? ⟨w.heap.size, 4, none⟩ = some (.slice a n c) := fun W h => by
    have e := (h.block _ (lt_of_block hR1)).trans hR1
    refine ⟨?_, ?_, ?_, ?_, ?_⟩ <;> (rw [Lib.cell_of_heap e]; rfl)
  obtain ⟨x0, x1, x2, x3, x4⟩ := hS W1 (Below.refl _ _)
  have hD0 : Below W1.heap.size W1 W1.drew := (Below.refl _ _).drew
  clear hn hN hR1
  obtain ⟨kd, vw, nm, op, L⟩ := r
  simp only at *
  go_enter Try.func21, Try.ntmps21
  go_wp2_with fail
  rw [← hW1]
  clear hW1
  go_region_held3 (fun W => W.cell? ⟨w.heap.size, 0, none⟩ = some (.int .i64 kd) ∧ W.cell? ⟨w.heap.size, 1, none⟩ = some (.int .i64 vw) ∧ W.cell? ⟨w.heap.size, 2, none⟩ = some (.int .i64 nm) ∧ W.cell? ⟨w.heap.size, 3, none⟩ = some (.int .i64 op) ∧ W.cell? ⟨w.heap.size, 4, none⟩ = some (.slice a n c)) (first | go_keep | exact hS _ hb3 | exact hS _ hD0 | exact hS _ (Below.refl _ _)) (first | (go_at_call 33; refine hC.mono ?_; clear hC; rintro e w3 ⟨v, rfl, hL3, hb3'⟩; have hb3 : Below W1.heap.size W1 w3 := hD0.trans (hb3'.mono hD0.size); obtain ⟨va, vc, hv, _⟩ := hL3.form; subst hv; have b3 := (hb3.block _ (lt_of_block hB1)).trans hB1; have r0 : w3.cell? ⟨w.heap.size + 1, 0, none⟩ = some (.int .i64 0) := (by rw [Lib.cell_of_heap b3]; rfl); have r1 : w3.cell? ⟨w.heap.size + 1, 1, none⟩ = some (.int .i64 0) := (by rw [Lib.cell_of_heap b3]; rfl); have r2 : w3.cell? ⟨w.heap.size + 1, 2, none⟩ = some (.int .i64 0) := (by rw [Lib.cell_of_heap b3]; rfl); have r3 : w3.cell? ⟨w.heap.size + 1, 3, none⟩ = some (.int .i64 0) := (by rw [Lib.cell_of_heap b3]; rfl); have r4 : w3.cell? ⟨w.heap.size + 1, 4, none⟩ = some (.slice none 0 0) := (by rw [Lib.cell_of_heap b3]; rfl); have f0 := Lib.frozen_of_heap b3 0; have f1 := Lib.frozen_of_heap b3 1; have f2 := Lib.frozen_of_heap b3 2; have f3 := Lib.frozen_of_heap b3 3; have f4 := Lib.frozen_of_heap b3 4))
  all_goals
    have hzd : W1.drew.heap.size = W1.heap.size := rfl
    have hlow : w.heap.size ≤ W1.drew.heap.size := by rw [hzd]; omega
    have kk := setN_chg (b := w.heap.size + 1) [.int .i64 kd, .int .i64 vw, .int .i64 nm, .int .i64 op, .slice va L.length vc] 0 w3
    have F : LogAt (setN w3 (w.heap.size + 1) 0 [.int .i64 kd, .int .i64 vw, .int .i64 nm, .int .i64 op, .slice va L.length vc]) w.heap.size (.slice va L.length vc) L ∧ Below w.heap.size w (setN w3 (w.heap.size + 1) 0 [.int .i64 kd, .int .i64 vw, .int .i64 nm, .int .i64 op, .slice va L.length vc]) := ⟨⟨row_lower4 (row_chg4 hL3.row kk fun g e q => by have := (row_lt4 hL3.row g e).1; rw [hzd] at this; omega) hlow⟩, setN_below _ _ (hb1.trans (hb3.mono hb1.size)) (Nat.le_refl _) (by omega)⟩
    clear hS hB1 hb3' kk
    go_wp2_with fail
    exact ret_set [.int .i64 kd, .int .i64 vw, .int .i64 nm, .int .i64 op, .slice va L.length vc] rfl rfl rfl b3 rfl (fun W' h => load_rec h) ⟨_, rfl, F.1, F.2⟩
set_option maxRecDepth 100000 in
set_option maxHeartbeats 1000000 in
theorem msgS_any (r : Msg) (a : Option Addr) (n c : Nat) (w : World) (hn : r.log.length = n) (hN : EsAt w.cell? a r.log) (hm : n ≤ 5864062014805) : Calls Try.prog 10 #[msgV r.kd r.fr r.tt r.vw r.op r.cm r.nm (.slice a n c)] w fun e w' => ∃ v, e = .returned (msgV r.kd r.fr r.tt r.vw r.op r.cm r.nm v) ∧ LogAt w' w.heap.size v r.log ∧ Below w.heap.size w w' := by
  obtain ⟨W1, hW1⟩ : ∃ W, W = (w.alloc (.cells #[.int .i64 r.kd, .int .i64 r.fr, .int .i64 r.tt, .int .i64 r.vw, .int .i64 r.op, .int .i64 r.cm, .int .i64 r.nm, .slice a n c] 24)).alloc (.cells #[.int .i64 0, .int .i64 0, .int .i64 0, .int .i64 0, .int .i64 0, .int .i64 0, .int .i64 0, .slice none 0 0] 29) := ⟨_, rfl⟩
  have hz1 : W1.heap.size = w.heap.size + 2 := by rw [hW1]; simp
  have hb1 : Below w.heap.size w W1 := by rw [hW1]; exact (two_boxes _ _ _ _ _).2
  have hB1 : W1.heap[w.heap.size + 1]? = some (.cells #[.int .i64 0, .int .i64 0, .int .i64 0, .int .i64 0, .int .i64 0, .int .i64 0, .int .i64 0, .slice none 0 0] 29 (0, 0)) := by rw [hW1]; exact (two_boxes _ _ _ _ _).1
  have hR1 : W1.heap[w.heap.size]? = some (.cells #[.int .i64 r.kd, .int .i64 r.fr, .int .i64 r.tt, .int .i64 r.vw, .int .i64 r.op, .int .i64 r.cm, .int .i64 r.nm, .slice a n c] 24 (0, 0)) := by rw [hW1, Below.heap_alloc _ _ _ (by simp)]; exact heap_alloc_new w _
  have hC := logS_any a n c r.log W1.drew hn (hN.keep (below_keep (hb1.drew))) hm
  have hS : ∀ W, Below W1.heap.size W1 W → W.cell? ⟨w.heap.size, 0, none⟩ = some (.int .i64 r.kd) ∧ W.cell? ⟨w.heap.size, 1, none⟩ = some (.int .i64 r.fr) ∧ W.cell? ⟨w.heap.size, 2, none⟩ = some (.int .i64 r.tt) ∧ W.cell? ⟨w.heap.size, 3, none⟩ = some (.int .i64 r.vw) ∧ W.cell? ⟨w.heap.size, 4, none⟩ = some (.int .i64 r.op) ∧ W.cell? ⟨w.heap.size, 5, none⟩ = some (.int .i64 r.cm) ∧ W.cell? ⟨w.heap.size, 6, none⟩ = some (.int .i64 r.nm) ∧ W.cell? ⟨w.heap.size, 7, none⟩ = some (.slice a n c) := fun W h => by
    have e := (h.block _ (lt_of_block hR1)).trans hR1
    refine ⟨?_, ?_, ?_, ?_, ?_, ?_, ?_, ?_⟩ <;> (rw [Lib.cell_of_heap e]; rfl)
  obtain ⟨x0, x1, x2, x3, x4, x5, x6, x7⟩ := hS W1 (Below.refl _ _)
  have hD0 : Below W1.heap.size W1 W1.drew := (Below.refl _ _).drew
  clear hn hN hR1
  obtain ⟨kd, fr, tt, vw, op, cm, nm, L⟩ := r
  simp only at *
  go_enter Try.func10, Try.ntmps10
  go_wp2_with fail
  rw [← hW1]
  clear hW1
  go_region_held3 (fun W => W.cell? ⟨w.heap.size, 0, none⟩ = some (.int .i64 kd) ∧ W.cell? ⟨w.heap.size, 1, none⟩ = some (.int .i64 fr) ∧ W.cell? ⟨w.heap.size, 2, none⟩ = some (.int .i64 tt) ∧ W.cell? ⟨w.heap.size, 3, none⟩ = some (.int .i64 vw) ∧ W.cell? ⟨w.heap.size, 4, none⟩ = some (.int .i64 op) ∧ W.cell? ⟨w.heap.size, 5, none⟩ = some (.int .i64 cm) ∧ W.cell? ⟨w.heap.size, 6, none⟩ = some (.int .i64 nm) ∧ W.cell? ⟨w.heap.size, 7, none⟩ = some (.slice a n c)) (first | go_keep | exact hS _ hb3 | exact hS _ hD0 | exact hS _ (Below.refl _ _)) (first | (go_at_call 33; refine hC.mono ?_; clear hC; rintro e w3 ⟨v, rfl, hL3, hb3'⟩; have hb3 : Below W1.heap.size W1 w3 := hD0.trans (hb3'.mono hD0.size); obtain ⟨va, vc, hv, _⟩ := hL3.form; subst hv; have b3 := (hb3.block _ (lt_of_block hB1)).trans hB1; have r0 : w3.cell? ⟨w.heap.size + 1, 0, none⟩ = some (.int .i64 0) := (by rw [Lib.cell_of_heap b3]; rfl); have r1 : w3.cell? ⟨w.heap.size + 1, 1, none⟩ = some (.int .i64 0) := (by rw [Lib.cell_of_heap b3]; rfl); have r2 : w3.cell? ⟨w.heap.size + 1, 2, none⟩ = some (.int .i64 0) := (by rw [Lib.cell_of_heap b3]; rfl); have r3 : w3.cell? ⟨w.heap.size + 1, 3, none⟩ = some (.int .i64 0) := (by rw [Lib.cell_of_heap b3]; rfl); have r4 : w3.cell? ⟨w.heap.size + 1, 4, none⟩ = some (.int .i64 0) := (by rw [Lib.cell_of_heap b3]; rfl); have r5 : w3.cell? ⟨w.heap.size + 1, 5, none⟩ = some (.int .i64 0) := (by rw [Lib.cell_of_heap b3]; rfl); have r6 : w3.cell? ⟨w.heap.size + 1, 6, none⟩ = some (.int .i64 0) := (by rw [Lib.cell_of_heap b3]; rfl); have r7 : w3.cell? ⟨w.heap.size + 1, 7, none⟩ = some (.slice none 0 0) := (by rw [Lib.cell_of_heap b3]; rfl); have f0 := Lib.frozen_of_heap b3 0; have f1 := Lib.frozen_of_heap b3 1; have f2 := Lib.frozen_of_heap b3 2; have f3 := Lib.frozen_of_heap b3 3; have f4 := Lib.frozen_of_heap b3 4; have f5 := Lib.frozen_of_heap b3 5; have f6 := Lib.frozen_of_heap b3 6; have f7 := Lib.frozen_of_heap b3 7))
  all_goals
    have hzd : W1.drew.heap.size = W1.heap.size := rfl
    have hlow : w.heap.size ≤ W1.drew.heap.size := by rw [hzd]; omega
    have kk := setN_chg (b := w.heap.size + 1) [.int .i64 kd, .int .i64 fr, .int .i64 tt, .int .i64 vw, .int .i64 op, .int .i64 cm, .int .i64 nm, .slice va L.length vc] 0 w3
    have F : LogAt (setN w3 (w.heap.size + 1) 0 [.int .i64 kd, .int .i64 fr, .int .i64 tt, .int .i64 vw, .int .i64 op, .int .i64 cm, .int .i64 nm, .slice va L.length vc]) w.heap.size (.slice va L.length vc) L ∧ Below w.heap.size w (setN w3 (w.heap.size + 1) 0 [.int .i64 kd, .int .i64 fr, .int .i64 tt, .int .i64 vw, .int .i64 op, .int .i64 cm, .int .i64 nm, .slice va L.length vc]) := ⟨⟨row_lower4 (row_chg4 hL3.row kk fun g e q => by have := (row_lt4 hL3.row g e).1; rw [hzd] at this; omega) hlow⟩, setN_below _ _ (hb1.trans (hb3.mono hb1.size)) (Nat.le_refl _) (by omega)⟩
    clear hS hB1 hb3' kk
    go_wp2_with fail
    exact ret_set [.int .i64 kd, .int .i64 fr, .int .i64 tt, .int .i64 vw, .int .i64 op, .int .i64 cm, .int .i64 nm, .slice va L.length vc] rfl rfl rfl b3 rfl (fun W' h => load_msg h) ⟨_, rfl, F.1, F.2⟩
end Go.Proofs.Ytmaecpmdikdclaa
namespace Go.Proofs.Ytmaecpmdikdclaa
open Go.RowKit
theorem elemN_rec : ElemN Try.prog 67 50 5 56 := by
  obtain ⟨i, hi, hz0, hz1, hz2⟩ := info_parts (show (Try.prog.info? 50).map (fun i => (i.zero, i.size, i.bytes)) = some (some (.agg #[.int .i64 0, .int .i64 0, .int .i64 0, .int .i64 0, .slice none 0 0]), 5, 56) by kernel_rfl)
  exact ⟨Try.underlying67, ⟨i, _, hi, hz0, hz1, hz2, rfl⟩, by decide⟩
/-- Records as cells, their logs being these slices. -/
def cellsR (R : List Rec17) (S : List Value) : List Value := (R.zip S).flatMap fun p => [.int .i64 p.1.kd, .int .i64 p.1.vw, .int .i64 p.1.nm, .int .i64 p.1.op, p.2]
theorem cellsR_len (R : List Rec17) (S : List Value) (h : S.length = R.length) : (cellsR R S).length = R.length * 5 := by
  induction R generalizing S with
  | nil => rfl
  | cons r R ih =>
    cases S with
    | nil => simp at h
    | cons s S =>
      have := ih S (by simpa using h)
      unfold cellsR at this ⊢
      rw [List.zip_cons_cons, List.flatMap_cons, List.length_append, this]
      simp only [List.length_cons, List.length_nil]
      omega
theorem cellsR_snoc (R : List Rec17) (S : List Value) (r : Rec17) (s : Value) (h : S.length = R.length) : cellsR (R ++ [r]) (S ++ [s]) = cellsR R S ++ [.int .i64 r.kd, .int .i64 r.vw, .int .i64 r.nm, .int .i64 r.op, s] := by
  unfold cellsR
  rw [List.zip_append h.symm, List.flatMap_append]
  rfl
theorem cellsR_get (R : List Rec17) (S : List Value) (h : S.length = R.length) (j : Nat) (hj : j < R.length) : (cellsR R S)[j * 5]? = some (.int .i64 R[j].kd) ∧ (cellsR R S)[j * 5 + 1]? = some (.int .i64 R[j].vw) ∧ (cellsR R S)[j * 5 + 2]? = some (.int .i64 R[j].nm) ∧ (cellsR R S)[j * 5 + 3]? = some (.int .i64 R[j].op) ∧ (cellsR R S)[j * 5 + 4]? = some (S[j]'(by omega)) := by
  induction R generalizing S j with
  | nil => simp at hj
  | cons r R ih =>
    cases S with
    | nil => simp at h
    | cons s S =>
      cases j with
      | zero => exact ⟨rfl, rfl, rfl, rfl, rfl⟩
      | succ j =>
        have := ih S (by simpa using h) j (by simpa using hj)
        unfold cellsR at this ⊢
        rw [List.zip_cons_cons, List.flatMap_cons, show (j + 1) * 5 = j * 5 + 5 by omega]
        simp only [List.cons_append, List.nil_append, List.getElem_cons_succ]
        exact this
/-- Records of the program's, their logs rows of their own. -/
def RowR (w : World) (B : Nat) (v : Value) (R : List Rec17) : Prop := ∃ S : List Value, ∃ h : S.length = R.length, w.ownsRow B 50 5 v R.length (cellsR R S) ∧ ∀ j (hj : j < R.length), LogAt w B (S[j]'(by omega)) R[j].log
theorem LogAt.keep {w w' : World} {B : Nat} {v : Value} {L : List Ent} (h : LogAt w B v L) (hk : ∀ (k : Nat) (cur : Array Value), w.heap[k]? = some (Obj.cells cur 109 (0, 0)) → w'.heap[k]? = w.heap[k]?) : LogAt w' B v L := by
  obtain ⟨hl, h⟩ := h
  refine ⟨hl, ?_⟩
  rcases h with h2 | ⟨g, cap, cur, rfl, hg, hh, r⟩
  · exact .inl h2
  · exact .inr ⟨g, cap, cur, rfl, hg, by rw [hk g cur hh]; exact hh, r⟩
theorem RowR.at_ {w : World} {B : Nat} {v : Value} {R : List Rec17} (h : RowR w B v R) (hs : ∀ r ∈ R, (∀ x ∈ r.log, x.d.length ≤ 9223372036854775807) ∧ r.log.length ≤ 9000000000000) : ∃ a c, v = .slice a R.length c ∧ RsAt17 w.cell? a R := by
  obtain ⟨S, hS, hrow, hlog⟩ := h
  obtain ⟨a, c, rfl, _, _, hr⟩ := row_form hrow
  refine ⟨a, c, rfl, ?_⟩
  rcases hr with ⟨rfl, h0, _⟩ | ⟨g, rfl, _, _, hc⟩
  · exact .inl (List.eq_nil_of_length_eq_zero h0)
  · refine .inr ⟨g, 0, rfl, fun j hj => ?_⟩
    obtain ⟨h0, h1, h2, h3, h4⟩ := cellsR_get R S hS j hj
    obtain ⟨la, lc, e, hE⟩ := (hlog j hj).form
    rw [e] at h4
    rw [Nat.zero_add]
    exact ⟨hc _ _ h0, hc _ _ h1, hc _ _ h2, hc _ _ h3, la, lc, hc _ _ h4, rfl, hE, (hs _ (List.getElem_mem hj)).1, (hs _ (List.getElem_mem hj)).2⟩
/-- A step of a row of records turns no log. -/
theorem rec_step {w w' : World} {B n : Nat} {v v' : Value} {xs : List Value} {o : Obj} (hrow : w.ownsRow B 50 5 v n xs) (hs : Step (w.alloc o) v w' v') : ∀ (k : Nat) (cur : Array Value), w.heap[k]? = some (Obj.cells cur 109 (0, 0)) → w'.heap[k]? = w.heap[k]? := fun k cur hk => by
  have hlt := lt_of_block hk
  rw [hs.1.block k (by simp; omega) (fun e => ?_), Below.heap_alloc _ _ _ hlt]
  rcases hrow.2 with ⟨rfl, _⟩ | ⟨g, cap, cur2, rfl, _, hh, _⟩
  · cases e
  · injection e with e
    rw [show g = k from e.symm, hk] at hh
    injection hh with hh
    injection hh with _ ht _
    exact absurd ht (by decide)
set_option maxRecDepth 100000 in
set_option maxHeartbeats 1000000 in
theorem recordsS_any (a : Option Addr) (n c : Nat) (R : List Rec17) (w : World) (hn : R.length = n) (hN : RsAt17 w.cell? a R) (hm : n ≤ 2513169434843) (hs : ∀ r ∈ R, r.log.length ≤ 5864062014805) : Calls Try.prog 30 #[.slice a n c] w fun e w' => ∃ v, e = .returned v ∧ RowR w' w.heap.size v R ∧ Below w.heap.size w w' := by
  have HN := hid hn
  have HZ := hid hN
  have HS0 := hid hs
  clear hn hN hs
  go_enter Try.func30, Try.ntmps30
  go_wp2_with fail
  go_loopw [3, 4] (fun v iv wr => ∃ k : Nat, iv = .int .i64 k ∧ k ≤ n ∧ Hid (RowR wr w.heap.size v (R.take k)) ∧ Hid (Below w.heap.size w wr)) (fun _ iv _ => n - (intOf iv).toNat)
  case atStart => exact ⟨0, rfl, Nat.zero_le _, hid ⟨[], by simp, by rw [List.take_zero]; exact World.ownsRow_nil _ _ _ _, fun j hj => by simp at hj⟩, hid (Below.refl _ _)⟩
  case round =>
    obtain ⟨k, rfl, hk, HR, HB⟩ := hrel
    by_cases hlt : k < n
    · have hkl : k < R.length := by rw [HN.out]; exact hlt
      obtain ⟨zb, zo, e1, y0, y1, y2, y3, la, lc, y4, hI⟩ := HZ.out.get hkl
      subst e1
      have z0 := below_keep HB.out _ _ y0
      have z1 := below_keep HB.out _ _ y1
      have z2 := below_keep HB.out _ _ y2
      have z3 := below_keep HB.out _ _ y3
      have z4 := below_keep HB.out _ _ y4
      have hC := recS_any R[k] la R[k].log.length lc wr rfl (hI.es.keep (below_keep HB.out)) (HS0.out _ (List.getElem_mem hkl))
      obtain ⟨S, hS, hrow, hlog⟩ := HR.out
      have hlk : (R.take k).length = k := by rw [List.length_take]; omega
      rw [hlk] at hrow
      obtain ⟨ra, rc, rfl, _, _, _⟩ := row_form hrow
      have HE : Hid (∀ w3 vl w6 v6, Below wr.heap.size wr w3 → LogAt w3 wr.heap.size vl R[k].log → w6.ownsRow w.heap.size 50 5 v6 (k + 1) (cellsR (R.take k) S ++ [.int .i64 R[k].kd, .int .i64 R[k].vw, .int .i64 R[k].nm, .int .i64 R[k].op, vl]) → (∃ o, Step (w3.alloc o) (.slice ra k rc) w6 v6) → RowR w6 w.heap.size v6 (R.take (k + 1)) ∧ Below w.heap.size w w6) := hid fun w3 vl w6 v6 h3 hl hr ⟨o, hs⟩ => by
        have hr3 := row_below2 hrow h3
        have key := rec_step hr3 hs
        have hsz := HB.out.size
        have e2 : R.take (k + 1) = R.take k ++ [R[k]] := by rw [List.take_add_one, List.getElem?_eq_getElem hkl]; rfl
        refine ⟨⟨S ++ [vl], by rw [e2, List.length_append, List.length_append, hS]; rfl, ?_, fun j hj => ?_⟩, ?_⟩
        · rw [e2, cellsR_snoc _ _ _ _ hS, List.length_append, hlk]
          exact hr
        · have hj2 : j < k + 1 := by rw [List.length_take] at hj; omega
          by_cases hjk : j < k
          · have := ((hlog j (by omega)).below h3).keep key
            simp only [e2]
            rw [List.getElem_append_left (by omega), List.getElem_append_left (by omega)]
            exact this
          · obtain rfl : j = k := by omega
            have hl2 : LogAt w3 w.heap.size vl R[j].log := ⟨row_lower4 hl.row hsz⟩
            have := hl2.keep key
            simp only [e2]
            rw [List.getElem_append_right (by omega), List.getElem_append_right (by omega)]
            simpa [hS, hlk] using this
        · exact ((HB.out.trans (h3.mono hsz)).alloc (by have := h3.size; omega) o).trans (hs.below (by have := h3.size; simp; omega) fun g e => (row_lt4 hrow g e).1)
      have HRW := hid fun W (h : Below wr.heap.size wr W) => row_below2 hrow h
      have hbs := HB.out.size
      clear HZ y0 y1 y2 y3 y4 hI hS hrow hlog hlk HR HS0
      generalize cellsR (R.take k) S = C1 at *
      generalize R[k].kd = kd at *
      generalize R[k].vw = vw at *
      generalize R[k].nm = nm at *
      generalize R[k].op = op at *
      generalize hL : R[k].log = L at *
      have hj0 : (0 : Int) ≤ (k : Int) := by omega
      have hj1 : (k : Int) < (n : Int) := by omega
      clear hL
      generalize L.length = ll at *
      go_wp2_with (first | (go_at_call 21; refine hC.mono ?_; clear hC; rintro e w3 ⟨v, rfl, hL3, hb3⟩; obtain ⟨va, vc, hv, _⟩ := hL3.form; subst hv; have hr3 := HRW.out w3 hb3; have hbs3 := hb3.size) | (at_builtin; refine wpList_appN _ rfl _ _ 67 rfl elemN_rec w.heap.size (.slice ra k rc) k C1 rfl (World.ownsRow.alloc hr3 _) _ rfl 1 [.int .i64 kd, .int .i64 vw, .int .i64 nm, .int .i64 op, .slice va L.length vc] (.inr ⟨⟨_, 0, none⟩, 1, rfl, cells_new4 _ [.int .i64 kd, .int .i64 vw, .int .i64 nm, .int .i64 op, .slice va L.length vc] 50 _ rfl⟩) rfl (by simp [Value.oneCell']) (by unfold maxLen; omega) (by omega) (by simp; omega) ?_; intro v' w6 hr6 hs6; have F := HE.out w3 _ w6 v' hb3 hL3 hr6 ⟨_, hs6⟩; clear hr6 hs6))
      exact ⟨⟨k + 1, by go_num, by omega, hid F.1, hid F.2⟩, by simp [intOf]; omega⟩
    · have e : R.take k = R := List.take_of_length_le (by rw [HN.out]; omega)
      have hR := HR.out
      rw [e] at hR
      go_wp2_with fail
      go_ret
      exact ⟨_, rfl, hR, HB.out⟩
end Go.Proofs.Ytmaecpmdikdclaa
namespace Go.Proofs.Ytmaecpmdikdclaa
open Go.RowKit
def knA : Rec17 := ⟨2, 0, 0, 0, [⟨1, [97]⟩, ⟨1, [98]⟩]⟩
def knB : Rec17 := ⟨2, 0, 0, 1, [⟨2, [99]⟩]⟩
theorem kn_fold : foldS zeroS [knA, knB] = some ⟨0, 0, 0, [⟨1, [97]⟩, ⟨2, [99]⟩]⟩ := by decide
theorem kn_right : knA.ok = true := by decide
theorem num17_any (n : Int) (w : World) : Calls Try.prog 17 #[.int .i64 n] w fun e w' => e = .returned (.int .i64 n) ∧ w' = w := by
  go_enter Try.func17, Try.ntmps17
  go_wp2_with fail
  go_ret
  exact ⟨rfl, rfl⟩
set_option maxRecDepth 100000 in
set_option maxHeartbeats 1000000 in
theorem knows17_any (w : World) : Calls Try.prog 20 #[] w fun e w' => e = .returned (.bool true) ∧ Below w.heap.size w w' := by
  obtain ⟨A1, hA1⟩ : ∃ W, W = w.alloc (.cells #[.int .i64 1, .string ⟨#[97]⟩, .int .i64 1, .string ⟨#[98]⟩] 109) := ⟨_, rfl⟩
  obtain ⟨A2, hA2⟩ : ∃ W, W = A1.alloc (.cells #[.int .i64 2, .int .i64 0, .int .i64 0, .int .i64 0, .slice (some ⟨w.heap.size, 0, none⟩) 2 2] 50) := ⟨_, rfl⟩
  obtain ⟨A3, hA3⟩ : ∃ W, W = A2.alloc (.cells #[.int .i64 2, .string ⟨#[99]⟩] 109) := ⟨_, rfl⟩
  obtain ⟨A4, hA4⟩ : ∃ W, W = A3.alloc (.cells #[.int .i64 2, .int .i64 0, .int .i64 0, .int .i64 1, .slice (some ⟨w.heap.size + 1 + 1, 0, none⟩) 1 1] 50) := ⟨_, rfl⟩
  obtain ⟨W1, hW1⟩ : ∃ W, W = A4.alloc (.cells #[.int .i64 2, .int .i64 0, .int .i64 0, .int .i64 0, .slice (some ⟨w.heap.size, 0, none⟩) 2 2, .int .i64 2, .int .i64 0, .int .i64 0, .int .i64 1, .slice (some ⟨w.heap.size + 1 + 1, 0, none⟩) 1 1] 50) := ⟨_, rfl⟩
  have z1 : A1.heap.size = w.heap.size + 1 := by rw [hA1]; simp
  have z2 : A2.heap.size = w.heap.size + 1 + 1 := by rw [hA2]; simp [z1]
  have z3 : A3.heap.size = w.heap.size + 1 + 1 + 1 := by rw [hA3]; simp [z2]
  have z4 : A4.heap.size = w.heap.size + 1 + 1 + 1 + 1 := by rw [hA4]; simp [z3]
  have k4 : Below A4.heap.size A4 W1 := by rw [hW1]; exact (Below.refl _ _).alloc (Nat.le_refl _) _
  have k3 : Below A3.heap.size A3 W1 := by
    have : Below A3.heap.size A3 A4 := by rw [hA4]; exact (Below.refl _ _).alloc (Nat.le_refl _) _
    exact this.trans (k4.mono this.size)
  have k2 : Below A2.heap.size A2 W1 := by
    have : Below A2.heap.size A2 A3 := by rw [hA3]; exact (Below.refl _ _).alloc (Nat.le_refl _) _
    exact this.trans (k3.mono this.size)
  have k1 : Below A1.heap.size A1 W1 := by
    have : Below A1.heap.size A1 A2 := by rw [hA2]; exact (Below.refl _ _).alloc (Nat.le_refl _) _
    exact this.trans (k2.mono this.size)
  have k0 : Below w.heap.size w W1 := by
    have : Below w.heap.size w A1 := by rw [hA1]; exact (Below.refl _ _).alloc (Nat.le_refl _) _
    exact this.trans (k1.mono this.size)
  have b0 : W1.heap[w.heap.size]? = some (.cells #[.int .i64 1, .string ⟨#[97]⟩, .int .i64 1, .string ⟨#[98]⟩] 109 (0, 0)) := by
    rw [k1.block _ (by omega), hA1]; exact heap_alloc_new w _
  have b1 : W1.heap[w.heap.size + 1]? = some (.cells #[.int .i64 2, .int .i64 0, .int .i64 0, .int .i64 0, .slice (some ⟨w.heap.size, 0, none⟩) 2 2] 50 (0, 0)) := by
    rw [k2.block _ (by omega), ← z1, hA2]; exact heap_alloc_new A1 _
  have b2 : W1.heap[w.heap.size + 1 + 1]? = some (.cells #[.int .i64 2, .string ⟨#[99]⟩] 109 (0, 0)) := by
    rw [k3.block _ (by omega), ← z2, hA3]; exact heap_alloc_new A2 _
  have b4 : W1.heap[w.heap.size + 1 + 1 + 1 + 1]? = some (.cells #[.int .i64 2, .int .i64 0, .int .i64 0, .int .i64 0, .slice (some ⟨w.heap.size, 0, none⟩) 2 2, .int .i64 2, .int .i64 0, .int .i64 0, .int .i64 1, .slice (some ⟨w.heap.size + 1 + 1, 0, none⟩) 1 1] 50 (0, 0)) := by
    rw [← z4, hW1]; exact heap_alloc_new A4 _
  have eA : ∀ W, Below W1.heap.size W1 W → EsAt W.cell? (some ⟨w.heap.size, 0, none⟩) knA.log := fun W hW => .inr ⟨_, _, rfl, fun j hj => by
    have e := (hW.block _ (lt_of_block b0)).trans b0
    match j, hj with
    | 0, _ => exact ⟨by rw [Lib.cell_of_heap e]; rfl, by rw [Lib.cell_of_heap e]; rfl⟩
    | 1, _ => exact ⟨by rw [Lib.cell_of_heap e]; rfl, by rw [Lib.cell_of_heap e]; rfl⟩⟩
  have eB : EsAt W1.cell? (some ⟨w.heap.size + 1 + 1, 0, none⟩) knB.log := .inr ⟨_, _, rfl, fun j hj => by
    match j, hj with
    | 0, _ => exact ⟨by rw [Lib.cell_of_heap b2]; rfl, by rw [Lib.cell_of_heap b2]; rfl⟩⟩
  have hF := fold_any17 (some ⟨w.heap.size + 1 + 1 + 1 + 1, 0, none⟩) 2 2 [knA, knB] W1 rfl (.inr ⟨_, _, rfl, fun j hj => by
    match j, hj with
    | 0, _ => exact ⟨by rw [Lib.cell_of_heap b4]; rfl, by rw [Lib.cell_of_heap b4]; rfl, by rw [Lib.cell_of_heap b4]; rfl, by rw [Lib.cell_of_heap b4]; rfl, some ⟨w.heap.size, 0, none⟩, 2, by rw [Lib.cell_of_heap b4]; rfl, rfl, eA _ (Below.refl _ _), (show ∀ x ∈ knA.log, x.d.length ≤ 9223372036854775807 by decide), (show knA.log.length ≤ 9000000000000 by decide)⟩
    | 1, _ => exact ⟨by rw [Lib.cell_of_heap b4]; rfl, by rw [Lib.cell_of_heap b4]; rfl, by rw [Lib.cell_of_heap b4]; rfl, by rw [Lib.cell_of_heap b4]; rfl, some ⟨w.heap.size + 1 + 1, 0, none⟩, 1, by rw [Lib.cell_of_heap b4]; rfl, rfl, eB, (show ∀ x ∈ knB.log, x.d.length ≤ 9223372036854775807 by decide), (show knB.log.length ≤ 9000000000000 by decide)⟩⟩) (by omega)
  have hR : ∀ W, Below W1.heap.size W1 W → Calls Try.prog 26 #[recV 2 0 0 0 (.slice (some ⟨w.heap.size, 0, none⟩) 2 2)] W fun e w' => e = .returned (.bool true) ∧ Below W.heap.size W w' := fun W hW => by
    have := rightRec17_any knA (some ⟨w.heap.size, 0, none⟩) 2 2 W rfl (eA W hW) (by decide)
    rw [kn_right] at this
    exact this
  have hbx : ∀ W, Below W1.heap.size W1 W → W.cell? ⟨w.heap.size + 1, 0, none⟩ = some (.int .i64 2) ∧ W.cell? ⟨w.heap.size + 1, 1, none⟩ = some (.int .i64 0) ∧ W.cell? ⟨w.heap.size + 1, 2, none⟩ = some (.int .i64 0) ∧ W.cell? ⟨w.heap.size + 1, 3, none⟩ = some (.int .i64 0) ∧ W.cell? ⟨w.heap.size + 1, 4, none⟩ = some (.slice (some ⟨w.heap.size, 0, none⟩) 2 2) := fun W h => by
    have e := (h.block _ (lt_of_block b1)).trans b1
    refine ⟨?_, ?_, ?_, ?_, ?_⟩ <;> (rw [Lib.cell_of_heap e]; rfl)
  clear b0 b1 b2 b4 eA eB k1 k2 k3 k4 z1 z2 z3 z4
  subst hA1 hA2 hA3 hA4
  go_enter Try.func20, Try.ntmps20
  go_wp2_with fail
  rw [← hW1]
  clear hW1
  refine hF.mono ?_
  clear hF
  rintro e w2 ⟨hb2, ⟨h0, _⟩ | ⟨s, a, c, h0, rfl, hrow⟩⟩
  · rw [kn_fold] at h0; cases h0
  rw [kn_fold] at h0
  injection h0 with h0
  subst h0
  obtain ⟨_, _, _, e1, hE⟩ := es_of_row hrow
  injection e1 with e1 e2 e3
  subst e1 e3
  obtain ⟨g, o, e1, c0, c1⟩ := hE.get (j := 0) (by decide)
  obtain ⟨_, _, e2, d0, d1⟩ := hE.get (j := 1) (by decide)
  subst e1
  injection e2 with e2
  injection e2 with q1 q2
  subst q1 q2
  obtain ⟨W3, hW3⟩ : ∃ W, W = w2.alloc (.cells #[.int .i64 0, .int .i64 0, .int .i64 0, .slice (some ⟨g, o, none⟩) 2 c] 64) := ⟨_, rfl⟩
  have hb3 : Below w2.heap.size w2 W3 := by rw [hW3]; exact (Below.refl _ _).alloc (Nat.le_refl _) _
  have hb13 := hb2.trans (hb3.mono hb2.size)
  have hR3 := hR W3 hb13
  obtain ⟨x0, x1, x2, x3, x4⟩ := hbx w2 hb2
  obtain ⟨y0, y1, y2, y3, y4⟩ := hbx W3 hb13
  have c2 : W3.cell? ⟨g, o + 1, none⟩ = some (.string ⟨#[97]⟩) := by simpa using below_keep hb3 _ _ c1
  have d2 : W3.cell? ⟨g, o + 2 + 1, none⟩ = some (.string ⟨#[99]⟩) := by simpa using below_keep hb3 _ _ d1
  have c3 : w2.cell? ⟨g, o + 1, none⟩ = some (.string ⟨#[97]⟩) := by simpa using c1
  have d3 : w2.cell? ⟨g, o + 2 + 1, none⟩ = some (.string ⟨#[99]⟩) := by simpa using d1
  have hgl : g < w2.heap.size := World.block_lt_of_cell? _ _ c3
  have hl1 : w.heap.size + 1 < w2.heap.size := World.block_lt_of_cell? _ _ x0
  clear hR hbx hrow hE c0 d0 c1 d1 e2 c2 d2
  dsimp only [List.length_cons, List.length_nil]
  go_wp2_with (go_at_call 26; rw [← hW3]; refine hR3.mono ?_; clear hR3; rintro e w4 ⟨rfl, hb4⟩)
  go_ret
  exact ⟨rfl, k0.trans ((hb13.trans (hb4.mono hb13.size)).mono k0.size)⟩
end Go.Proofs.Ytmaecpmdikdclaa
