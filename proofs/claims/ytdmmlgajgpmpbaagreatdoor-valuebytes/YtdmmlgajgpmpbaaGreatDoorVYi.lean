/- value.getOne of any bytes. -/
import Derived.Test.YtdmmlgajgpmpbaaGreatDoorVYg
import Derived.Test.YtdmmlgajgpmpbaaGreatDoorRF
namespace Go.Proofs.YtdmmlgajgpmpbaaGreatDoor
open Go.RowKit
attribute [local go_sem high] eq_val eq_val0
/-- What a reader has: the bytes, and its error. -/
abbrev RSt := List UInt8 × Int
def rTag (s : RSt) : Int := ansByte s.1 s.2
def rB (s : RSt) (nd : Nat) : RSt := (s.1.drop (cutOf s.1 s.2 nd), errOf s.1 s.2 nd)
/-- The value that is read, and what the reader has then. -/
def readV (s : RSt) : Val × RSt :=
  let s1 := rB s 1
  if rTag s = 1 then (⟨1, ansInt s1.1 s1.2, []⟩, rB s1 8) else if rTag s = 2 then (⟨2, 0, ansText s1.1 s1.2⟩, rB s1 (2 + tlOf s1.1)) else if rTag s = 3 then (⟨3, ansByte s1.1 s1.2, []⟩, rB s1 1) else (⟨rTag s, 0, []⟩, s1)
theorem get_end' {w w1 w2 : World} {p h g : Nat} {st : RSt} {y : Val} (x : Val) (hlt : h < w.heap.size) (hp : p < w.heap.size) (hg : g < w.heap.size) (hc1 : Chg (w.alloc (Val.box ⟨0, 0, []⟩)) w1 (fun k => k = h)) (hc2 : Chg (w1.alloc y.box) w2 (fun k => k = h)) (H2 : RdS w2 p h g st.1 st.2) (o : Nat) (u : Value) :
    ValAt (put3 (w2.setCell ⟨w1.heap.size, o, none⟩ u) w.heap.size x) w.heap.size x ∧ RdS (put3 (w2.setCell ⟨w1.heap.size, o, none⟩ u) w.heap.size x) p h g st.1 st.2 ∧ Chg w (put3 (w2.setCell ⟨w1.heap.size, o, none⟩ u) w.heap.size x) (fun k => k = h) := by
  have s1 : w.heap.size + 1 ≤ w1.heap.size := by have := hc1.size; simpa using this
  have b1 : Boxed3 w1 w.heap.size := (hc1.block _ (by simp) (by omega)).trans (World.alloc_heap_new w _)
  have b2 : Boxed3 w2 w.heap.size := (hc2.block _ (by simp; omega) (by omega)).trans ((Below.heap_alloc _ _ _ (by omega)).trans b1)
  have b3 : Boxed3 (w2.setCell ⟨w1.heap.size, o, none⟩ u) w.heap.size := (Below.heap_setCell _ _ _ _ (by show w.heap.size ≠ w1.heap.size; omega)).trans b2
  have c3 := chg_put3 (w2.setCell ⟨w1.heap.size, o, none⟩ u) w.heap.size x
  have c2 := Chg.setCell w2 ⟨w1.heap.size, o, none⟩ u
  refine ⟨set_box b3 x, (H2.chg c2 (by show ¬ p = w1.heap.size; omega) (by show ¬ h = w1.heap.size; omega) (by show ¬ g = w1.heap.size; omega)).chg c3 (by omega) (by omega) (by omega), ?_⟩
  have d1 : Chg w w1 (fun k => k = h) := (Chg.alloc w _ (fun k => k = h)).trans hc1 (fun _ _ e => e)
  have d2 : Chg w w2 (fun k => k = h) := (d1.trans (Chg.alloc w1 _ (fun k => k = h)) (fun _ _ e => e)).trans hc2 (fun _ _ e => e)
  exact (d2.trans c2 (fun i hi (e : i = w1.heap.size) => by omega)).trans c3 (fun i hi (e : i = w.heap.size) => by omega)
/-- How any value is read. -/
def ReadA (p h g : Nat) (q : Val × RSt) (w : World) (e : Ending) (w' : World) : Prop := e = .returned q.1.v ∧ RdS w' p h g q.2.1 q.2.2 ∧ Chg w w' (fun k => k = h)
set_option maxRecDepth 100000 in
set_option maxHeartbeats 1000000 in
theorem getOne_all (p h g : Nat) (s : RSt) (w : World) (H : RdS w p h g s.1 s.2) (hg : g < w.heap.size) : Calls Tryz.prog 26 #[.pointer (some ⟨p, 0, none⟩)] w (ReadA p h g (readV s) w) := by
  obtain ⟨hp, hlt⟩ := rds_lt H
  have H' := H.chg (Chg.alloc w (Val.box ⟨0, 0, []⟩) (fun _ => False)) id id id
  obtain ⟨s1, hs1⟩ : ∃ s1, s1 = rB s 1 := ⟨_, rfl⟩
  have hr1 : ∀ W, RdS W p h g (s.1.drop (cutOf s.1 s.2 1)) (errOf s.1 s.2 1) → RdS W p h g s1.1 s1.2 := fun W h => by rw [hs1]; exact h
  by_cases t1 : rTag s = 1
  · have hFirst : Calls Tryz.prog 25 #[.pointer (some ⟨p, 0, none⟩)] (w.alloc (Val.box ⟨0, 0, []⟩)) fun e w' => e = .returned (.int .i64 1) ∧ RdS w' p h g s1.1 s1.2 ∧ Chg (w.alloc (Val.box ⟨0, 0, []⟩)) w' (fun k => k = h) := by
      have := rbyte_all p h g s.1 s.2 _ H'
      rw [show ansByte s.1 s.2 = 1 from t1] at this
      exact this.mono fun e w' ⟨a1, a2, a3⟩ => ⟨a1, hr1 _ a2, a3⟩
    have hNext : ∀ w1, RdS w1 p h g s1.1 s1.2 → Calls Tryz.prog 51 #[.pointer (some ⟨p, 0, none⟩)] (w1.alloc (Val.box ⟨1, 0, []⟩)) fun e w' => e = .returned (.int .i64 (ansInt s1.1 s1.2)) ∧ RdS w' p h g (rB s1 8).1 (rB s1 8).2 ∧ Chg (w1.alloc (Val.box ⟨1, 0, []⟩)) w' (fun k => k = h) := fun w1 H1 => rint_all p h g s1.1 s1.2 _ (H1.chg (Chg.alloc w1 _ (fun _ => False)) id id id)
    have hE : readV s = (⟨1, ansInt s1.1 s1.2, []⟩, (rB s1 8)) := by rw [hs1]; simp only [readV, t1, if_true]
    rw [hE]
    generalize (rB s1 8) = st at hNext ⊢
    generalize ansInt s1.1 s1.2 = vv at hNext ⊢
    clear H H' hE hr1 hs1
    go_enter Tryz.func26, Tryz.ntmps26
    go_wp2_with (first | (go_at_call 25; first | (refine hFirst.mono ?_; rintro e w1 ⟨rfl, H1, hc1⟩; have hC := hNext w1 H1; clear hFirst hNext) | (refine hC.mono ?_; rintro e w2 ⟨rfl, H2, hc2⟩; have s1' : w.heap.size + 1 ≤ w1.heap.size := (by have := hc1.size; simpa using this); have s2' : w1.heap.size + 1 ≤ w2.heap.size := (by have := hc2.size; simpa using this); have b2 : Boxed3 w2 w.heap.size := (hc2.block _ (by simp; omega) (by omega)).trans ((Below.heap_alloc _ _ _ (by omega)).trans ((hc1.block _ (by simp) (by omega)).trans (World.alloc_heap_new w _))); have e2 : w2.heap[w1.heap.size]? = some (Val.box ⟨1, 0, []⟩) := (hc2.block _ (by simp) (by omega)).trans (World.alloc_heap_new w1 _); obtain ⟨⟨c0, c1, c2⟩, hf⟩ := b2.facts; have f0 := hf 0; have f1 := hf 1; have f2 := hf 2; have d0 : w2.cell? ⟨w1.heap.size, 0, none⟩ = some (.int .i64 1) := (by rw [Lib.cell_of_heap e2]; rfl); have d1 : w2.cell? ⟨w1.heap.size, 1, none⟩ = some (.int .i64 0) := (by rw [Lib.cell_of_heap e2]; rfl); have d2 : w2.cell? ⟨w1.heap.size, 2, none⟩ = some (.string ⟨#[]⟩) := (by rw [Lib.cell_of_heap e2]; rfl); have k1 := Lib.frozen_of_heap e2 1; have hne : ¬ w.heap.size = w1.heap.size := (by omega); have hne' : ¬ w1.heap.size = w.heap.size := (by omega))) | (go_at_call 51; refine hC.mono ?_; rintro e w2 ⟨rfl, H2, hc2⟩; have s1' : w.heap.size + 1 ≤ w1.heap.size := (by have := hc1.size; simpa using this); have s2' : w1.heap.size + 1 ≤ w2.heap.size := (by have := hc2.size; simpa using this); have b2 : Boxed3 w2 w.heap.size := (hc2.block _ (by simp; omega) (by omega)).trans ((Below.heap_alloc _ _ _ (by omega)).trans ((hc1.block _ (by simp) (by omega)).trans (World.alloc_heap_new w _))); have e2 : w2.heap[w1.heap.size]? = some (Val.box ⟨1, 0, []⟩) := (hc2.block _ (by simp) (by omega)).trans (World.alloc_heap_new w1 _); obtain ⟨⟨c0, c1, c2⟩, hf⟩ := b2.facts; have f0 := hf 0; have f1 := hf 1; have f2 := hf 2; have d0 : w2.cell? ⟨w1.heap.size, 0, none⟩ = some (.int .i64 1) := (by rw [Lib.cell_of_heap e2]; rfl); have d1 : w2.cell? ⟨w1.heap.size, 1, none⟩ = some (.int .i64 0) := (by rw [Lib.cell_of_heap e2]; rfl); have d2 : w2.cell? ⟨w1.heap.size, 2, none⟩ = some (.string ⟨#[]⟩) := (by rw [Lib.cell_of_heap e2]; rfl); have k1 := Lib.frozen_of_heap e2 1; have hne : ¬ w.heap.size = w1.heap.size := (by omega); have hne' : ¬ w1.heap.size = w.heap.size := (by omega)))
    obtain ⟨q1, q2, q3⟩ := get_end' ⟨1, vv, []⟩ hlt hp hg hc1 hc2 H2 1 (.int .i64 vv)
    exact ret_at _ w.heap.size ⟨1, vv, []⟩ rfl rfl rfl q1 ⟨rfl, q2, q3⟩
  by_cases t2 : rTag s = 2
  · have hFirst : Calls Tryz.prog 25 #[.pointer (some ⟨p, 0, none⟩)] (w.alloc (Val.box ⟨0, 0, []⟩)) fun e w' => e = .returned (.int .i64 2) ∧ RdS w' p h g s1.1 s1.2 ∧ Chg (w.alloc (Val.box ⟨0, 0, []⟩)) w' (fun k => k = h) := by
      have := rbyte_all p h g s.1 s.2 _ H'
      rw [show ansByte s.1 s.2 = 2 from t2] at this
      exact this.mono fun e w' ⟨a1, a2, a3⟩ => ⟨a1, hr1 _ a2, a3⟩
    have hNext : ∀ w1, RdS w1 p h g s1.1 s1.2 → Calls Tryz.prog 52 #[.pointer (some ⟨p, 0, none⟩)] (w1.alloc (Val.box ⟨2, 0, []⟩)) fun e w' => e = .returned (.string ⟨(ansText s1.1 s1.2).toArray⟩) ∧ RdS w' p h g (rB s1 (2 + tlOf s1.1)).1 (rB s1 (2 + tlOf s1.1)).2 ∧ Chg (w1.alloc (Val.box ⟨2, 0, []⟩)) w' (fun k => k = h) := fun w1 H1 => rtext_all p h g s1.1 s1.2 _ (H1.chg (Chg.alloc w1 _ (fun _ => False)) id id id)
    have hE : readV s = (⟨2, 0, ansText s1.1 s1.2⟩, (rB s1 (2 + tlOf s1.1))) := by rw [hs1]; simp only [readV, t2, if_true]; rw [if_neg (by decide)]
    rw [hE]
    generalize (rB s1 (2 + tlOf s1.1)) = st at hNext ⊢
    generalize ansText s1.1 s1.2 = vv at hNext ⊢
    clear H H' hE hr1 hs1
    go_enter Tryz.func26, Tryz.ntmps26
    go_wp2_with (first | (go_at_call 25; first | (refine hFirst.mono ?_; rintro e w1 ⟨rfl, H1, hc1⟩; have hC := hNext w1 H1; clear hFirst hNext) | (refine hC.mono ?_; rintro e w2 ⟨rfl, H2, hc2⟩; have s1' : w.heap.size + 1 ≤ w1.heap.size := (by have := hc1.size; simpa using this); have s2' : w1.heap.size + 1 ≤ w2.heap.size := (by have := hc2.size; simpa using this); have b2 : Boxed3 w2 w.heap.size := (hc2.block _ (by simp; omega) (by omega)).trans ((Below.heap_alloc _ _ _ (by omega)).trans ((hc1.block _ (by simp) (by omega)).trans (World.alloc_heap_new w _))); have e2 : w2.heap[w1.heap.size]? = some (Val.box ⟨2, 0, []⟩) := (hc2.block _ (by simp) (by omega)).trans (World.alloc_heap_new w1 _); obtain ⟨⟨c0, c1, c2⟩, hf⟩ := b2.facts; have f0 := hf 0; have f1 := hf 1; have f2 := hf 2; have d0 : w2.cell? ⟨w1.heap.size, 0, none⟩ = some (.int .i64 2) := (by rw [Lib.cell_of_heap e2]; rfl); have d1 : w2.cell? ⟨w1.heap.size, 1, none⟩ = some (.int .i64 0) := (by rw [Lib.cell_of_heap e2]; rfl); have d2 : w2.cell? ⟨w1.heap.size, 2, none⟩ = some (.string ⟨#[]⟩) := (by rw [Lib.cell_of_heap e2]; rfl); have k1 := Lib.frozen_of_heap e2 2; have hne : ¬ w.heap.size = w1.heap.size := (by omega); have hne' : ¬ w1.heap.size = w.heap.size := (by omega))) | (go_at_call 52; refine hC.mono ?_; rintro e w2 ⟨rfl, H2, hc2⟩; have s1' : w.heap.size + 1 ≤ w1.heap.size := (by have := hc1.size; simpa using this); have s2' : w1.heap.size + 1 ≤ w2.heap.size := (by have := hc2.size; simpa using this); have b2 : Boxed3 w2 w.heap.size := (hc2.block _ (by simp; omega) (by omega)).trans ((Below.heap_alloc _ _ _ (by omega)).trans ((hc1.block _ (by simp) (by omega)).trans (World.alloc_heap_new w _))); have e2 : w2.heap[w1.heap.size]? = some (Val.box ⟨2, 0, []⟩) := (hc2.block _ (by simp) (by omega)).trans (World.alloc_heap_new w1 _); obtain ⟨⟨c0, c1, c2⟩, hf⟩ := b2.facts; have f0 := hf 0; have f1 := hf 1; have f2 := hf 2; have d0 : w2.cell? ⟨w1.heap.size, 0, none⟩ = some (.int .i64 2) := (by rw [Lib.cell_of_heap e2]; rfl); have d1 : w2.cell? ⟨w1.heap.size, 1, none⟩ = some (.int .i64 0) := (by rw [Lib.cell_of_heap e2]; rfl); have d2 : w2.cell? ⟨w1.heap.size, 2, none⟩ = some (.string ⟨#[]⟩) := (by rw [Lib.cell_of_heap e2]; rfl); have k1 := Lib.frozen_of_heap e2 2; have hne : ¬ w.heap.size = w1.heap.size := (by omega); have hne' : ¬ w1.heap.size = w.heap.size := (by omega)))
    obtain ⟨q1, q2, q3⟩ := get_end' ⟨2, 0, vv⟩ hlt hp hg hc1 hc2 H2 2 (.string ⟨vv.toArray⟩)
    exact ret_at _ w.heap.size ⟨2, 0, vv⟩ rfl rfl rfl q1 ⟨rfl, q2, q3⟩
  by_cases t3 : rTag s = 3
  · have hFirst : Calls Tryz.prog 25 #[.pointer (some ⟨p, 0, none⟩)] (w.alloc (Val.box ⟨0, 0, []⟩)) fun e w' => e = .returned (.int .i64 3) ∧ RdS w' p h g s1.1 s1.2 ∧ Chg (w.alloc (Val.box ⟨0, 0, []⟩)) w' (fun k => k = h) := by
      have := rbyte_all p h g s.1 s.2 _ H'
      rw [show ansByte s.1 s.2 = 3 from t3] at this
      exact this.mono fun e w' ⟨a1, a2, a3⟩ => ⟨a1, hr1 _ a2, a3⟩
    have hNext : ∀ w1, RdS w1 p h g s1.1 s1.2 → Calls Tryz.prog 25 #[.pointer (some ⟨p, 0, none⟩)] (w1.alloc (Val.box ⟨3, 0, []⟩)) fun e w' => e = .returned (.int .i64 (ansByte s1.1 s1.2)) ∧ RdS w' p h g (rB s1 1).1 (rB s1 1).2 ∧ Chg (w1.alloc (Val.box ⟨3, 0, []⟩)) w' (fun k => k = h) := fun w1 H1 => rbyte_all p h g s1.1 s1.2 _ (H1.chg (Chg.alloc w1 _ (fun _ => False)) id id id)
    have hE : readV s = (⟨3, ansByte s1.1 s1.2, []⟩, (rB s1 1)) := by rw [hs1]; simp only [readV, t3, if_true]; rw [if_neg (by decide), if_neg (by decide)]
    rw [hE]
    generalize (rB s1 1) = st at hNext ⊢
    generalize ansByte s1.1 s1.2 = vv at hNext ⊢
    clear H H' hE hr1 hs1
    go_enter Tryz.func26, Tryz.ntmps26
    go_wp2_with (first | (go_at_call 25; first | (refine hFirst.mono ?_; rintro e w1 ⟨rfl, H1, hc1⟩; have hC := hNext w1 H1; clear hFirst hNext) | (refine hC.mono ?_; rintro e w2 ⟨rfl, H2, hc2⟩; have s1' : w.heap.size + 1 ≤ w1.heap.size := (by have := hc1.size; simpa using this); have s2' : w1.heap.size + 1 ≤ w2.heap.size := (by have := hc2.size; simpa using this); have b2 : Boxed3 w2 w.heap.size := (hc2.block _ (by simp; omega) (by omega)).trans ((Below.heap_alloc _ _ _ (by omega)).trans ((hc1.block _ (by simp) (by omega)).trans (World.alloc_heap_new w _))); have e2 : w2.heap[w1.heap.size]? = some (Val.box ⟨3, 0, []⟩) := (hc2.block _ (by simp) (by omega)).trans (World.alloc_heap_new w1 _); obtain ⟨⟨c0, c1, c2⟩, hf⟩ := b2.facts; have f0 := hf 0; have f1 := hf 1; have f2 := hf 2; have d0 : w2.cell? ⟨w1.heap.size, 0, none⟩ = some (.int .i64 3) := (by rw [Lib.cell_of_heap e2]; rfl); have d1 : w2.cell? ⟨w1.heap.size, 1, none⟩ = some (.int .i64 0) := (by rw [Lib.cell_of_heap e2]; rfl); have d2 : w2.cell? ⟨w1.heap.size, 2, none⟩ = some (.string ⟨#[]⟩) := (by rw [Lib.cell_of_heap e2]; rfl); have k1 := Lib.frozen_of_heap e2 1; have hne : ¬ w.heap.size = w1.heap.size := (by omega); have hne' : ¬ w1.heap.size = w.heap.size := (by omega))) | (go_at_call 25; refine hC.mono ?_; rintro e w2 ⟨rfl, H2, hc2⟩; have s1' : w.heap.size + 1 ≤ w1.heap.size := (by have := hc1.size; simpa using this); have s2' : w1.heap.size + 1 ≤ w2.heap.size := (by have := hc2.size; simpa using this); have b2 : Boxed3 w2 w.heap.size := (hc2.block _ (by simp; omega) (by omega)).trans ((Below.heap_alloc _ _ _ (by omega)).trans ((hc1.block _ (by simp) (by omega)).trans (World.alloc_heap_new w _))); have e2 : w2.heap[w1.heap.size]? = some (Val.box ⟨3, 0, []⟩) := (hc2.block _ (by simp) (by omega)).trans (World.alloc_heap_new w1 _); obtain ⟨⟨c0, c1, c2⟩, hf⟩ := b2.facts; have f0 := hf 0; have f1 := hf 1; have f2 := hf 2; have d0 : w2.cell? ⟨w1.heap.size, 0, none⟩ = some (.int .i64 3) := (by rw [Lib.cell_of_heap e2]; rfl); have d1 : w2.cell? ⟨w1.heap.size, 1, none⟩ = some (.int .i64 0) := (by rw [Lib.cell_of_heap e2]; rfl); have d2 : w2.cell? ⟨w1.heap.size, 2, none⟩ = some (.string ⟨#[]⟩) := (by rw [Lib.cell_of_heap e2]; rfl); have k1 := Lib.frozen_of_heap e2 1; have hne : ¬ w.heap.size = w1.heap.size := (by omega); have hne' : ¬ w1.heap.size = w.heap.size := (by omega)))
    obtain ⟨q1, q2, q3⟩ := get_end' ⟨3, vv, []⟩ hlt hp hg hc1 hc2 H2 1 (.int .i64 vv)
    exact ret_at _ w.heap.size ⟨3, vv, []⟩ rfl rfl rfl q1 ⟨rfl, q2, q3⟩
  · have e1 : (rTag s == 1) = false := by simp [t1]
    have e2 : (rTag s == 2) = false := by simp [t2]
    have e3 : (rTag s == 3) = false := by simp [t3]
    have hFirst : Calls Tryz.prog 25 #[.pointer (some ⟨p, 0, none⟩)] (w.alloc (Val.box ⟨0, 0, []⟩)) fun e w' => e = .returned (.int .i64 (rTag s)) ∧ RdS w' p h g s1.1 s1.2 ∧ Chg (w.alloc (Val.box ⟨0, 0, []⟩)) w' (fun k => k = h) := (rbyte_all p h g s.1 s.2 _ H').mono fun e w' ⟨a1, a2, a3⟩ => ⟨a1, hr1 _ a2, a3⟩
    have hE : readV s = (⟨rTag s, 0, []⟩, s1) := by simp only [readV, if_neg t1, if_neg t2, if_neg t3, hs1]
    rw [hE]
    generalize rTag s = tg at *
    clear H H' hE
    go_enter Tryz.func26, Tryz.ntmps26
    go_wp2_with (go_at_call 25; refine hFirst.mono ?_; rintro e w1 ⟨rfl, H1, hc1⟩; have s1' : w.heap.size + 1 ≤ w1.heap.size := (by have := hc1.size; simpa using this); have b1 : Boxed3 w1 w.heap.size := (hc1.block _ (by simp) (by omega)).trans (World.alloc_heap_new w _); obtain ⟨⟨c0, c1, c2⟩, hf⟩ := b1.facts; have f0 := hf 0; have f1 := hf 1; have f2 := hf 2; have hne : ¬ w.heap.size = w1.heap.size := (by omega); have hlw : w.heap.size < w1.heap.size := (by omega))
    have c3 := chg_put3 w1 w.heap.size ⟨tg, 0, []⟩
    have d1 : Chg w w1 (fun k => k = h) := (Chg.alloc w _ (fun k => k = h)).trans hc1 (fun _ _ e => e)
    have d3 := (d1.trans c3 (fun i hi (e : i = w.heap.size) => by omega)).trans (Chg.alloc _ (Val.box ⟨tg, 0, []⟩) (fun k => k = h)) (fun _ _ e => e)
    have H3 := (H1.chg c3 (by omega) (by omega) (by omega)).chg (Chg.alloc _ (Val.box ⟨tg, 0, []⟩) (fun _ => False)) id id id
    exact ret_at _ w.heap.size ⟨tg, 0, []⟩ rfl rfl rfl ((set_box b1 ⟨tg, 0, []⟩).keep (keep_alloc _ _)) ⟨rfl, H3, d3⟩
end Go.Proofs.YtdmmlgajgpmpbaaGreatDoor
