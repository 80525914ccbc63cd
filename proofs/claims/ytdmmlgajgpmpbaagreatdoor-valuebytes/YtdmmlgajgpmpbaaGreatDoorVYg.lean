/- value.getOne, Get: what was written is read. -/
import Derived.Test.YtdmmlgajgpmpbaaGreatDoorVYp
import Derived.Test.YtdmmlgajgpmpbaaGreatDoorVG
namespace Go.Proofs.YtdmmlgajgpmpbaaGreatDoor
open Go.RowKit
attribute [local go_sem high] eq_val eq_val0
/-- The result, stored in its box. -/
def put3 (W : World) (b : Nat) (x : Val) : World := ((W.setCell ⟨b, 0, none⟩ (.int .i64 x.t)).setCell ⟨b, 1, none⟩ (.int .i64 x.n)).setCell ⟨b, 2, none⟩ (.string ⟨x.b.toArray⟩)
theorem chg_put3 (W : World) (b : Nat) (x : Val) : Chg W (put3 W b x) (fun k => k = b) :=
  ((Chg.setCell W ⟨b, 0, none⟩ _).trans (Chg.setCell _ ⟨b, 1, none⟩ _) (fun _ _ h => h)).trans (Chg.setCell _ ⟨b, 2, none⟩ _) (fun _ _ h => h)
theorem get_end {w w1 w2 : World} {p h g : Nat} {r : List UInt8} {y : Val} (x : Val) (hlt : h < w.heap.size) (hp : p < w.heap.size) (hg : g < w.heap.size) (hc1 : Chg (w.alloc (Val.box ⟨0, 0, []⟩)) w1 (fun k => k = h)) (hc2 : Chg (w1.alloc y.box) w2 (fun k => k = h)) (H2 : RdS w2 p h g r 0) (o : Nat) (u : Value) :
    ValAt (put3 (w2.setCell ⟨w1.heap.size, o, none⟩ u) w.heap.size x) w.heap.size x ∧ RdS (put3 (w2.setCell ⟨w1.heap.size, o, none⟩ u) w.heap.size x) p h g r 0 ∧ Chg w (put3 (w2.setCell ⟨w1.heap.size, o, none⟩ u) w.heap.size x) (fun k => k = h) := by
  have s1 : w.heap.size + 1 ≤ w1.heap.size := by have := hc1.size; simpa using this
  have b1 : Boxed3 w1 w.heap.size := (hc1.block _ (by simp) (by omega)).trans (World.alloc_heap_new w _)
  have b2 : Boxed3 w2 w.heap.size := (hc2.block _ (by simp; omega) (by omega)).trans ((Below.heap_alloc _ _ _ (by omega)).trans b1)
  have b3 : Boxed3 (w2.setCell ⟨w1.heap.size, o, none⟩ u) w.heap.size := (Below.heap_setCell _ _ _ _ (by show w.heap.size ≠ w1.heap.size; omega)).trans b2
  have c3 := chg_put3 (w2.setCell ⟨w1.heap.size, o, none⟩ u) w.heap.size x
  have c2 := Chg.setCell w2 ⟨w1.heap.size, o, none⟩ u
  refine ⟨set_box b3 x, (H2.chg c2 (by show ¬ p = w1.heap.size; omega) (by show ¬ h = w1.heap.size; omega) (by show ¬ g = w1.heap.size; omega)).chg c3 (by omega) (by omega) (by omega), ?_⟩
  have d1 : Chg w w1 (fun k => k = h) := (Chg.alloc w _ (fun k => k = h)).trans hc1 (fun _ _ e => e)
  have d2 : Chg w w2 (fun k => k = h) := (d1.trans (Chg.alloc w1 _ (fun k => k = h)) (fun _ _ e => e)).trans hc2 (fun _ _ e => e)
  exact (d2.trans c2 (fun i hi (e : i = w1.heap.size) => by omega)).trans c3 (fun i hi (e : i = w.heap.size) => by omega)
theorem rds_lt {w : World} {p h g : Nat} {bs : List UInt8} {err : Int} (H : RdS w p h g bs err) : p < w.heap.size ∧ h < w.heap.size := by
  obtain ⟨⟨ao, cap, hE, _⟩, _⟩ := H
  exact ⟨lt_of_block hE.hp, lt_of_block hE.hh⟩
/-- How a value is read. -/
def ReadV (p h g : Nat) (x : Val) (r : List UInt8) (w : World) (e : Ending) (w' : World) : Prop := e = .returned x.v ∧ RdS w' p h g r 0 ∧ Chg w w' (fun k => k = h)
set_option maxRecDepth 100000 in
set_option maxHeartbeats 1000000 in
theorem getOne_any (p h g : Nat) (x : Val) (r : List UInt8) (w : World) (H : RdS w p h g (encV x ++ r) 0) (hx : x.right = true) (h0 : -9223372036854775808 ≤ x.n) (h1 : x.n ≤ 9223372036854775807) (hg : g < w.heap.size) : Calls Tryz.prog 26 #[.pointer (some ⟨p, 0, none⟩)] w (ReadV p h g x r w) := by
  obtain ⟨hp, hlt⟩ := rds_lt H
  rcases right_cases hx with ⟨ht, hb⟩ | ⟨ht, hn, hb⟩ | ⟨ht, hn, hb⟩
  · obtain ⟨t, n, b⟩ := x
    simp only at ht hb h0 h1
    subst ht hb
    have H : RdS w p h g (1 :: (be64 n ++ r)) 0 := by simpa [encV] using H
    have H' := H.chg (Chg.alloc w (Val.box ⟨0, 0, []⟩) (fun _ => False)) id id id
    have hNext : ∀ w1, RdS w1 p h g (be64 n ++ r) 0 → Calls Tryz.prog 51 #[.pointer (some ⟨p, 0, none⟩)] (w1.alloc (Val.box ⟨1, 0, []⟩)) fun e w' => e = .returned (.int .i64 n) ∧ RdS w' p h g r 0 ∧ Chg (w1.alloc (Val.box ⟨1, 0, []⟩)) w' (fun k => k = h) := fun w1 H1 => rint_back p h g n r _ (H1.chg (Chg.alloc w1 _ (fun _ => False)) id id id) h0 h1
    have hFirst : Calls Tryz.prog 25 #[.pointer (some ⟨p, 0, none⟩)] (w.alloc (Val.box ⟨0, 0, []⟩)) fun e w' => e = .returned (.int .i64 1) ∧ RdS w' p h g (be64 n ++ r) 0 ∧ Chg (w.alloc (Val.box ⟨0, 0, []⟩)) w' (fun k => k = h) := rbyte_back p h g 1 _ _ H'
    clear H H' hx
    go_enter Tryz.func26, Tryz.ntmps26
    go_wp2_with (first | (go_at_call 25; refine hFirst.mono ?_; rintro e w1 ⟨rfl, H1, hc1⟩; have hC := hNext w1 H1; clear hFirst hNext) | (go_at_call 51; refine hC.mono ?_; rintro e w2 ⟨rfl, H2, hc2⟩; have s1 : w.heap.size + 1 ≤ w1.heap.size := (by have := hc1.size; simpa using this); have s2 : w1.heap.size + 1 ≤ w2.heap.size := (by have := hc2.size; simpa using this); have b2 : Boxed3 w2 w.heap.size := (hc2.block _ (by simp; omega) (by omega)).trans ((Below.heap_alloc _ _ _ (by omega)).trans ((hc1.block _ (by simp) (by omega)).trans (World.alloc_heap_new w _))); have e2 : w2.heap[w1.heap.size]? = some (Val.box ⟨1, 0, []⟩) := (hc2.block _ (by simp) (by omega)).trans (World.alloc_heap_new w1 _); obtain ⟨⟨c0, c1, c2⟩, hf⟩ := b2.facts; have f0 := hf 0; have f1 := hf 1; have f2 := hf 2; have d0 : w2.cell? ⟨w1.heap.size, 0, none⟩ = some (.int .i64 1) := (by rw [Lib.cell_of_heap e2]; rfl); have d1 : w2.cell? ⟨w1.heap.size, 1, none⟩ = some (.int .i64 0) := (by rw [Lib.cell_of_heap e2]; rfl); have d2 : w2.cell? ⟨w1.heap.size, 2, none⟩ = some (.string ⟨#[]⟩) := (by rw [Lib.cell_of_heap e2]; rfl); have k1 := Lib.frozen_of_heap e2 1; have hne : ¬ w.heap.size = w1.heap.size := (by omega); have hne' : ¬ w1.heap.size = w.heap.size := (by omega)))
    obtain ⟨q1, q2, q3⟩ := get_end ⟨1, n, []⟩ hlt hp hg hc1 hc2 H2 1 (.int .i64 n)
    exact ret_at _ w.heap.size ⟨1, n, []⟩ rfl rfl rfl q1 ⟨rfl, q2, q3⟩
  · obtain ⟨t, n, b⟩ := x
    simp only at ht hn hb h0 h1
    subst ht hn
    have H : RdS w p h g (2 :: (text b ++ r)) 0 := by simpa [encV] using H
    have H' := H.chg (Chg.alloc w (Val.box ⟨0, 0, []⟩) (fun _ => False)) id id id
    have hNext : ∀ w1, RdS w1 p h g (text b ++ r) 0 → Calls Tryz.prog 52 #[.pointer (some ⟨p, 0, none⟩)] (w1.alloc (Val.box ⟨2, 0, []⟩)) fun e w' => e = .returned (.string ⟨b.toArray⟩) ∧ RdS w' p h g r 0 ∧ Chg (w1.alloc (Val.box ⟨2, 0, []⟩)) w' (fun k => k = h) := fun w1 H1 => rtext_back p h g b r _ (H1.chg (Chg.alloc w1 _ (fun _ => False)) id id id) (by omega)
    have hFirst : Calls Tryz.prog 25 #[.pointer (some ⟨p, 0, none⟩)] (w.alloc (Val.box ⟨0, 0, []⟩)) fun e w' => e = .returned (.int .i64 2) ∧ RdS w' p h g (text b ++ r) 0 ∧ Chg (w.alloc (Val.box ⟨0, 0, []⟩)) w' (fun k => k = h) := rbyte_back p h g 2 _ _ H'
    clear H H' hx
    go_enter Tryz.func26, Tryz.ntmps26
    go_wp2_with (first | (go_at_call 25; refine hFirst.mono ?_; rintro e w1 ⟨rfl, H1, hc1⟩; have hC := hNext w1 H1; clear hFirst hNext) | (go_at_call 52; refine hC.mono ?_; rintro e w2 ⟨rfl, H2, hc2⟩; have s1 : w.heap.size + 1 ≤ w1.heap.size := (by have := hc1.size; simpa using this); have s2 : w1.heap.size + 1 ≤ w2.heap.size := (by have := hc2.size; simpa using this); have b2 : Boxed3 w2 w.heap.size := (hc2.block _ (by simp; omega) (by omega)).trans ((Below.heap_alloc _ _ _ (by omega)).trans ((hc1.block _ (by simp) (by omega)).trans (World.alloc_heap_new w _))); have e2 : w2.heap[w1.heap.size]? = some (Val.box ⟨2, 0, []⟩) := (hc2.block _ (by simp) (by omega)).trans (World.alloc_heap_new w1 _); obtain ⟨⟨c0, c1, c2⟩, hf⟩ := b2.facts; have f0 := hf 0; have f1 := hf 1; have f2 := hf 2; have d0 : w2.cell? ⟨w1.heap.size, 0, none⟩ = some (.int .i64 2) := (by rw [Lib.cell_of_heap e2]; rfl); have d1 : w2.cell? ⟨w1.heap.size, 1, none⟩ = some (.int .i64 0) := (by rw [Lib.cell_of_heap e2]; rfl); have d2 : w2.cell? ⟨w1.heap.size, 2, none⟩ = some (.string ⟨#[]⟩) := (by rw [Lib.cell_of_heap e2]; rfl); have k1 := Lib.frozen_of_heap e2 2; have hne : ¬ w.heap.size = w1.heap.size := (by omega); have hne' : ¬ w1.heap.size = w.heap.size := (by omega)))
    obtain ⟨q1, q2, q3⟩ := get_end ⟨2, 0, b⟩ hlt hp hg hc1 hc2 H2 2 (.string ⟨b.toArray⟩)
    exact ret_at _ w.heap.size ⟨2, 0, b⟩ rfl rfl rfl q1 ⟨rfl, q2, q3⟩
  · obtain ⟨t, n, b⟩ := x
    simp only at ht hn hb h0 h1
    subst ht hb
    obtain ⟨c, rfl, hc⟩ : ∃ c : UInt8, n = (c.toNat : Int) ∧ UInt8.ofNat n.toNat = c := by
      rcases hn with rfl | rfl
      · exact ⟨0, rfl, rfl⟩
      · exact ⟨1, rfl, rfl⟩
    have H : RdS w p h g (3 :: (c :: r)) 0 := by simpa [encV, hc] using H
    have H' := H.chg (Chg.alloc w (Val.box ⟨0, 0, []⟩) (fun _ => False)) id id id
    have hNext : ∀ w1, RdS w1 p h g (c :: r) 0 → Calls Tryz.prog 25 #[.pointer (some ⟨p, 0, none⟩)] (w1.alloc (Val.box ⟨3, 0, []⟩)) fun e w' => e = .returned (.int .i64 (c.toNat : Int)) ∧ RdS w' p h g r 0 ∧ Chg (w1.alloc (Val.box ⟨3, 0, []⟩)) w' (fun k => k = h) := fun w1 H1 => rbyte_back p h g c r _ (H1.chg (Chg.alloc w1 _ (fun _ => False)) id id id)
    have hFirst : Calls Tryz.prog 25 #[.pointer (some ⟨p, 0, none⟩)] (w.alloc (Val.box ⟨0, 0, []⟩)) fun e w' => e = .returned (.int .i64 3) ∧ RdS w' p h g (c :: r) 0 ∧ Chg (w.alloc (Val.box ⟨0, 0, []⟩)) w' (fun k => k = h) := rbyte_back p h g 3 _ _ H'
    clear H H' hx
    go_enter Tryz.func26, Tryz.ntmps26
    go_wp2_with (first | (go_at_call 25; refine hFirst.mono ?_; rintro e w1 ⟨rfl, H1, hc1⟩; have hC := hNext w1 H1; clear hFirst hNext) | (go_at_call 25; refine hC.mono ?_; rintro e w2 ⟨rfl, H2, hc2⟩; have s1 : w.heap.size + 1 ≤ w1.heap.size := (by have := hc1.size; simpa using this); have s2 : w1.heap.size + 1 ≤ w2.heap.size := (by have := hc2.size; simpa using this); have b2 : Boxed3 w2 w.heap.size := (hc2.block _ (by simp; omega) (by omega)).trans ((Below.heap_alloc _ _ _ (by omega)).trans ((hc1.block _ (by simp) (by omega)).trans (World.alloc_heap_new w _))); have e2 : w2.heap[w1.heap.size]? = some (Val.box ⟨3, 0, []⟩) := (hc2.block _ (by simp) (by omega)).trans (World.alloc_heap_new w1 _); obtain ⟨⟨c0, c1, c2⟩, hf⟩ := b2.facts; have f0 := hf 0; have f1 := hf 1; have f2 := hf 2; have d0 : w2.cell? ⟨w1.heap.size, 0, none⟩ = some (.int .i64 3) := (by rw [Lib.cell_of_heap e2]; rfl); have d1 : w2.cell? ⟨w1.heap.size, 1, none⟩ = some (.int .i64 0) := (by rw [Lib.cell_of_heap e2]; rfl); have d2 : w2.cell? ⟨w1.heap.size, 2, none⟩ = some (.string ⟨#[]⟩) := (by rw [Lib.cell_of_heap e2]; rfl); have k1 := Lib.frozen_of_heap e2 1; have hne : ¬ w.heap.size = w1.heap.size := (by omega); have hne' : ¬ w1.heap.size = w.heap.size := (by omega)))
    obtain ⟨q1, q2, q3⟩ := get_end ⟨3, (c.toNat : Int), []⟩ hlt hp hg hc1 hc2 H2 1 (.int .i64 (c.toNat : Int))
    exact ret_at _ w.heap.size ⟨3, (c.toNat : Int), []⟩ rfl rfl rfl q1 ⟨rfl, q2, q3⟩
end Go.Proofs.YtdmmlgajgpmpbaaGreatDoor
