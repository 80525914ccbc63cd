/- Layer 8: the law's knows. Layer 8: Order and Deep of the law's script. Layer 8: the law's knows. Layer 8: a script in its box, and its copy; what Graph answers, in one form. -/
import Derived.Test.YtodagpmcmjleaaaGreatXN
import Derived.Test.YtodagpmcmjleaaaGreatXS
import Derived.Test.YtodagpmcmjleaaaGreatCB
import Derived.Test.YtodagpmcmjleaaaGreatCS
namespace Go.Proofs.YtodagpmcmjleaaaGreat
open Go.RowKit
def FuncE (n : Int) (w : World) (e : Ending) (w' : World) : Prop := ∃ b, e = .returned (.agg #[.slice none 0 0, .slice none 0 0, .slice none 0 0, .slice (some ⟨b, 0, none⟩) 1 1]) ∧ w.heap.size ≤ b ∧ w'.heap[b]? = some (.cells #[.int .i64 53, .int .i64 n] 49 (0, 0)) ∧ Below w.heap.size w w'
theorem know_row {w w1 : World} {b1 : Nat} (q1 : w.heap.size ≤ b1) (q2 : w1.heap[b1]? = some (.cells #[.int .i64 53, .int .i64 1] 49 (0, 0))) (o1 o2 : Obj) : ((w1.alloc o1).alloc o2).ownsRow w.heap.size 49 2 (.slice (some ⟨b1, 0, none⟩) 1 1) 1 [.int .i64 53, .int .i64 1] :=
  ⟨rfl, .inr ⟨b1, 1, #[.int .i64 53, .int .i64 1], rfl, q1, (Below.heap_alloc _ _ _ (by rw [World.size_alloc]; have := heap_lt q2; omega)).trans ((Below.heap_alloc _ _ _ (heap_lt q2)).trans q2), Nat.le_refl _, by unfold maxLen; omega, rfl, rfl⟩⟩
theorem know_cells {w1 w6 : World} {b1 : Nat} {v v' : Value} {o2 : Obj} (hb : b1 < w1.heap.size) (hv : v.ownBlock = some b1) (x : Value) (hs : Step ((w1.alloc (.cells #[.slice none 0 0, .slice none 0 0, .slice none 0 0, x] 44)).alloc o2) v w6 v') : w6.heap[w1.heap.size]? = some (.cells #[.slice none 0 0, .slice none 0 0, .slice none 0 0, x] 44 (0, 0)) := by
  rw [hs.1.block _ (by simp; omega) (by rw [hv]; simp; omega), Below.heap_alloc _ _ _ (by simp)]
  exact heap_alloc_new w1 _
theorem know_code {w w1 w6 : World} {b1 : Nat} {va : Option Addr} {vc : Nat} {v : Value} {o1 o2 : Obj} (hr : w6.ownsRow w.heap.size 49 2 (.slice va (1 + 1) vc) (1 + 1) ([.int .i64 53, .int .i64 1] ++ [.int .i64 53, .int .i64 2])) (hs : Step ((w1.alloc o1).alloc o2) v w6 (.slice va (1 + 1) vc)) (hq : w.heap.size ≤ b1 ∧ w1.heap[b1]? = some (.cells #[.int .i64 53, .int .i64 1] 49 (0, 0)) ∧ Below w.heap.size w w1) (u : Value) (hv : v.ownBlock = some b1) :
    IsAt (w6.setCell ⟨w1.heap.size, 3, none⟩ u).cell? va [(53, 1), (53, 2)] ∧ Below w.heap.size w (w6.setCell ⟨w1.heap.size, 3, none⟩ u) := by
  obtain ⟨q1, q2, q3⟩ := hq
  have hl := heap_lt q2
  have bb : Below w.heap.size w ((w1.alloc o1).alloc o2) := (q3.alloc q3.size _).alloc (by rw [World.size_alloc]; have := q3.size; omega) _
  refine ⟨?_, (bb.trans (hs.below bb.size (fun g e => by rw [hv] at e; cases e; exact q1))).setCell (p := ⟨w1.heap.size, 3, none⟩) q3.size _⟩
  obtain ⟨a', c', e, _, _, q⟩ := row_form hr
  cases e
  rcases q with ⟨_, q, _⟩ | ⟨g, e, _, _, q⟩
  · omega
  · have hg : g ≠ w1.heap.size := by
      rcases hs.2 with h | ⟨g', h, h2⟩
      · rw [hv, e] at h; simp [Value.ownBlock] at h; omega
      · rw [e] at h; simp [Value.ownBlock] at h; simp at h2; omega
    have kk : ∀ j v, w6.cell? ⟨g, j, none⟩ = some v → (w6.setCell ⟨w1.heap.size, 3, none⟩ u).cell? ⟨g, j, none⟩ = some v := fun j v h => (World.cell?_of_block (Below.heap_setCell _ _ _ _ hg)).trans h
    refine .inr ⟨g, 0, e, fun j hj => ?_⟩
    match j, hj with
    | 0, _ => exact ⟨kk 0 _ (q 0 _ rfl), kk 1 _ (q 1 _ rfl)⟩
    | 1, _ => exact ⟨kk 2 _ (q 2 _ rfl), kk 3 _ (q 3 _ rfl)⟩
/-- The script of three functions. -/
def kS : Scr := ⟨[], [⟨[], [], [], [(53, 1), (53, 2)]⟩, ⟨[], [], [], [(53, 2)]⟩, ⟨[], [], [], []⟩]⟩
/-- It lies in a box. -/
def KEnd (w W : World) (p fb : Nat) : Prop := W.cell? ⟨p, 0, none⟩ = some (.slice none 0 0) ∧ W.cell? ⟨p, 1, none⟩ = some (.slice (some ⟨fb, 0, none⟩) 3 3) ∧ p < W.heap.size ∧ FsAt W.cell? (some ⟨fb, 0, none⟩) kS.funcs ∧ Below w.heap.size w W
def k12 (va : Option Addr) (vc b8 : Nat) : Array Value := #[.slice none 0 0, .slice none 0 0, .slice none 0 0, .slice va 2 vc, .slice none 0 0, .slice none 0 0, .slice none 0 0, .slice (some ⟨b8, 0, none⟩) 1 1, .slice none 0 0, .slice none 0 0, .slice none 0 0, .slice none 0 0]
theorem k_fs {W : World} {va : Option Addr} {vc b8 fb : Nat} (h1 : IsAt W.cell? va [(53, 1), (53, 2)]) (h2 : IsAt W.cell? (some ⟨b8, 0, none⟩) [(53, 2)]) (h3 : W.heap[fb]? = some (.cells (k12 va vc b8) 44 (0, 0))) : FsAt W.cell? (some ⟨fb, 0, none⟩) kS.funcs := by
  have nl : ∀ (C : Addr → Option Value), ∃ a c, Value.slice none 0 0 = .slice a ([] : List Int).length c ∧ NsAt C a [] := fun C => ⟨none, 0, rfl, .inl rfl⟩
  have cc : ∀ j, W.cell? ⟨fb, j, none⟩ = (k12 va vc b8)[j]? := fun j => Lib.cell_of_heap h3 j
  refine .inr ⟨fb, 0, rfl, fun j hj => ?_⟩
  match j, hj with
  | 0, _ => exact ⟨_, _, _, _, cc 0, cc 1, cc 2, cc 3, nl _, nl _, nl _, va, vc, rfl, h1⟩
  | 1, _ => exact ⟨_, _, _, _, cc 4, cc 5, cc 6, cc 7, nl _, nl _, nl _, _, 1, rfl, h2⟩
  | 2, _ => exact ⟨_, _, _, _, cc 8, cc 9, cc 10, cc 11, nl _, nl _, nl _, none, 0, rfl, .inl rfl⟩
theorem k_B {w w8 : World} {va : Option Addr} {vc b8 : Nat} (h1 : IsAt w8.cell? va [(53, 1), (53, 2)]) (h2 : IsAt w8.cell? (some ⟨b8, 0, none⟩) [(53, 2)]) (h3 : Below w.heap.size w w8) : KEnd w ((w8.alloc (.cells #[.slice none 0 0, .slice (some ⟨w8.heap.size + 1, 0, none⟩) 3 3] 25)).alloc (.cells (k12 va vc b8) 44)) w8.heap.size (w8.heap.size + 1) := by
  have b1 := (Below.refl _ w8).alloc (Nat.le_refl _) (.cells #[.slice none 0 0, .slice (some ⟨w8.heap.size + 1, 0, none⟩) 3 3] 25)
  have e1 := heap_alloc_new w8 (.cells #[.slice none 0 0, .slice (some ⟨w8.heap.size + 1, 0, none⟩) 3 3] 25)
  generalize hw : w8.alloc (.cells #[.slice none 0 0, .slice (some ⟨w8.heap.size + 1, 0, none⟩) 3 3] 25) = w9 at *
  have z : w9.heap.size = w8.heap.size + 1 := by rw [← hw]; simp
  have b2 := (Below.refl _ w9).alloc (Nat.le_refl _) (.cells (k12 va vc b8) 44)
  have e2 := heap_alloc_new w9 (.cells (k12 va vc b8) 44)
  have e3 := (b2.block _ (heap_lt e1)).trans e1
  have bb := b1.trans (b2.mono b1.size)
  exact ⟨Lib.cell_of_heap e3 0, Lib.cell_of_heap e3 1, heap_lt e3, k_fs (h1.keep (below_keep bb)) (h2.keep (below_keep bb)) (by rw [← z]; exact e2), h3.trans (bb.mono h3.size)⟩
theorem k_C {w w8 : World} {va : Option Addr} {vc b8 : Nat} (h1 : IsAt w8.cell? va [(53, 1), (53, 2)]) (h2 : IsAt w8.cell? (some ⟨b8, 0, none⟩) [(53, 2)]) (h3 : Below w.heap.size w w8) : KEnd w ((w8.alloc (.cells (k12 va vc b8) 44)).alloc (.cells #[.slice none 0 0, .slice (some ⟨w8.heap.size, 0, none⟩) 3 3] 25)) (w8.heap.size + 1) w8.heap.size := by
  have b1 := (Below.refl _ w8).alloc (Nat.le_refl _) (.cells (k12 va vc b8) 44)
  have e1 := heap_alloc_new w8 (.cells (k12 va vc b8) 44)
  generalize hw : w8.alloc (.cells (k12 va vc b8) 44) = w9 at *
  have z : w9.heap.size = w8.heap.size + 1 := by rw [← hw]; simp
  have b2 := (Below.refl _ w9).alloc (Nat.le_refl _) (.cells #[.slice none 0 0, .slice (some ⟨w8.heap.size, 0, none⟩) 3 3] 25)
  have e2 := heap_alloc_new w9 (.cells #[.slice none 0 0, .slice (some ⟨w8.heap.size, 0, none⟩) 3 3] 25)
  have e3 := (b2.block _ (heap_lt e1)).trans e1
  have bb := b1.trans (b2.mono b1.size)
  rw [z] at e2
  exact ⟨Lib.cell_of_heap e2 0, Lib.cell_of_heap e2 1, heap_lt e2, k_fs (h1.keep (below_keep bb)) (h2.keep (below_keep bb)) e3, h3.trans (bb.mono h3.size)⟩
theorem k_A {w w7 w8 : World} {va : Option Addr} {vc b8 : Nat} (hw : w.heap.size ≤ w7.heap.size) (h1 : IsAt w7.cell? va [(53, 1), (53, 2)]) (h1' : IsAt w8.cell? va [(53, 1), (53, 2)]) (h2 : IsAt w8.cell? (some ⟨b8, 0, none⟩) [(53, 2)]) (hb8 : w7.heap.size < b8) (h3 : Below w.heap.size w w8) (hx : w8.heap[w7.heap.size]? = some (.cells #[.slice none 0 0, .slice none 0 0] 25 (0, 0))) :
    KEnd w (((w8.setCell ⟨w7.heap.size, 0, none⟩ (.slice none 0 0)).setCell ⟨w7.heap.size, 1, none⟩ (.slice (some ⟨w8.heap.size, 0, none⟩) 3 3)).alloc (.cells (k12 va vc b8) 44)) w7.heap.size w8.heap.size := by
  have e1 := heap_setCell_same (w8.setCell ⟨w7.heap.size, 0, none⟩ (.slice none 0 0)) w7.heap.size 1 _ _ (.slice (some ⟨w8.heap.size, 0, none⟩) 3 3) (heap_setCell_same w8 w7.heap.size 0 _ _ (.slice none 0 0) hx)
  have kk : ∀ a v, a.block ≠ w7.heap.size → w8.cell? a = some v → ((w8.setCell ⟨w7.heap.size, 0, none⟩ (.slice none 0 0)).setCell ⟨w7.heap.size, 1, none⟩ (.slice (some ⟨w8.heap.size, 0, none⟩) 3 3)).cell? a = some v := fun a v ha h => (World.cell?_of_block ((Below.heap_setCell _ _ _ _ ha).trans (Below.heap_setCell _ _ _ _ ha))).trans h
  have z : ((w8.setCell ⟨w7.heap.size, 0, none⟩ (.slice none 0 0)).setCell ⟨w7.heap.size, 1, none⟩ (.slice (some ⟨w8.heap.size, 0, none⟩) 3 3)).heap.size = w8.heap.size := by simp [World.setCell]
  have b9 : Below w.heap.size w ((w8.setCell ⟨w7.heap.size, 0, none⟩ (.slice none 0 0)).setCell ⟨w7.heap.size, 1, none⟩ (.slice (some ⟨w8.heap.size, 0, none⟩) 3 3)) := (h3.setCell (p := ⟨w7.heap.size, 0, none⟩) hw _).setCell (p := ⟨w7.heap.size, 1, none⟩) hw _
  generalize ((w8.setCell ⟨w7.heap.size, 0, none⟩ (.slice none 0 0)).setCell ⟨w7.heap.size, 1, none⟩ (.slice (some ⟨w8.heap.size, 0, none⟩) 3 3)) = w9 at *
  have b2 := (Below.refl _ w9).alloc (Nat.le_refl _) (.cells (k12 va vc b8) 44)
  have e2 := heap_alloc_new w9 (.cells (k12 va vc b8) 44)
  have e3 := (b2.block _ (heap_lt e1)).trans e1
  rw [z] at e2
  have i1 : IsAt w9.cell? va [(53, 1), (53, 2)] := by
    rcases h1 with h | ⟨b, o, e, h⟩
    · cases h
    · have hb : b ≠ w7.heap.size := by have := World.block_lt_of_cell? w7 _ (h 0 (by decide)).1; simp at this; omega
      rcases h1' with h' | ⟨b', o', e', h'⟩
      · cases h'
      · rw [e] at e'; cases e'
        exact .inr ⟨b, o, e, fun j hj => ⟨kk _ _ hb (h' j hj).1, kk _ _ hb (h' j hj).2⟩⟩
  have i2 : IsAt w9.cell? (some ⟨b8, 0, none⟩) [(53, 2)] := by
    rcases h2 with h | ⟨b, o, e, h⟩
    · cases h
    · cases e
      exact .inr ⟨b8, 0, rfl, fun j hj => ⟨kk _ _ (by show b8 ≠ _; omega) (h j hj).1, kk _ _ (by show b8 ≠ _; omega) (h j hj).2⟩⟩
  exact ⟨Lib.cell_of_heap e3 0, Lib.cell_of_heap e3 1, heap_lt e3, k_fs (i1.keep (below_keep b2)) (i2.keep (below_keep b2)) e2, b9.trans (b2.mono b9.size)⟩
end Go.Proofs.YtodagpmcmjleaaaGreat
namespace Go.Proofs.YtodagpmcmjleaaaGreat
open Go.RowKit
theorem KEnd.keep {w W W' : World} {p fb : Nat} (h : KEnd w W p fb) (b : Below W.heap.size W W') : KEnd w W' p fb := by
  have kk := below_keep b
  exact ⟨kk _ _ h.1, kk _ _ h.2.1, Nat.lt_of_lt_of_le h.2.2.1 b.size, h.2.2.2.1.keep kk, h.2.2.2.2.trans (b.mono h.2.2.2.2.size)⟩
theorem kS_fits : kS.fits := by
  refine ⟨by decide, by decide, fun f hf => ?_, fun x hx => by cases hx⟩
  simp only [kS, List.mem_cons, List.not_mem_nil, or_false] at hf
  rcases hf with rfl | rfl | rfl <;> (unfold Fn.fits; simp)
theorem kS_ord : kS.right = true ∧ ordS 3 (gF kS) = some [2, 1, 0] := by decide +kernel
theorem know_order {w : World} (W : World) (p fb : Nat) (h : KEnd w W p fb) : Calls Tryz.prog 13 #[.agg #[.slice none 0 0, .slice (some ⟨fb, 0, none⟩) 3 3]] W fun e w2 => ∃ la lc, e = .returned (.tuple #[.slice la 3 lc, .int .i64 0]) ∧ w2.cell? ⟨p, 0, none⟩ = some (.slice none 0 0) ∧ w2.cell? ⟨p, 1, none⟩ = some (.slice (some ⟨fb, 0, none⟩) 3 3) ∧ Hid (KEnd w w2 p fb ∧ NsAt w2.cell? la [2, 1, 0]) := by
  refine (order_any kS _ _ W ⟨⟨none, 0, rfl, .inl rfl⟩, ⟨_, 3, rfl, h.2.2.2.1⟩⟩ kS_fits).mono fun e w2 ⟨h1, h2⟩ => ?_
  have h3 := h.keep h1
  rw [if_pos kS_ord.1, show ordS kS.funcs.length (gF kS) = some [2, 1, 0] from kS_ord.2] at h2
  obtain ⟨la, lc, e1, e2⟩ := h2
  exact ⟨la, lc, e1, h3.1, h3.2.1, hid7 ⟨h3, e2⟩⟩
end Go.Proofs.YtodagpmcmjleaaaGreat
namespace Go.Proofs.YtodagpmcmjleaaaGreat
open Go.RowKit
theorem know_ints (x y z : Int) (W0 W : World) (la : Option Addr) (lc : Nat) (h : NsAt W0.cell? la [x, y, z]) (hb : Below W0.heap.size W0 W) : Calls Tryz.prog 9 #[.slice la 3 lc, .slice (some ⟨W.heap.size, 0, none⟩) 3 3] (W.alloc (.cells #[.int .i64 x, .int .i64 y, .int .i64 z] 3)) fun e w' => e = .returned (.bool true) ∧ Hid (Below W.heap.size W w') := by
  have b1 := (Below.refl _ W).alloc (Nat.le_refl _) (.cells #[.int .i64 x, .int .i64 y, .int .i64 z] 3)
  have e1 := heap_alloc_new W (.cells #[.int .i64 x, .int .i64 y, .int .i64 z] 3)
  have h2 : NsAt (W.alloc (.cells #[.int .i64 x, .int .i64 y, .int .i64 z] 3)).cell? (some ⟨W.heap.size, 0, none⟩) [x, y, z] := by
    refine .inr ⟨_, 0, rfl, fun j hj => ?_⟩
    rw [Nat.zero_add, Lib.cell_of_heap e1]
    match j, hj with
    | 0, _ => rfl
    | 1, _ => rfl
    | 2, _ => rfl
  have := lints_any la (some ⟨W.heap.size, 0, none⟩) lc 3 3 3 [x, y, z] [x, y, z] rfl rfl _ ((h.keep (below_keep hb)).keep (below_keep b1)) h2 (by omega) (by omega)
  refine this.mono fun e w' ⟨q1, k, q2⟩ => ⟨by rw [q1]; simp, hid7 ?_⟩
  rw [q2]
  exact b1.trans ⟨rfl, rfl, rfl, Nat.le_refl _, fun _ _ => rfl⟩
end Go.Proofs.YtodagpmcmjleaaaGreat
namespace Go.Proofs.YtodagpmcmjleaaaGreat
open Go.RowKit
/-- The script in its box, a copy of it in another one. -/
structure Bx2 (s : Scr) (V0 V1 u0 u1 : Value) (X : Nat) (w W : World) : Prop where
  b : Below w.heap.size w W
  sb : W.heap[w.heap.size]? = some (.cells #[V0, V1] 25 (0, 0))
  x : W.heap[X]? = some (.cells #[u0, u1] 25 (0, 0))
  c : ScIs W.cell? s u0 u1
theorem Bx2.below {s : Scr} {V0 V1 u0 u1 : Value} {X : Nat} {w W W' : World} (h : Bx2 s V0 V1 u0 u1 X w W) (hb : Below W.heap.size W W') : Bx2 s V0 V1 u0 u1 X w W' :=
  ⟨h.b.trans (hb.mono h.b.size), (hb.block _ (heap_lt h.sb)).trans h.sb, (hb.block _ (heap_lt h.x)).trans h.x, h.c.keep (below_keep hb)⟩
theorem Bx2.sc {s : Scr} {V0 V1 u0 u1 : Value} {X : Nat} {w W : World} (h : Bx2 s V0 V1 u0 u1 X w W) : W.cell? ⟨w.heap.size, 0, none⟩ = some V0 ∧ W.cell? ⟨w.heap.size, 1, none⟩ = some V1 := by
  refine ⟨?_, ?_⟩ <;> rw [Lib.cell_of_heap h.sb] <;> rfl
theorem Bx2.xc {s : Scr} {V0 V1 u0 u1 : Value} {X : Nat} {w W : World} (h : Bx2 s V0 V1 u0 u1 X w W) : W.cell? ⟨X, 0, none⟩ = some u0 ∧ W.cell? ⟨X, 1, none⟩ = some u1 := by
  refine ⟨?_, ?_⟩ <;> rw [Lib.cell_of_heap h.x] <;> rfl
/-- The copy, and its box. -/
theorem clone_box (s : Scr) (V0 V1 : Value) (w : World) (hs : ScIs w.cell? s V0 V1) (hsf : s.fits) : Calls Tryz.prog 4 #[.agg #[V0, V1]] (w.alloc (.cells #[V0, V1] 25)) fun e w2 => ∃ b0 d0 b1 d1, e = .returned (.agg #[.slice b0 s.consts.length d0, .slice b1 s.funcs.length d1]) ∧ Hid (Bx2 s V0 V1 (.slice b0 s.consts.length d0) (.slice b1 s.funcs.length d1) w2.heap.size w (w2.alloc (.cells #[.slice b0 s.consts.length d0, .slice b1 s.funcs.length d1] 25))) := by
  have b1 := (Below.refl _ w).alloc (Nat.le_refl _) (.cells #[V0, V1] 25)
  refine (rclone_any s V0 V1 _ (hs.keep (below_keep b1)) hsf).mono fun e w2 ⟨u0, u1, h1, h2, h3⟩ => ?_
  obtain ⟨⟨c0, d0, rfl, n0⟩, ⟨c1, d1, rfl, n1⟩⟩ := h2
  have e2 : (w.alloc (.cells #[V0, V1] 25)).heap[w.heap.size]? = some (.cells #[V0, V1] 25 (0, 0)) := heap_alloc_new w _
  have e3 := (h3.block _ (heap_lt e2)).trans e2
  have bA := (Below.refl _ w2).alloc (Nat.le_refl _) (.cells #[.slice c0 s.consts.length d0, .slice c1 s.funcs.length d1] 25)
  have bw := b1.trans (h3.mono b1.size)
  exact ⟨c0, d0, c1, d1, h1, hid7 ⟨bw.trans (bA.mono bw.size), (bA.block _ (heap_lt e3)).trans e3, heap_alloc_new w2 _, ScIs.keep ⟨⟨c0, d0, rfl, n0⟩, ⟨c1, d1, rfl, n1⟩⟩ (below_keep bA)⟩⟩
def grE (s : Scr) : Int := if s.right = true then 0 else 30
def grR (s : Scr) : List (List Int) := if s.right = true then rowsI (graphS s) else []
theorem graph_end {s : Scr} {w w' : World} {e : Ending} (h : GraphEnd s w e w') : ∃ ga gc, e = .returned (.tuple #[.slice ga (grR s).length gc, .int .i64 (grE s)]) ∧ RsAt w'.cell? ga (grR s) ∧ Below w.heap.size w w' := by
  obtain ⟨h1, h2⟩ := h
  by_cases hr : s.right = true
  · rw [if_pos hr] at h1
    obtain ⟨ga, gc, e1, h3⟩ := h1
    exact ⟨ga, gc, by rw [grR, if_pos hr, grE, if_pos hr, graph_len]; exact e1, by rw [grR, if_pos hr]; exact h3, h2⟩
  · rw [if_neg hr] at h1
    exact ⟨none, 0, by rw [grR, if_neg hr, grE, if_neg hr]; exact h1, by rw [grR, if_neg hr]; exact .inl rfl, h2⟩
theorem grR_len (s : Scr) : (grR s).length ≤ 16 ∧ ∀ r ∈ grR s, r.length ≤ 16 := by
  unfold grR
  split
  · rename_i hr
    obtain ⟨r1, _, _⟩ := right_calls hr
    obtain ⟨_, _, i3, _⟩ := graph_inn s
    refine ⟨by rw [graph_len]; exact r1, fun r h => ?_⟩
    obtain ⟨l, hl, rfl⟩ := List.mem_map.1 h
    have := i3 l hl
    simp only [rowI, List.length_map]
    omega
  · simp
theorem reachS_len (s : Scr) (f : Int) : (reachS s f).length ≤ 16 := by
  unfold reachS
  split
  · rename_i h
    obtain ⟨r1, _, _⟩ := right_calls h.1
    exact Nat.le_trans (List.length_filter_le _ _) (by simp; exact r1)
  · simp
end Go.Proofs.YtodagpmcmjleaaaGreat
