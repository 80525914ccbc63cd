/- Layer 8: the law's knows. Layer 8: Order and Deep of the law's script. Layer 8: the law's knows. Layer 8: a script in its box, and its copy; what Graph answers, in one form. Layer 8: the document's Order. Layer 8: the document's Deep. -/
import Derived.Test.YtpmlnkjamhelnaaGreatXK
import Derived.Test.YtpmlnkjamhelnaaGreatXR
import Derived.Test.YtpmlnkjamhelnaaGreatCB
import Derived.Test.YtpmlnkjamhelnaaGreatCS
namespace Go.Proofs.YtpmlnkjamhelnaaGreat
open Go.RowKit
def FuncE (n : Int) (w : World) (e : Ending) (w' : World) : Prop := ∃ b, e = .returned (.agg #[.slice none 0 0, .slice none 0 0, .slice none 0 0, .slice (some ⟨b, 0, none⟩) 1 1]) ∧ w.heap.size ≤ b ∧ w'.heap[b]? = some (.cells #[.int .i64 53, .int .i64 n] 74 (0, 0)) ∧ Below w.heap.size w w'
theorem know_row {w w1 : World} {b1 : Nat} (q1 : w.heap.size ≤ b1) (q2 : w1.heap[b1]? = some (.cells #[.int .i64 53, .int .i64 1] 74 (0, 0))) (o1 o2 : Obj) : ((w1.alloc o1).alloc o2).ownsRow w.heap.size 74 2 (.slice (some ⟨b1, 0, none⟩) 1 1) 1 [.int .i64 53, .int .i64 1] :=
  ⟨rfl, .inr ⟨b1, 1, #[.int .i64 53, .int .i64 1], rfl, q1, (Below.heap_alloc _ _ _ (by rw [World.size_alloc]; have := heap_lt q2; omega)).trans ((Below.heap_alloc _ _ _ (heap_lt q2)).trans q2), Nat.le_refl _, by unfold maxLen; omega, rfl, rfl⟩⟩
theorem know_cells {w1 w6 : World} {b1 : Nat} {v v' : Value} {o2 : Obj} (hb : b1 < w1.heap.size) (hv : v.ownBlock = some b1) (x : Value) (hs : Step ((w1.alloc (.cells #[.slice none 0 0, .slice none 0 0, .slice none 0 0, x] 49)).alloc o2) v w6 v') : w6.heap[w1.heap.size]? = some (.cells #[.slice none 0 0, .slice none 0 0, .slice none 0 0, x] 49 (0, 0)) := by
  rw [hs.1.block _ (by simp; omega) (by rw [hv]; simp; omega), Below.heap_alloc _ _ _ (by simp)]
  exact heap_alloc_new w1 _
theorem know_code {w w1 w6 : World} {b1 : Nat} {va : Option Addr} {vc : Nat} {v : Value} {o1 o2 : Obj} (hr : w6.ownsRow w.heap.size 74 2 (.slice va (1 + 1) vc) (1 + 1) ([.int .i64 53, .int .i64 1] ++ [.int .i64 53, .int .i64 2])) (hs : Step ((w1.alloc o1).alloc o2) v w6 (.slice va (1 + 1) vc)) (hq : w.heap.size ≤ b1 ∧ w1.heap[b1]? = some (.cells #[.int .i64 53, .int .i64 1] 74 (0, 0)) ∧ Below w.heap.size w w1) (u : Value) (hv : v.ownBlock = some b1) :
    IsAt (w6.setCell ⟨w1.heap.size, 3, none⟩ u).cell? va [(53, 1), (53, 2)] ∧ Below w.heap.size w (w6.setCell ⟨w1.heap.size, 3, none⟩ u) := by
  obtain ⟨q1, q2, q3⟩ := hq
  have hl := heap_lt q2
  have bb : Below w.heap.size w ((w1.alloc o1).alloc o2) := (q3.alloc q3.size _).alloc (by rw [World.size_alloc]; have := q3.size; omega) _
  refine ⟨?_, (bb.trans (hs.below bb.size (fun g e => by rw [hv] at e; cases e; exact q1))).setCell (p := ⟨w1.heap.size, 3, none⟩) q3.size _⟩
  obtain ⟨a', c', e, _, _, q⟩ := row_form hr
  cases e
  rcases q with ⟨_, q, _⟩ | ⟨g, e, _, _, q⟩
  · omega
  · have hg : g ≠ w1.heap.size := by
      rcases hs.2 with h | ⟨g', h, h2⟩
      · rw [hv, e] at h; simp [Value.ownBlock] at h; omega
      · rw [e] at h; simp [Value.ownBlock] at h; simp at h2; omega
    have kk : ∀ j v, w6.cell? ⟨g, j, none⟩ = some v → (w6.setCell ⟨w1.heap.size, 3, none⟩ u).cell? ⟨g, j, none⟩ = some v := fun j v h => (World.cell?_of_block (Below.heap_setCell _ _ _ _ hg)).trans h
    refine .inr ⟨g, 0, e, fun j hj => ?_⟩
    match j, hj with
    | 0, _ => exact ⟨kk 0 _ (q 0 _ rfl), kk 1 _ (q 1 _ rfl)⟩
    | 1, _ => exact ⟨kk 2 _ (q 2 _ rfl), kk 3 _ (q 3 _ rfl)⟩
/-- The script of three functions. -/
def kS : Scr := ⟨[], [⟨[], [], [], [(53, 1), (53, 2)]⟩, ⟨[], [], [], [(53, 2)]⟩, ⟨[], [], [], []⟩]⟩
/-- It lies in a box. -/
def KEnd (w W : World) (p fb : Nat) : Prop := W.cell? ⟨p, 0, none⟩ = some (.slice none 0 0) ∧ W.cell? ⟨p, 1, none⟩ = some (.slice (some ⟨fb, 0, none⟩) 3 3) ∧ p < W.heap.size ∧ FsAt W.cell? (some ⟨fb, 0, none⟩) kS.funcs ∧ Below w.heap.size w W
def k12 (va : Option Addr) (vc b8 : Nat) : Array Value := #[.slice none 0 0, .slice none 0 0, .slice none 0 0, .slice va 2 vc, .slice none 0 0, .slice none 0 0, .slice none 0 0, .slice (some ⟨b8, 0, none⟩) 1 1, .slice none 0 0, .slice none 0 0, .slice none 0 0, .slice none 0 0]
theorem k_fs {W : World} {va : Option Addr} {vc b8 fb : Nat} (h1 : IsAt W.cell? va [(53, 1), (53, 2)]) (h2 : IsAt W.cell? (some ⟨b8, 0, none⟩) [(53, 2)]) (h3 : W.heap[fb]? = some (.cells (k12 va vc b8) 49 (0, 0))) : FsAt W.cell? (some ⟨fb, 0, none⟩) kS.funcs := by
  have nl : ∀ (C : Addr → Option Value), ∃ a c, Value.slice none 0 0 = .slice a ([] : List Int).length c ∧ NsAt C a [] := fun C => ⟨none, 0, rfl, .inl rfl⟩
  have cc : ∀ j, W.cell? ⟨fb, j, none⟩ = (k12 va vc b8)[j]? := fun j => Lib.cell_of_heap h3 j
  refine .inr ⟨fb, 0, rfl, fun j hj => ?_⟩
  match j, hj with
  | 0, _ => exact ⟨_, _, _, _, cc 0, cc 1, cc 2, cc 3, nl _, nl _, nl _, va, vc, rfl, h1⟩
  | 1, _ => exact ⟨_, _, _, _, cc 4, cc 5, cc 6, cc 7, nl _, nl _, nl _, _, 1, rfl, h2⟩
  | 2, _ => exact ⟨_, _, _, _, cc 8, cc 9, cc 10, cc 11, nl _, nl _, nl _, none, 0, rfl, .inl rfl⟩
theorem k_B {w w8 : World} {va : Option Addr} {vc b8 : Nat} (h1 : IsAt w8.cell? va [(53, 1), (53, 2)]) (h2 : IsAt w8.cell? (some ⟨b8, 0, none⟩) [(53, 2)]) (h3 : Below w.heap.size w w8) : KEnd w ((w8.alloc (.cells #[.slice none 0 0, .slice (some ⟨w8.heap.size + 1, 0, none⟩) 3 3] 27)).alloc (.cells (k12 va vc b8) 49)) w8.heap.size (w8.heap.size + 1) := by
  have b1 := (Below.refl _ w8).alloc (Nat.le_refl _) (.cells #[.slice none 0 0, .slice (some ⟨w8.heap.size + 1, 0, none⟩) 3 3] 27)
  have e1 := heap_alloc_new w8 (.cells #[.slice none 0 0, .slice (some ⟨w8.heap.size + 1, 0, none⟩) 3 3] 27)
  generalize hw : w8.alloc (.cells #[.slice none 0 0, .slice (some ⟨w8.heap.size + 1, 0, none⟩) 3 3] 27) = w9 at *
  have z : w9.heap.size = w8.heap.size + 1 := by rw [← hw]; simp
  have b2 := (Below.refl _ w9).alloc (Nat.le_refl _) (.cells (k12 va vc b8) 49)
  have e2 := heap_alloc_new w9 (.cells (k12 va vc b8) 49)
  have e3 := (b2.block _ (heap_lt e1)).trans e1
  have bb := b1.trans (b2.mono b1.size)
  exact ⟨Lib.cell_of_heap e3 0, Lib.cell_of_heap e3 1, heap_lt e3, k_fs (h1.keep (below_keep bb)) (h2.keep (below_keep bb)) (by rw [← z]; exact e2), h3.trans (bb.mono h3.size)⟩
theorem k_C {w w8 : World} {va : Option Addr} {vc b8 : Nat} (h1 : IsAt w8.cell? va [(53, 1), (53, 2)]) (h2 : IsAt w8.cell? (some ⟨b8, 0, none⟩) [(53, 2)]) (h3 : Below w.heap.size w w8) : KEnd w ((w8.alloc (.cells (k12 va vc b8) 49)).alloc (.cells #[.slice none 0 0, .slice (some ⟨w8.heap.size, 0, none⟩) 3 3] 27)) (w8.heap.size + 1) w8.heap.size := by
  have b1 := (Below.refl _ w8).alloc (Nat.le_refl _) (.cells (k12 va vc b8) 49)
  have e1 := heap_alloc_new w8 (.cells (k12 va vc b8) 49)
  generalize hw : w8.alloc (.cells (k12 va vc b8) 49) = w9 at *
  have z : w9.heap.size = w8.heap.size + 1 := by rw [← hw]; simp
  have b2 := (Below.refl _ w9).alloc (Nat.le_refl _) (.cells #[.slice none 0 0, .slice (some ⟨w8.heap.size, 0, none⟩) 3 3] 27)
  have e2 := heap_alloc_new w9 (.cells #[.slice none 0 0, .slice (some ⟨w8.heap.size, 0, none⟩) 3 3] 27)
  have e3 := (b2.block _ (heap_lt e1)).trans e1
  have bb := b1.trans (b2.mono b1.size)
  rw [z] at e2
  exact ⟨Lib.cell_of_heap e2 0, Lib.cell_of_heap e2 1, heap_lt e2, k_fs (h1.keep (below_keep bb)) (h2.keep (below_keep bb)) e3, h3.trans (bb.mono h3.size)⟩
theorem k_A {w w7 w8 : World} {va : Option Addr} {vc b8 : Nat} (hw : w.heap.size ≤ w7.heap.size) (h1 : IsAt w7.cell? va [(53, 1), (53, 2)]) (h1' : IsAt w8.cell? va [(53, 1), (53, 2)]) (h2 : IsAt w8.cell? (some ⟨b8, 0, none⟩) [(53, 2)]) (hb8 : w7.heap.size < b8) (h3 : Below w.heap.size w w8) (hx : w8.heap[w7.heap.size]? = some (.cells #[.slice none 0 0, .slice none 0 0] 27 (0, 0))) :
    KEnd w (((w8.setCell ⟨w7.heap.size, 0, none⟩ (.slice none 0 0)).setCell ⟨w7.heap.size, 1, none⟩ (.slice (some ⟨w8.heap.size, 0, none⟩) 3 3)).alloc (.cells (k12 va vc b8) 49)) w7.heap.size w8.heap.size := by
  have e1 := heap_setCell_same (w8.setCell ⟨w7.heap.size, 0, none⟩ (.slice none 0 0)) w7.heap.size 1 _ _ (.slice (some ⟨w8.heap.size, 0, none⟩) 3 3) (heap_setCell_same w8 w7.heap.size 0 _ _ (.slice none 0 0) hx)
  have kk : ∀ a v, a.block ≠ w7.heap.size → w8.cell? a = some v → ((w8.setCell ⟨w7.heap.size, 0, none⟩ (.slice none 0 0)).setCell ⟨w7.heap.size, 1, none⟩ (.slice (some ⟨w8.heap.size, 0, none⟩) 3 3)).cell? a = some v := fun a v ha h => (World.cell?_of_block ((Below.heap_setCell _ _ _ _ ha).trans (Below.heap_setCell _ _ _ _ ha))).trans h
  have z : ((w8.setCell ⟨w7.heap.size, 0, none⟩ (.slice none 0 0)).setCell ⟨w7.heap.size, 1, none⟩ (.slice (some ⟨w8.heap.size, 0, none⟩) 3 3)).heap.size = w8.heap.size := by simp [World.setCell]
  have b9 : Below w.heap.size w ((w8.setCell ⟨w7.heap.size, 0, none⟩ (.slice none 0 0)).setCell ⟨w7.heap.size, 1, none⟩ (.slice (some ⟨w8.heap.size, 0, none⟩) 3 3)) := (h3.setCell (p := ⟨w7.heap.size, 0, none⟩) hw _).setCell (p := ⟨w7.heap.size, 1, none⟩) hw _
  generalize ((w8.setCell ⟨w7.heap.size, 0, none⟩ (.slice none 0 0)).setCell ⟨w7.heap.size, 1, none⟩ (.slice (some ⟨w8.heap.size, 0, none⟩) 3 3)) = w9 at *
  have b2 := (Below.refl _ w9).alloc (Nat.le_refl _) (.cells (k12 va vc b8) 49)
  have e2 := heap_alloc_new w9 (.cells (k12 va vc b8) 49)
  have e3 := (b2.block _ (heap_lt e1)).trans e1
  rw [z] at e2
  have i1 : IsAt w9.cell? va [(53, 1), (53, 2)] := by
    rcases h1 with h | ⟨b, o, e, h⟩
    · cases h
    · have hb : b ≠ w7.heap.size := by have := World.block_lt_of_cell? w7 _ (h 0 (by decide)).1; simp at this; omega
      rcases h1' with h' | ⟨b', o', e', h'⟩
      · cases h'
      · rw [e] at e'; cases e'
        exact .inr ⟨b, o, e, fun j hj => ⟨kk _ _ hb (h' j hj).1, kk _ _ hb (h' j hj).2⟩⟩
  have i2 : IsAt w9.cell? (some ⟨b8, 0, none⟩) [(53, 2)] := by
    rcases h2 with h | ⟨b, o, e, h⟩
    · cases h
    · cases e
      exact .inr ⟨b8, 0, rfl, fun j hj => ⟨kk _ _ (by show b8 ≠ _; omega) (h j hj).1, kk _ _ (by show b8 ≠ _; omega) (h j hj).2⟩⟩
  exact ⟨Lib.cell_of_heap e3 0, Lib.cell_of_heap e3 1, heap_lt e3, k_fs (i1.keep (below_keep b2)) (i2.keep (below_keep b2)) e2, b9.trans (b2.mono b9.size)⟩
end Go.Proofs.YtpmlnkjamhelnaaGreat
namespace Go.Proofs.YtpmlnkjamhelnaaGreat
open Go.RowKit
theorem KEnd.keep {w W W' : World} {p fb : Nat} (h : KEnd w W p fb) (b : Below W.heap.size W W') : KEnd w W' p fb := by
  have kk := below_keep b
  exact ⟨kk _ _ h.1, kk _ _ h.2.1, Nat.lt_of_lt_of_le h.2.2.1 b.size, h.2.2.2.1.keep kk, h.2.2.2.2.trans (b.mono h.2.2.2.2.size)⟩
theorem kS_fits : kS.fits := by
  refine ⟨by decide, by decide, fun f hf => ?_, fun x hx => by cases hx⟩
  simp only [kS, List.mem_cons, List.not_mem_nil, or_false] at hf
  rcases hf with rfl | rfl | rfl <;> (unfold Fn.fits; simp)
theorem kS_ord : kS.right = true ∧ ordS 3 (gF kS) = some [2, 1, 0] := by decide +kernel
theorem know_order {w : World} (W : World) (p fb : Nat) (h : KEnd w W p fb) : Calls Tryz.prog 47 #[.agg #[.slice none 0 0, .slice (some ⟨fb, 0, none⟩) 3 3]] W fun e w2 => ∃ la lc, e = .returned (.tuple #[.slice la 3 lc, .int .i64 0]) ∧ w2.cell? ⟨p, 0, none⟩ = some (.slice none 0 0) ∧ w2.cell? ⟨p, 1, none⟩ = some (.slice (some ⟨fb, 0, none⟩) 3 3) ∧ Hid (KEnd w w2 p fb ∧ NsAt w2.cell? la [2, 1, 0]) := by
  refine (order_any kS _ _ W ⟨⟨none, 0, rfl, .inl rfl⟩, ⟨_, 3, rfl, h.2.2.2.1⟩⟩ kS_fits).mono fun e w2 ⟨h1, h2⟩ => ?_
  have h3 := h.keep h1
  rw [if_pos kS_ord.1, show ordS kS.funcs.length (gF kS) = some [2, 1, 0] from kS_ord.2] at h2
  obtain ⟨la, lc, e1, e2⟩ := h2
  exact ⟨la, lc, e1, h3.1, h3.2.1, hid7 ⟨h3, e2⟩⟩
theorem know_deep {w : World} (W : World) (p fb : Nat) (h : KEnd w W p fb) : Calls Tryz.prog 51 #[.agg #[.slice none 0 0, .slice (some ⟨fb, 0, none⟩) 3 3]] W fun e w2 => ∃ la lc, e = .returned (.tuple #[.slice la 3 lc, .int .i64 0]) ∧ Hid (Below W.heap.size W w2 ∧ NsAt w2.cell? la [3, 2, 1]) := by
  refine (deep_any kS _ _ W ⟨⟨none, 0, rfl, .inl rfl⟩, ⟨_, 3, rfl, h.2.2.2.1⟩⟩ kS_fits).mono fun e w2 ⟨h1, h2⟩ => ?_
  rw [if_pos kS_ord.1, show ordS kS.funcs.length (gF kS) = some [2, 1, 0] from kS_ord.2, if_neg (by simp)] at h2
  obtain ⟨la, lc, d, e1, e2, e3, _⟩ := h2
  refine ⟨la, lc, e1, hid7 ⟨h1, ?_⟩⟩
  have hd : DeepIs 3 (gF kS) (fun x => 3 - x) := by
    intro x hx
    match x, hx with
    | 0, _ => decide +kernel
    | 1, _ => decide +kernel
    | 2, _ => decide +kernel
  have hu := deep_uniq (graph_inn kS).1 e3 hd
  have : deepL kS d = [3, 2, 1] := by
    show [(d 0 : Int), (d 1 : Int), (d 2 : Int)] = _
    rw [hu 0 (by decide), hu 1 (by decide), hu 2 (by decide)]
    rfl
  rw [← this]
  exact e2
end Go.Proofs.YtpmlnkjamhelnaaGreat
namespace Go.Proofs.YtpmlnkjamhelnaaGreat
open Go.RowKit
theorem know_ints (x y z : Int) (W0 W : World) (la : Option Addr) (lc : Nat) (h : NsAt W0.cell? la [x, y, z]) (hb : Below W0.heap.size W0 W) : Calls Tryz.prog 22 #[.slice la 3 lc, .slice (some ⟨W.heap.size, 0, none⟩) 3 3] (W.alloc (.cells #[.int .i64 x, .int .i64 y, .int .i64 z] 3)) fun e w' => e = .returned (.bool true) ∧ Hid (Below W.heap.size W w') := by
  have b1 := (Below.refl _ W).alloc (Nat.le_refl _) (.cells #[.int .i64 x, .int .i64 y, .int .i64 z] 3)
  have e1 := heap_alloc_new W (.cells #[.int .i64 x, .int .i64 y, .int .i64 z] 3)
  have h2 : NsAt (W.alloc (.cells #[.int .i64 x, .int .i64 y, .int .i64 z] 3)).cell? (some ⟨W.heap.size, 0, none⟩) [x, y, z] := by
    refine .inr ⟨_, 0, rfl, fun j hj => ?_⟩
    rw [Nat.zero_add, Lib.cell_of_heap e1]
    match j, hj with
    | 0, _ => rfl
    | 1, _ => rfl
    | 2, _ => rfl
  have := lints_any la (some ⟨W.heap.size, 0, none⟩) lc 3 3 3 [x, y, z] [x, y, z] rfl rfl _ ((h.keep (below_keep hb)).keep (below_keep b1)) h2 (by omega) (by omega)
  refine this.mono fun e w' ⟨q1, k, q2⟩ => ⟨by rw [q1]; simp, hid7 ?_⟩
  rw [q2]
  exact b1.trans ⟨rfl, rfl, rfl, Nat.le_refl _, fun _ _ => rfl⟩
end Go.Proofs.YtpmlnkjamhelnaaGreat
namespace Go.Proofs.YtpmlnkjamhelnaaGreat
open Go.RowKit
/-- The script in its box, a copy of it in another one. -/
structure Bx2 (s : Scr) (V0 V1 u0 u1 : Value) (X : Nat) (w W : World) : Prop where
  b : Below w.heap.size w W
  sb : W.heap[w.heap.size]? = some (.cells #[V0, V1] 27 (0, 0))
  x : W.heap[X]? = some (.cells #[u0, u1] 27 (0, 0))
  c : ScIs W.cell? s u0 u1
theorem Bx2.below {s : Scr} {V0 V1 u0 u1 : Value} {X : Nat} {w W W' : World} (h : Bx2 s V0 V1 u0 u1 X w W) (hb : Below W.heap.size W W') : Bx2 s V0 V1 u0 u1 X w W' :=
  ⟨h.b.trans (hb.mono h.b.size), (hb.block _ (heap_lt h.sb)).trans h.sb, (hb.block _ (heap_lt h.x)).trans h.x, h.c.keep (below_keep hb)⟩
theorem Bx2.sc {s : Scr} {V0 V1 u0 u1 : Value} {X : Nat} {w W : World} (h : Bx2 s V0 V1 u0 u1 X w W) : W.cell? ⟨w.heap.size, 0, none⟩ = some V0 ∧ W.cell? ⟨w.heap.size, 1, none⟩ = some V1 := by
  refine ⟨?_, ?_⟩ <;> rw [Lib.cell_of_heap h.sb] <;> rfl
theorem Bx2.xc {s : Scr} {V0 V1 u0 u1 : Value} {X : Nat} {w W : World} (h : Bx2 s V0 V1 u0 u1 X w W) : W.cell? ⟨X, 0, none⟩ = some u0 ∧ W.cell? ⟨X, 1, none⟩ = some u1 := by
  refine ⟨?_, ?_⟩ <;> rw [Lib.cell_of_heap h.x] <;> rfl
/-- The copy, and its box. -/
theorem clone_box (s : Scr) (V0 V1 : Value) (w : World) (hs : ScIs w.cell? s V0 V1) (hsf : s.fits) : Calls Tryz.prog 12 #[.agg #[V0, V1]] (w.alloc (.cells #[V0, V1] 27)) fun e w2 => ∃ b0 d0 b1 d1, e = .returned (.agg #[.slice b0 s.consts.length d0, .slice b1 s.funcs.length d1]) ∧ Hid (Bx2 s V0 V1 (.slice b0 s.consts.length d0) (.slice b1 s.funcs.length d1) w2.heap.size w (w2.alloc (.cells #[.slice b0 s.consts.length d0, .slice b1 s.funcs.length d1] 27))) := by
  have b1 := (Below.refl _ w).alloc (Nat.le_refl _) (.cells #[V0, V1] 27)
  refine (rclone_any s V0 V1 _ (hs.keep (below_keep b1)) hsf).mono fun e w2 ⟨u0, u1, h1, h2, h3⟩ => ?_
  obtain ⟨⟨c0, d0, rfl, n0⟩, ⟨c1, d1, rfl, n1⟩⟩ := h2
  have e2 : (w.alloc (.cells #[V0, V1] 27)).heap[w.heap.size]? = some (.cells #[V0, V1] 27 (0, 0)) := heap_alloc_new w _
  have e3 := (h3.block _ (heap_lt e2)).trans e2
  have bA := (Below.refl _ w2).alloc (Nat.le_refl _) (.cells #[.slice c0 s.consts.length d0, .slice c1 s.funcs.length d1] 27)
  have bw := b1.trans (h3.mono b1.size)
  exact ⟨c0, d0, c1, d1, h1, hid7 ⟨bw.trans (bA.mono bw.size), (bA.block _ (heap_lt e3)).trans e3, heap_alloc_new w2 _, ScIs.keep ⟨⟨c0, d0, rfl, n0⟩, ⟨c1, d1, rfl, n1⟩⟩ (below_keep bA)⟩⟩
def grE (s : Scr) : Int := if s.right = true then 0 else 30
def grR (s : Scr) : List (List Int) := if s.right = true then rowsI (graphS s) else []
theorem graph_end {s : Scr} {w w' : World} {e : Ending} (h : GraphEnd s w e w') : ∃ ga gc, e = .returned (.tuple #[.slice ga (grR s).length gc, .int .i64 (grE s)]) ∧ RsAt w'.cell? ga (grR s) ∧ Below w.heap.size w w' := by
  obtain ⟨h1, h2⟩ := h
  by_cases hr : s.right = true
  · rw [if_pos hr] at h1
    obtain ⟨ga, gc, e1, h3⟩ := h1
    exact ⟨ga, gc, by rw [grR, if_pos hr, grE, if_pos hr, graph_len]; exact e1, by rw [grR, if_pos hr]; exact h3, h2⟩
  · rw [if_neg hr] at h1
    exact ⟨none, 0, by rw [grR, if_neg hr, grE, if_neg hr]; exact h1, by rw [grR, if_neg hr]; exact .inl rfl, h2⟩
theorem grR_len (s : Scr) : (grR s).length ≤ 16 ∧ ∀ r ∈ grR s, r.length ≤ 16 := by
  unfold grR
  split
  · rename_i hr
    obtain ⟨r1, _, _⟩ := right_calls hr
    obtain ⟨_, _, i3, _⟩ := graph_inn s
    refine ⟨by rw [graph_len]; exact r1, fun r h => ?_⟩
    obtain ⟨l, hl, rfl⟩ := List.mem_map.1 h
    have := i3 l hl
    simp only [rowI, List.length_map]
    omega
  · simp
theorem reachS_len (s : Scr) (f : Int) : (reachS s f).length ≤ 16 := by
  unfold reachS
  split
  · rename_i h
    obtain ⟨r1, _, _⟩ := right_calls h.1
    exact Nat.le_trans (List.length_filter_le _ _) (by simp; exact r1)
  · simp
end Go.Proofs.YtpmlnkjamhelnaaGreat
namespace Go.Proofs.YtpmlnkjamhelnaaGreat
open Go.RowKit
/-- The least of those from f on that may be told (-1: none). -/
def bestS (n : Nat) (g : Nat → List Nat) (out : List Nat) : Nat → Int
  | 0 => -1
  | k + 1 => if rdy g out (n - (k + 1)) then ((n - (k + 1) : Nat) : Int) else bestS n g out k
theorem best_some {n : Nat} {g : Nat → List Nat} {out : List Nat} : ∀ k ≤ n, bestS n g out k = match ((List.range n).drop (n - k)).find? (rdy g out) with | some f => (f : Int) | none => -1
  | 0, _ => by
    rw [Nat.sub_zero, List.drop_of_length_le (by simp)]
    rfl
  | k + 1, hk => by
    have hlt : n - (k + 1) < (List.range n).length := by simp; omega
    have ih := best_some (n := n) (g := g) (out := out) k (by omega)
    rw [List.drop_eq_getElem_cons hlt, List.find?_cons, List.getElem_range, show n - (k + 1) + 1 = n - k by omega]
    cases h : rdy g out (n - (k + 1)) with
    | true => simp only [bestS, h]; rfl
    | false => simp only [bestS, h]; exact ih
theorem best_pick (n : Nat) (g : Nat → List Nat) (out : List Nat) : bestS n g out n = match pick n g out with | some f => (f : Int) | none => -1 := by
  rw [best_some n (Nat.le_refl _)]
  simp [pick]
theorem ord_none {n : Nat} {g : Nat → List Nat} {k : Nat} (h : ordN n g k = none) : ∀ j, ordN n g (k + j) = none
  | 0 => h
  | j + 1 => by
    show (ordN n g (k + j)).bind _ = none
    rw [ord_none h j]
    rfl
theorem ord_stuck {n : Nat} {g : Nat → List Nat} {out : List Nat} (h : ordN n g out.length = some out) (hl : out.length < n) (hp : pick n g out = none) : ordS n g = none := by
  have h1 : ordN n g (out.length + 1) = none := by simp [ordN, h, hp]
  have := ord_none h1 (n - (out.length + 1))
  rw [show out.length + 1 + (n - (out.length + 1)) = n by omega] at this
  exact this
theorem ord_next {n : Nat} {g : Nat → List Nat} {out : List Nat} {f : Nat} (h : ordN n g out.length = some out) (hp : pick n g out = some f) : ordN n g (out ++ [f]).length = some (out ++ [f]) := by
  rw [List.length_append, List.length_singleton]
  simp [ordN, h, hp]
/-- Ready, as far as the first q callees say. -/
def rdK (g : Nat → List Nat) (out : List Nat) (f q : Nat) : Bool := !out.contains f && ((g f).take q).all out.contains
theorem rdK_succ {g : Nat → List Nat} {out : List Nat} {f q : Nat} (h : q < (g f).length) : rdK g out f (q + 1) = (rdK g out f q && out.contains (g f)[q]) := by
  unfold rdK
  rw [List.take_succ_eq_append_getElem h, List.all_append]
  simp [Bool.and_assoc]
theorem rdK_all (g : Nat → List Nat) (out : List Nat) (f : Nat) : rdK g out f (g f).length = rdy g out f := by
  unfold rdK rdy
  rw [List.take_length]
def OrdEndN (s : Scr) (w : World) (e : Ending) (w' : World) : Prop := OrdEnd s w e w' ∧ FreshE w e
set_option maxRecDepth 100000 in
set_option maxHeartbeats 1000000 in
theorem rorder_new (s : Scr) (V0 V1 : Value) (w : World) (hs : ScIs w.cell? s V0 V1) (hsf : s.fits) (hI64 : ∀ f ∈ s.funcs, ∀ x ∈ f.code, -9223372036854775808 ≤ x.2 ∧ x.2 ≤ 9223372036854775807) : Calls Tryz.prog 26 #[.agg #[V0, V1]] w (OrdEndN s w) := by
  obtain ⟨⟨a0, c0, rfl, n0⟩, ⟨a1, c1, rfl, n1⟩⟩ := hs
  have b1 := (Below.refl _ w).alloc (Nat.le_refl _) (.cells #[.slice a0 s.consts.length c0, .slice a1 s.funcs.length c1] 27)
  have hG := rgraph_any s _ _ (w.alloc (.cells #[.slice a0 s.consts.length c0, .slice a1 s.funcs.length c1] 27)) ⟨⟨a0, c0, rfl, n0.keep (below_keep b1)⟩, ⟨a1, c1, rfl, n1.keep (below_keep b1)⟩⟩ hsf hI64
  by_cases hr : s.right = true
  · obtain ⟨r1, r2, r3⟩ := right_calls hr
    obtain ⟨i1, i2, i3, i4⟩ := graph_inn s
    have HG : Hid (Calls Tryz.prog 29 #[.agg #[.slice a0 s.consts.length c0, .slice a1 s.funcs.length c1]] (w.alloc (.cells #[.slice a0 s.consts.length c0, .slice a1 s.funcs.length c1] 27)) fun e w1 => ∃ ga gc, e = .returned (.tuple #[.slice ga s.funcs.length gc, .int .i64 0]) ∧ Hid (RsAt w1.cell? ga (rowsI (graphS s)) ∧ Below w.heap.size w w1)) := hid7 (hG.mono fun e w1 ⟨h1, h2⟩ => by
      rw [if_pos hr] at h1
      obtain ⟨ga, gc, e1, h3⟩ := h1
      exact ⟨ga, gc, e1, hid7 ⟨h3, b1.trans (h2.mono b1.size)⟩⟩)
    have HI := hid7 (And.intro i1 (And.intro i3 i4))
    have HE1 : Hid (∀ W o, ordS s.funcs.length (gF s) = some o → ∀ a c, NsAt W.cell? a (rowI o) → Below w.heap.size w W → FreshE w (.returned (.tuple #[.slice a o.length c, .int .i64 0])) → OrdEndN s w (.returned (.tuple #[.slice a o.length c, .int .i64 0])) W) := hid7 fun W o ho a c h1 h2 h3 => by
      refine ⟨⟨h2, ?_⟩, h3⟩
      rw [if_pos hr, ho]
      exact ⟨a, c, rfl, h1⟩
    have HE2 : Hid (∀ W, ordS s.funcs.length (gF s) = none → Below w.heap.size w W → OrdEndN s w (.returned (.tuple #[.slice none 0 0, .int .i64 34])) W) := hid7 fun W ho h2 => by
      refine ⟨⟨h2, ?_⟩, fresh_nil _ _ _ _⟩
      rw [if_pos hr, ho]
    obtain ⟨G, hGe⟩ : ∃ G, G = graphS s := ⟨_, rfl⟩
    obtain ⟨n, hfe⟩ : ∃ fl, fl = s.funcs.length := ⟨_, rfl⟩
    unfold gF at HI HE1 HE2
    rw [← hfe, ← hGe] at HG HI HE1 HE2
    rw [← hfe] at r1 r2 ⊢
    have HMk : Hid (∀ W : World, ∃ W2, (Instr.makeSlice 98 (.int .i64 (n : Int)) (.int .i64 (n : Int))).run Tryz.prog W = .ok (.slice (some ⟨W.heap.size, 0, none⟩) n n) W2 ∧ Hid (Fill W2 W.heap.size 4 n (fun _ => .bool false) ∧ Below W.heap.size W W2)) := hid7 fun W => by
      obtain ⟨W2, h1, h2, h3⟩ := made8 W 98 4 (.bool false) 1 n Tryz.underlying98 (by kernel_rfl) rfl (by omega) (by omega)
      exact ⟨W2, h1, hid7 ⟨h2, h3⟩⟩
    generalize s.consts.length = cl at HG ⊢
    clear hG hr r3 i1 i2 i3 i4 n0 n1 hsf hfe b1 hI64 hGe
    go_enter Tryz.func26, Tryz.ntmps26
    go_wp2_with (first
      | (go_at_call 29; refine HG.out.mono ?_; clear HG; rintro e w1 ⟨ga, gc, rfl, K1⟩; obtain ⟨w2, hm2, K2⟩ := HMk.out w1; clear HMk)
      | fail)
    have hGl := HI.out.2.2
    have HRow : Hid (∀ W, Below w1.heap.size w1 W → ∀ i < n, ∃ gb go aj cj, ga = some ⟨gb, go, none⟩ ∧ W.cell? ⟨gb, go + i, none⟩ = some (.slice aj (gOf G i).length cj) ∧ NsAt (lowC w1.heap.size W) aj (rowI (gOf G i)) ∧ (gOf G i).length ≤ 16) := hid7 fun W hW i hi => by
      obtain ⟨gb, go, aj, cj, h1, h2, h3, h4⟩ := row_at (K1.out.1.low hW) (f := i) (by omega)
      refine ⟨gb, go, aj, cj, h1, h3, h4, ?_⟩
      have : (gOf G i) ∈ G := by
        unfold gOf
        rw [List.getD_eq_getElem?_getD, List.getElem?_eq_getElem (by omega)]
        exact List.getElem_mem _
      have := HI.out.2.1 _ this
      omega
    have HIn : Hid (Inn n (gOf G)) := hid7 HI.out.1
    have B1 := hid7 K1.out.2
    clear hm2 HI hGl
    obtain ⟨g, hg⟩ : ∃ g, g = gOf G := ⟨_, rfl⟩
    rw [← hg] at HE1 HE2 HRow HIn
    clear hg K1
    have s2 := K2.out.2.size
    go_loopw [7] (fun ov wr => ∃ out : List Nat, Hid (wr.ownsRow w2.heap.size 3 1 ov out.length (cellsN (rowI out)) ∧ Fill wr w1.heap.size 4 n (boolV fun x => out.contains x) ∧ Below w1.heap.size w1 wr ∧ w2.heap.size ≤ wr.heap.size ∧ ordN n g out.length = some out ∧ out.length ≤ n)) (fun ov _ => n - slen ov)
    case atStart => exact ⟨[], hid7 ⟨World.ownsRow_nil _ _ _ _, K2.out.1.congr fun j _ => by simp [boolV], K2.out.2, Nat.le_refl _, rfl, Nat.zero_le _⟩⟩
    case round =>
      obtain ⟨out, HL⟩ := hrel
      obtain ⟨wo, rfl⟩ : ∃ wo, wo = wr := ⟨_, rfl⟩
      obtain ⟨oa, oc, eov, hoc, _⟩ := row_form HL.out.1
      subst eov
      have hol := HL.out.2.2.2.2.2
      have Bw := hid7 (B1.out.trans (HL.out.2.2.1.mono B1.out.size))
      by_cases hlt : out.length < n
      · have HRw : Hid (∀ i < n, ∃ gb go aj cj, ga = some ⟨gb, go, none⟩ ∧ wo.cell? ⟨gb, go + i, none⟩ = some (.slice aj (g i).length cj) ∧ NsAt (lowC w1.heap.size wo) aj (rowI (g i)) ∧ (g i).length ≤ 16) := hid7 (HRow.out wo HL.out.2.2.1)
        have HFl : Hid (∀ i < n, wo.cell? ⟨w1.heap.size, i, none⟩ = some (.bool (out.contains i))) := hid7 fun i hi => HL.out.2.1.cell hi
        obtain ⟨ol, hole⟩ : ∃ ol, ol = out.length := ⟨_, rfl⟩
        have HOL := hid7 hole
        rw [← hole] at hlt hol hoc ⊢
        clear hole HE1
        go_wp2_with fail
        go_loopw [8, 9] (fun bv fv wr => ∃ (j : Nat) (x y : Int), bv = .int .i64 y ∧ fv = .int .i64 x ∧ j ≤ n ∧ x = (j : Int) - 1 ∧ Hid (y = bestS n g out (n - j)) ∧ wo = wr) (fun _ fv _ => ((intOf fv) + 1).toNat)
        case atStart => exact ⟨n, (n : Int) - 1, -1, rfl, by go_num, Nat.le_refl _, rfl, hid7 (by rw [Nat.sub_self]; rfl), rfl⟩
        case round =>
          obtain ⟨j, x, y, rfl, rfl, hj, hx, Hy, rfl⟩ := hrel
          cases j with
          | zero =>
            obtain rfl : x = -1 := by omega
            have hp := best_pick n g out
            have hy := Hy.out
            rw [Nat.sub_zero, hp] at hy
            have hlt2 : out.length < n := by rw [← HOL.out]; exact hlt
            have f2 := HL.out.2.2.1.size
            cases hpk : pick n g out with
            | none =>
              rw [hpk] at hy
              have hy' : y = -1 := hy
              subst hy'
              have HE := hid7 (HE2.out wo (ord_stuck HL.out.2.2.2.2.1 hlt2 hpk) Bw.out)
              clear hx HRow HIn HRw HFl HL Hy hp hy hpk HE2
              go_wp2_with fail
              go_ret2
              exact HE.out
            | some f0 =>
              rw [hpk] at hy
              have hy' : y = (f0 : Int) := hy
              subst hy'
              obtain ⟨hf0, hrd0⟩ := pick_some hpk
              have g1 := HFl.out f0 hf0
              have g2 := HL.out.2.1.frozen f0
              have hord := ord_next HL.out.2.2.2.2.1 hpk
              have HW : Hid (∀ W, W = wo.setCell ⟨w1.heap.size, f0, none⟩ (.bool true) → W.ownsRow w2.heap.size 3 1 (.slice oa ol oc) ol (cellsN (rowI out)) ∧ Fill W w1.heap.size 4 n (boolV fun x => (out ++ [f0]).contains x) ∧ Below w1.heap.size w1 W ∧ w2.heap.size ≤ W.heap.size) := hid7 fun W hW => by
                subst hW
                refine ⟨?_, (HL.out.2.1.set f0 _).congr fun j _ => ?_, HL.out.2.2.1.setCell (p := ⟨w1.heap.size, f0, none⟩) (Nat.le_refl _) _, by simp [World.setCell]; exact HL.out.2.2.2.1⟩
                · have := HL.out.1
                  rw [← HOL.out] at this
                  have hw12 := K2.out.1.lt
                  exact row_blk this fun g hb _ _ => Below.heap_setCell _ _ _ _ (by show g ≠ w1.heap.size; omega)
                · simp only [boolV]
                  by_cases e : j = f0
                  · rw [if_pos e, e]; simp
                  · rw [if_neg e]; simp [e]
              obtain ⟨W, hW⟩ : ∃ W, W = wo.setCell ⟨w1.heap.size, f0, none⟩ (.bool true) := ⟨_, rfl⟩
              obtain ⟨R5, F5, B5, z5⟩ := HW.out W hW
              have R6 : Hid ((W.alloc (.cells #[.int .i64 (f0 : Int)] 3)).ownsRow w2.heap.size 3 1 (.slice oa ol oc) ol (cellsN (rowI out))) := hid7 (R5.alloc _)
              have bA : Below W.heap.size W (W.alloc (.cells #[.int .i64 (f0 : Int)] 3)) := (Below.refl _ _).alloc (Nat.le_refl _) _
              have K5 := hid7 (And.intro F5 (And.intro B5 (And.intro z5 (And.intro hord bA))))
              rw [hW] at R6
              clear hx HRow HIn HRw HFl HL Hy hp hy hpk HE2 HW R5 F5 B5 hord bA hrd0
              have z6 : w2.heap.size ≤ wo.heap.size := by rw [hW] at z5; simpa [World.setCell] using z5
              go_wp2_with (first
                | (at_builtin; refine wpList_appN _ rfl _ _ 28 rfl elemN_int w2.heap.size _ ol (cellsN (rowI out)) rfl R6.out _ rfl 1 [.int .i64 (f0 : Int)] (.inr ⟨⟨_, 0, none⟩, 1, rfl, cells_new8 _ [.int .i64 (f0 : Int)] 3 _ (by simp [World.setCell])⟩) rfl (by simp [Value.oneCell']) (by unfold maxLen; omega) (by omega) (by simp [World.setCell]; omega) ?_; intro v' w6 hr6 hs6)
                | fail)
              obtain ⟨va6, vc6, e6, _, _⟩ := row_form hr6
              subst e6
              obtain ⟨F5, B5, z5', hord, bA⟩ := K5.out
              have hs7 : Step (W.alloc (.cells #[.int .i64 (f0 : Int)] 3)) (.slice oa ol oc) w6 (.slice va6 (ol + 1) vc6) := by rw [hW]; exact hs6
              rw [← hW] at R6
              have b6 := hs7.below (B := w2.heap.size) (by simp; omega) (fun g e => (R6.out.lt g e).1)
              have b7 : Below w2.heap.size W w6 := (bA.mono z5).trans b6
              have hw12 := K2.out.1.lt
              refine ⟨⟨out ++ [f0], hid7 ⟨?_, F5.keep (b7.block _ hw12), B5.trans (b7.mono (by omega)), Nat.le_trans z5 b7.size, hord, by rw [List.length_append, List.length_singleton]; omega⟩⟩, by simp only [slen]; show n - (ol + 1) < n - ol; omega⟩
              rw [List.length_append, List.length_singleton, ← HOL.out, show cellsN (rowI (out ++ [f0])) = cellsN (rowI out) ++ [.int .i64 (f0 : Int)] by simp [cellsN, rowI]]
              exact hr6
          | succ j =>
            obtain rfl : x = (j : Int) := by omega
            clear hx
            obtain ⟨gb, go, aj, cj, ega, hrow, hns, hlen⟩ := HRw.out j (by omega)
            subst ega
            have hfj := HFl.out j (by omega)
            have HB1 : Hid (bestS n g out (n - j) = if rdy g out j = true then (j : Int) else y) := hid7 (by
              have := Hy.out
              rw [show n - j = (n - (j + 1)) + 1 by omega, bestS, show n - (n - (j + 1) + 1) = j by omega, ← this])
            have HNs := hid7 hns
            obtain ⟨gl, hgl⟩ : ∃ gl, gl = (g j).length := ⟨_, rfl⟩
            have HGL := hid7 hgl
            rw [← hgl] at hrow hlen
            have HR0 : Hid (out.contains j = !rdK g out j 0) := hid7 (by simp [rdK])
            rw [HR0.out] at hfj
            clear hns hgl Hy HR0
            go_wp2_with fail
            go_loopw [10, 11] (fun rv qv wr => ∃ (q : Nat), qv = .int .i64 q ∧ q ≤ gl ∧ rv = .bool (rdK g out j q) ∧ wo = wr) (fun _ qv _ => gl - (intOf qv).toNat)
            case atStart => exact ⟨0, rfl, Nat.zero_le _, by simp, rfl⟩
            case round =>
              obtain ⟨q, rfl, hq, rfl, rfl⟩ := hrel
              by_cases hql : q < gl
              · have hql2 : q < (g j).length := by rw [← HGL.out]; exact hql
                obtain ⟨bj, oj, eaj, _, hc⟩ := row_cell HNs.out hql2
                have hcn : (g j)[q] < n := HIn.out j (by omega) _ (List.getElem_mem hql2)
                have hcc := HFl.out _ hcn
                have HS := hid7 (rdK_succ (out := out) hql2)
                subst eaj
                generalize (g j)[q] = c at *
                generalize out.contains c = oc' at *
                clear HNs HRw HFl HRow HIn HB1 HGL
                cases hrq : rdK g out j q with
                | true =>
                  rw [hrq] at HS
                  go_wp2_with fail
                  exact ⟨⟨q + 1, by go_num, by omega, by rw [HS.out]; simp, trivial⟩, by simp [intOf]; omega⟩
                | false =>
                  rw [hrq] at HS
                  go_wp2_with fail
                  exact ⟨⟨q + 1, by go_num, by omega, by rw [HS.out]; simp, trivial⟩, by simp [intOf]; omega⟩
              · obtain rfl : q = gl := by omega
                have HRd : Hid (rdK g out j q = rdy g out j) := hid7 (by rw [HGL.out]; exact rdK_all g out j)
                rw [HRd.out]
                clear HNs HRw HFl HRow HIn HGL HRd
                cases hrd : rdy g out j with
                | true =>
                  rw [hrd] at HB1
                  go_wp2_with fail
                  exact ⟨⟨j, (j : Int) - 1, (j : Int), rfl, by go_num, by omega, rfl, hid7 (by rw [HB1.out]; simp), trivial⟩, by simp [intOf]⟩
                | false =>
                  rw [hrd] at HB1
                  go_wp2_with fail
                  exact ⟨⟨j, (j : Int) - 1, y, rfl, by go_num, by omega, rfl, hid7 (by rw [HB1.out]; simp), trivial⟩, by simp [intOf]⟩
      · have hln : out.length = n := by omega
        have HE := hid7 (HE1.out wo out (by have := HL.out.2.2.2.2.1; rw [hln] at this; exact this) oa oc (nst_own HL.out.1).ns Bw.out (fresh_row HL.out.1 (Nat.le_trans B1.out.size s2)))
        generalize out.length = ol at *
        subst hln
        clear HE1 HE2 HRow HIn HL
        go_wp2_with fail
        go_ret2
        exact HE.out
  · have HG : Hid (Calls Tryz.prog 29 #[.agg #[.slice a0 s.consts.length c0, .slice a1 s.funcs.length c1]] (w.alloc (.cells #[.slice a0 s.consts.length c0, .slice a1 s.funcs.length c1] 27)) fun e w1 => e = .returned (.tuple #[.slice none 0 0, .int .i64 30]) ∧ Hid (OrdEndN s w (.returned (.tuple #[.slice none 0 0, .int .i64 30])) w1)) := hid7 (hG.mono fun e w1 ⟨h1, h2⟩ => by
      rw [if_neg hr] at h1
      refine ⟨h1, hid7 ⟨⟨b1.trans (h2.mono b1.size), ?_⟩, fresh_nil _ _ _ _⟩⟩
      rw [if_neg hr])
    generalize s.consts.length = cl at HG ⊢
    generalize s.funcs.length = fl at HG ⊢
    clear hG hr n0 n1 hsf b1 hI64
    go_enter Tryz.func26, Tryz.ntmps26
    go_wp2_with (first | (go_at_call 29; refine HG.out.mono ?_; clear HG; rintro e w1 ⟨rfl, K1⟩) | fail)
    go_ret2
    exact K1.out
theorem rorder_any (s : Scr) (V0 V1 : Value) (w : World) (hs : ScIs w.cell? s V0 V1) (hsf : s.fits) (hI64 : ∀ f ∈ s.funcs, ∀ x ∈ f.code, -9223372036854775808 ≤ x.2 ∧ x.2 ≤ 9223372036854775807) : Calls Tryz.prog 26 #[.agg #[V0, V1]] w (OrdEnd s w) := (rorder_new s V0 V1 w hs hsf hI64).mono fun _ _ h => h.1
end Go.Proofs.YtpmlnkjamhelnaaGreat
namespace Go.Proofs.YtpmlnkjamhelnaaGreat
open Go.RowKit
/-- As far as the first i of the order: how deep they are. -/
def DpI (g : Nat → List Nat) (o : List Nat) (i : Nat) (d : Nat → Nat) : Prop := (∀ x ∈ o.take i, d x = mx (fun c => some (d c)) (g x) + 1) ∧ ∀ x, d x ≤ i
theorem dpI_zero (g : Nat → List Nat) (o : List Nat) : DpI g o 0 (fun _ => 0) := ⟨by simp, fun _ => Nat.le_refl _⟩
def dput (d : Nat → Nat) (f v : Nat) : Nat → Nat := fun x => if x = f then v else d x
theorem mxK_le {d : Nat → Nat} {i : Nat} (h : ∀ x, d x ≤ i) (l : List Nat) : mx (fun c => some (d c)) l ≤ i := mx_le l 0 (Nat.zero_le _) fun c _ => h c
theorem dpI_step {n : Nat} {g : Nat → List Nat} {o : List Nat} {i : Nat} {d : Nat → Nat} (ht : Told n g o) (hi : i < o.length) (h : DpI g o i d) : DpI g o (i + 1) (dput d o[i] (mx (fun c => some (d c)) (g o[i]) + 1)) := by
  obtain ⟨t1, t2, t3⟩ := ht i hi
  have ne : ∀ c, c ∈ o.take i → dput d o[i] (mx (fun c => some (d c)) (g o[i]) + 1) c = d c := fun c hc => by
    unfold dput
    rw [if_neg (fun e => t2 (by rw [← e]; exact hc))]
  refine ⟨fun x hx => ?_, fun x => ?_⟩
  · rw [List.take_succ_eq_append_getElem hi] at hx
    rcases List.mem_append.1 hx with e | e
    · rw [ne x e, h.1 x e]
      congr 1
      obtain ⟨j, hj, ej⟩ := List.mem_take_iff_getElem.1 e
      have hcj := (ht j (by omega)).2.2
      refine mx_congr fun c hc => ?_
      rw [ne c]
      have := hcj c (by rw [ej]; exact hc)
      exact (List.take_sublist_take_left (by omega)).subset this
    · obtain rfl := List.mem_singleton.1 e
      have e2 : dput d o[i] (mx (fun c => some (d c)) (g o[i]) + 1) o[i] = mx (fun c => some (d c)) (g o[i]) + 1 := by simp [dput]
      rw [e2]
      congr 1
      exact mx_congr fun c hc => by rw [ne c (t3 c hc)]
  · unfold dput
    have := mxK_le h.2 (g o[i])
    have := h.2 x
    split <;> omega
theorem dpI_end {n : Nat} {g : Nat → List Nat} {o : List Nat} {d : Nat → Nat} (ht : Told n g o) (hl : o.length = n) (h : DpI g o n d) : DeepIs n g d := fun x hx => h.1 x (by rw [← hl, List.take_length]; exact told_all ht hl hx)
def DeepEndN (s : Scr) (w : World) (e : Ending) (w' : World) : Prop := DeepEnd s w e w' ∧ FreshE w e
set_option maxRecDepth 100000 in
set_option maxHeartbeats 1000000 in
theorem rdeep_new (s : Scr) (V0 V1 : Value) (w : World) (hs : ScIs w.cell? s V0 V1) (hsf : s.fits) (hI64 : ∀ f ∈ s.funcs, ∀ x ∈ f.code, -9223372036854775808 ≤ x.2 ∧ x.2 ≤ 9223372036854775807) : Calls Tryz.prog 28 #[.agg #[V0, V1]] w (DeepEndN s w) := by
  obtain ⟨⟨a0, c0, rfl, n0⟩, ⟨a1, c1, rfl, n1⟩⟩ := hs
  have hs : ScIs w.cell? s (.slice a0 s.consts.length c0) (.slice a1 s.funcs.length c1) := ⟨⟨a0, c0, rfl, n0⟩, ⟨a1, c1, rfl, n1⟩⟩
  have b1 := (Below.refl _ w).alloc (Nat.le_refl _) (.cells #[.slice a0 s.consts.length c0, .slice a1 s.funcs.length c1] 27)
  have e0 := heap_alloc_new w (.cells #[.slice a0 s.consts.length c0, .slice a1 s.funcs.length c1] 27)
  have hG := rorder_any s _ _ (w.alloc (.cells #[.slice a0 s.consts.length c0, .slice a1 s.funcs.length c1] 27)) (hs.keep (below_keep b1)) hsf hI64
  by_cases hx : s.right = true ∧ ∃ o, ordS s.funcs.length (gF s) = some o
  · obtain ⟨hr, o, ho⟩ := hx
    obtain ⟨r1, r2, r3⟩ := right_calls hr
    obtain ⟨i1, i2, i3, i4⟩ := graph_inn s
    have hot := ord_told ho
    have HG : Hid (Calls Tryz.prog 26 #[.agg #[.slice a0 s.consts.length c0, .slice a1 s.funcs.length c1]] (w.alloc (.cells #[.slice a0 s.consts.length c0, .slice a1 s.funcs.length c1] 27)) fun e w1 => ∃ la lc, e = .returned (.tuple #[.slice la s.funcs.length lc, .int .i64 0]) ∧ w1.cell? ⟨w.heap.size, 0, none⟩ = some (.slice a0 s.consts.length c0) ∧ w1.cell? ⟨w.heap.size, 1, none⟩ = some (.slice a1 s.funcs.length c1) ∧ Hid (NsAt w1.cell? la (rowI o) ∧ Below w.heap.size w w1) ∧ Hid (Calls Tryz.prog 29 #[.agg #[.slice a0 s.consts.length c0, .slice a1 s.funcs.length c1]] w1 fun e w2 => ∃ ga gc, e = .returned (.tuple #[.slice ga s.funcs.length gc, .int .i64 0]) ∧ Hid (RsAt w2.cell? ga (rowsI (graphS s)) ∧ Below w1.heap.size w1 w2))) := hid7 (hG.mono fun e w1 ⟨h1, h2⟩ => by
      rw [if_pos hr, ho] at h2
      obtain ⟨la, lc, e1, h3⟩ := h2
      have bw := b1.trans (h1.mono b1.size)
      have e3 := (h1.block _ (heap_lt e0)).trans e0
      refine ⟨la, lc, by rw [e1, hot.1], Lib.cell_of_heap e3 0, Lib.cell_of_heap e3 1, hid7 ⟨h3, bw⟩, hid7 ((rgraph_any s _ _ w1 (hs.keep (below_keep bw)) hsf hI64).mono fun e w2 ⟨h4, h5⟩ => ?_)⟩
      rw [if_pos hr] at h4
      obtain ⟨ga, gc, e4, h6⟩ := h4
      exact ⟨ga, gc, e4, hid7 ⟨h6, h5⟩⟩)
    have HEnd : Hid (∀ W lb (d : Nat → Nat), Below w.heap.size w W → DeepIs s.funcs.length (gF s) d → (∀ x < s.funcs.length, d x ≤ 1000) → Fill W lb 3 s.funcs.length (fun j => .int .i64 (d j : Nat)) → w.heap.size ≤ lb → DeepEndN s w (.returned (.tuple #[.slice (some ⟨lb, 0, none⟩) s.funcs.length s.funcs.length, .int .i64 0])) W) := hid7 fun W lb d h1 h2 h3 h4 h5 => by
      refine ⟨⟨h1, ?_⟩, fresh_at h5⟩
      rw [if_pos hr, if_neg (by rw [ho]; simp)]
      refine ⟨_, _, d, rfl, .inr ⟨lb, 0, rfl, fun j hj => ?_⟩, h2, h3⟩
      have hj2 : j < s.funcs.length := by simpa [deepL] using hj
      rw [Nat.zero_add, h4.cell hj2]
      simp [deepL]
    have HI := hid7 (And.intro hot (And.intro i1 (And.intro i3 i4)))
    obtain ⟨G, hGe⟩ : ∃ G, G = graphS s := ⟨_, rfl⟩
    obtain ⟨n, hfe⟩ : ∃ fl, fl = s.funcs.length := ⟨_, rfl⟩
    unfold gF at HI HEnd
    rw [← hfe, ← hGe] at HG HI HEnd
    rw [← hfe] at r1 ⊢
    have HMk : Hid (∀ W : World, ∃ W2, (Instr.makeSlice 28 (.int .i64 (n : Int)) (.int .i64 (n : Int))).run Tryz.prog W = .ok (.slice (some ⟨W.heap.size, 0, none⟩) n n) W2 ∧ Hid (Fill W2 W.heap.size 3 n (fun _ => .int .i64 0) ∧ Below W.heap.size W W2)) := hid7 fun W => by
      obtain ⟨W2, h1, h2, h3⟩ := made8 W 28 3 (.int .i64 0) 8 n Tryz.underlying28 (by kernel_rfl) rfl (by omega) (by omega)
      exact ⟨W2, h1, hid7 ⟨h2, h3⟩⟩
    generalize s.consts.length = cl at HG ⊢
    clear hG hr r2 r3 i1 i2 i3 i4 n0 n1 hsf hfe b1 hI64 hGe hs e0 ho hot
    go_enter Tryz.func28, Tryz.ntmps28
    go_wp2_with (first
      | (go_at_call 26; refine HG.out.mono ?_; clear HG; rintro e w1 ⟨la, lc, rfl, d0, d1, K1, H1⟩)
      | (go_at_call 29; refine H1.out.mono ?_; clear H1; rintro e w2 ⟨ga, gc, rfl, K2⟩; obtain ⟨w3, hm3, K3⟩ := HMk.out w2; clear HMk)
      | fail)
    have hGl := HI.out.2.2.2
    have HRow : Hid (∀ W, Below w2.heap.size w2 W → ∀ i < n, ∃ gb go aj cj, ga = some ⟨gb, go, none⟩ ∧ W.cell? ⟨gb, go + i, none⟩ = some (.slice aj (gOf G i).length cj) ∧ NsAt (lowC w2.heap.size W) aj (rowI (gOf G i)) ∧ (gOf G i).length ≤ 16) := hid7 fun W hW i hi => by
      obtain ⟨gb, go, aj, cj, h1, h2, h3, h4⟩ := row_at (K2.out.1.low hW) (f := i) (by omega)
      refine ⟨gb, go, aj, cj, h1, h3, h4, ?_⟩
      have : (gOf G i) ∈ G := by
        unfold gOf
        rw [List.getD_eq_getElem?_getD, List.getElem?_eq_getElem (by omega)]
        exact List.getElem_mem _
      have := HI.out.2.2.1 _ this
      omega
    have HO : Hid (∀ W, Below w2.heap.size w2 W → NsAt (lowC w2.heap.size W) la (rowI o)) := hid7 fun W hW => K1.out.1.keep fun x v hx => by
      have h1 := K2.out.2.cell (World.block_lt_of_cell? w1 x hx)
      have h2 := h1.trans hx
      exact lowC_mk (World.block_lt_of_cell? w2 x h2) ((hW.cell (World.block_lt_of_cell? w2 x h2)).trans h2)
    have HIn : Hid (Inn n (gOf G) ∧ o.length = n ∧ Told n (gOf G) o) := hid7 ⟨HI.out.2.1, HI.out.1⟩
    have B2 := hid7 (K1.out.2.trans (K2.out.2.mono K1.out.2.size))
    clear hm3 HI hGl
    obtain ⟨g, hg⟩ : ∃ g, g = gOf G := ⟨_, rfl⟩
    rw [← hg] at HEnd HRow HIn
    clear hg K1 K2
    go_loopw [9] (fun iv wr => ∃ (i : Nat) (d : Nat → Nat), iv = .int .i64 i ∧ i ≤ n ∧ Hid (Fill wr w2.heap.size 3 n (fun j => .int .i64 (d j : Nat)) ∧ DpI g o i d ∧ Below w2.heap.size w2 wr)) (fun iv _ => n - (intOf iv).toNat)
    case atStart => exact ⟨0, fun _ => 0, rfl, Nat.zero_le _, hid7 ⟨K3.out.1, dpI_zero g o, K3.out.2⟩⟩
    case round =>
      obtain ⟨i, d, rfl, hi, HL⟩ := hrel
      obtain ⟨wo, rfl⟩ : ∃ wo, wo = wr := ⟨_, rfl⟩
      clear K3
      by_cases hin : i < n
      · have hio : i < o.length := by rw [HIn.out.2.1]; exact hin
        obtain ⟨ob, oo, eoa, _, hof⟩ := row_cell (HO.out wo HL.out.2.2) hio
        have hfn := (HIn.out.2.2 i hio).1
        obtain ⟨gb, go, aj, cj, ega, hrow, hns, hlen⟩ := HRow.out wo HL.out.2.2 o[i] hfn
        have hD := dpI_step HIn.out.2.2 hio HL.out.2.1
        subst eoa ega
        have HNs := hid7 hns
        have HFl : Hid (∀ c < n, wo.cell? ⟨w2.heap.size, c, none⟩ = some (.int .i64 (d c : Nat))) := hid7 fun c hc => HL.out.1.cell hc
        have hfz := HL.out.1.frozen o[i]
        have hfo := HL.out.1.cell hfn
        have HCn : Hid (∀ c ∈ g o[i], c < n) := hid7 fun c hc => HIn.out.1 _ hfn c hc
        have HDb : Hid (∀ l, mx (fun c => some (d c)) l ≤ 16) := hid7 fun l => by have := mxK_le HL.out.2.1.2 l; omega
        have HDd : Hid (∀ x, d x ≤ 16) := hid7 fun x => by have := HL.out.2.1.2 x; omega
        generalize o[i] = f at *
        obtain ⟨gl, hgl⟩ : ∃ gl, gl = (g f).length := ⟨_, rfl⟩
        have HGL := hid7 hgl
        rw [← hgl] at hrow hlen
        have HDs := hid7 hD
        clear hns hgl hD HO HRow HIn HEnd hio
        go_wp2_with fail
        go_loopw [10, 11] (fun nv qv wr => ∃ (q nn : Nat), nv = .int .i64 nn ∧ qv = .int .i64 q ∧ q ≤ gl ∧ nn ≤ 16 ∧ Hid (nn = mx (fun c => some (d c)) ((g f).take q)) ∧ wo = wr) (fun _ qv _ => gl - (intOf qv).toNat)
        case atStart => exact ⟨0, 0, rfl, rfl, Nat.zero_le _, by omega, hid7 rfl, rfl⟩
        case round =>
          obtain ⟨q, nn, rfl, rfl, hq, hnn, Hn, rfl⟩ := hrel
          by_cases hql : q < gl
          · have hql2 : q < (g f).length := by rw [← HGL.out]; exact hql
            obtain ⟨bj, oj, eaj, _, hc⟩ := row_cell HNs.out hql2
            have hcn : (g f)[q] < n := HCn.out _ (List.getElem_mem hql2)
            have hcc := HFl.out _ hcn
            have HS : Hid (max nn (d (g f)[q]) = mx (fun c => some (d c)) ((g f).take (q + 1))) := hid7 (by rw [List.take_succ_eq_append_getElem hql2, mx_snoc, ← Hn.out]; rfl)
            have hdc := HDd.out (g f)[q]
            subst eaj
            generalize (g f)[q] = c at *
            generalize d c = dc at *
            clear HNs HFl HCn HDb HDd HGL Hn HDs HL
            go_wp2_with fail
            exact ⟨⟨q + 1, max nn dc, by congr 1; omega, by go_num, by omega, by omega, HS, trivial⟩, by simp [intOf]; omega⟩
          · obtain rfl : q = gl := by omega
            have L5 : Hid (Fill (wo.setCell ⟨w2.heap.size, f, none⟩ (.int .i64 ((nn : Int) + 1))) w2.heap.size 3 n (fun j => .int .i64 (dput d f (mx (fun c => some (d c)) (g f) + 1) j : Nat)) ∧ DpI g o (i + 1) (dput d f (mx (fun c => some (d c)) (g f) + 1)) ∧ Below w2.heap.size w2 (wo.setCell ⟨w2.heap.size, f, none⟩ (.int .i64 ((nn : Int) + 1)))) := hid7 ⟨(HL.out.1.set f _).congr fun j _ => by
              have hn2 := Hn.out
              rw [HGL.out, List.take_length] at hn2
              rw [← hn2]
              unfold dput
              by_cases e : j = f
              · rw [if_pos e, if_pos e]; rfl
              · rw [if_neg e, if_neg e], HDs.out, HL.out.2.2.setCell (p := ⟨w2.heap.size, f, none⟩) (Nat.le_refl _) _⟩
            generalize d f = df at hfo
            clear HNs HFl HCn HDb HDd HGL Hn HDs HL
            go_wp2_with fail
            exact ⟨⟨i + 1, _, by go_num, by omega, L5⟩, by simp [intOf]; omega⟩
      · obtain rfl : i = n := by omega
        have HE := hid7 (HEnd.out wo w2.heap.size d (B2.out.trans (HL.out.2.2.mono B2.out.size)) (dpI_end HIn.out.2.2 HIn.out.2.1 HL.out.2.1) (fun x _ => by have := HL.out.2.1.2 x; omega) HL.out.1 B2.out.size)
        clear HL HRow HO HIn HEnd
        go_wp2_with fail
        go_ret2
        exact HE.out
  · have HG : Hid (Calls Tryz.prog 26 #[.agg #[.slice a0 s.consts.length c0, .slice a1 s.funcs.length c1]] (w.alloc (.cells #[.slice a0 s.consts.length c0, .slice a1 s.funcs.length c1] 27)) fun e w1 => ∃ c : Int, (c != 0) = true ∧ e = .returned (.tuple #[.slice none 0 0, .int .i64 c]) ∧ Hid (DeepEndN s w (.returned (.tuple #[.slice none 0 0, .int .i64 c])) w1)) := hid7 (hG.mono fun e w1 ⟨h1, h2⟩ => by
      have bb := b1.trans (h1.mono b1.size)
      by_cases hr : s.right = true
      · rw [if_pos hr] at h2
        have ho : ordS s.funcs.length (gF s) = none := by
          cases e : ordS s.funcs.length (gF s) with
          | none => rfl
          | some o => exact absurd ⟨hr, o, e⟩ hx
        rw [ho] at h2
        exact ⟨34, by decide, h2, hid7 ⟨⟨bb, by rw [if_pos hr, if_pos (by rw [ho]; rfl)]⟩, fresh_nil _ _ _ _⟩⟩
      · rw [if_neg hr] at h2
        exact ⟨30, by decide, h2, hid7 ⟨⟨bb, by rw [if_neg hr]⟩, fresh_nil _ _ _ _⟩⟩)
    clear hG hx n0 n1 hsf b1 hs e0 hI64
    generalize s.consts.length = cl at HG ⊢
    generalize s.funcs.length = fl at HG ⊢
    go_enter Tryz.func28, Tryz.ntmps28
    go_wp2_with (first
      | (go_at_call 26; refine HG.out.mono ?_; clear HG; rintro e w1 ⟨c, hc, rfl, K1⟩)
      | fail)
    go_ret2
    exact K1.out
theorem rdeep_any (s : Scr) (V0 V1 : Value) (w : World) (hs : ScIs w.cell? s V0 V1) (hsf : s.fits) (hI64 : ∀ f ∈ s.funcs, ∀ x ∈ f.code, -9223372036854775808 ≤ x.2 ∧ x.2 ≤ 9223372036854775807) : Calls Tryz.prog 28 #[.agg #[V0, V1]] w (DeepEnd s w) := (rdeep_new s V0 V1 w hs hsf hI64).mono fun _ _ h => h.1
end Go.Proofs.YtpmlnkjamhelnaaGreat
