/- shape.pair. -/
import Derived.Test.YtnlcokcpcfbdaaaSE
namespace Go.Proofs.Ytnlcokcpcfbdaaa
open Go.RowKit
/-- A row of numbers in a block of its own. -/
def NumBlk (g : Nat) (ms : List Int) (W : World) : Prop := W.heap[g]? = some (.cells (cellsN ms).toArray 3 (0, 0))
theorem NumBlk.at {g : Nat} {ms : List Int} {W : World} (h : NumBlk g ms W) (j : Nat) (hj : j < ms.length) : W.cell? ⟨g, j, none⟩ = some (.int .i64 ms[j]) ∧ W.frozen? ⟨g, j, none⟩ = false := by
  unfold NumBlk at h
  refine ⟨?_, ?_⟩
  · rw [Lib.cell_of_heap h]; simp [cellsN, hj]
  · exact frozen_of_row _ _ _ _ _ h
theorem NumBlk.set {g : Nat} {ms : List Int} {W : World} (h : NumBlk g ms W) (j : Nat) (x : Int) : NumBlk g (ms.set j x) (W.setCell ⟨g, j, none⟩ (.int .i64 x)) := by
  unfold NumBlk at h ⊢
  rw [heap_setCell_same _ _ _ _ _ _ h]
  congr 2
  simp [cellsN, List.map_set]
theorem NumBlk.alloc {g : Nat} {ms : List Int} {W : World} (h : NumBlk g ms W) (o : Obj) : NumBlk g ms (W.alloc o) := (((Below.refl _ W).alloc (Nat.le_refl _) o).block g (blk_lt h)).trans h
/-- Only block g has turned; new ones may be there. -/
def Only (g : Nat) (W W' : World) : Prop := W.grownBy W' (some g)
theorem Only.refl (g : Nat) (W : World) : Only g W W := ⟨rfl, rfl, rfl, Nat.le_refl _, fun _ _ _ => rfl⟩
theorem Only.trans {g : Nat} {A B C : World} (h : Only g A B) (k : Only g B C) : Only g A C := ⟨k.os.trans h.os, k.tape.trans h.tape, k.output.trans h.output, Nat.le_trans h.size k.size, fun j hj hne => (k.block j (Nat.lt_of_lt_of_le hj h.size) hne).trans (h.block j hj hne)⟩
theorem Only.set (g j : Nat) (u : Value) (W : World) : Only g W (W.setCell ⟨g, j, none⟩ u) := ⟨rfl, rfl, rfl, by simp, fun k _ hk => heap_setCell_other W ⟨g, j, none⟩ k u (fun e => hk (by simp [e]))⟩
theorem Only.below {g : Nat} {W W' : World} (h : Below W.heap.size W W') : Only g W W' := ⟨h.os, h.tape, h.output, h.size, fun k hk _ => h.block k hk⟩
theorem Only.obj {g b : Nat} {W W' : World} {o : Obj} (h : Only g W W') (hb : W.heap[b]? = some o) (hne : b ≠ g) : W'.heap[b]? = some o := (h.block b (blk_lt hb) (fun e => hne (by simpa using e))).trans hb
/-- Where the parts of a block that closes at t lead. -/
def pairS (ms : List Int) (s : Nat) (o : Option Nat) (t : Nat) : List Int :=
  match o with
  | none => (ms.set s (t : Int)).set t (s : Int)
  | some o => ((((ms.set s (t : Int)).set t (s : Int)).set s (o : Int)).set o (t : Int))
theorem three_cell {w : World} {b : Nat} {x y z : Value} {t : TypeId} (h : w.heap[b]? = some (.cells #[x, y, z] t (0, 0))) : w.cell? ⟨b, 0, none⟩ = some x ∧ w.cell? ⟨b, 1, none⟩ = some y ∧ w.cell? ⟨b, 2, none⟩ = some z := by
  simp [World.cell?, h]
def oInt : Option Nat → Int
  | none => -1
  | some o => o
set_option maxRecDepth 100000 in
set_option maxHeartbeats 1000000 in
theorem pair_any (g : Nat) (ms : List Int) (n cap : Nat) (hn : ms.length = n) (s t : Nat) (o : Option Nat) (l : Bool) (hs : s < n) (ht : t < n) (ho : ∀ x, o = some x → x < n) (W : World) (h : NumBlk g ms W) :
    Calls Try.prog 24 #[.slice (some ⟨g, 0, none⟩) n cap, (Blk.mk s (oInt o) l).v, .int .i64 t] W fun e w' => e = .returned (.tuple #[]) ∧ NumBlk g (pairS ms s o t) w' ∧ Only g W w' := by
  have hgl := blk_lt h
  obtain ⟨p0, z0⟩ := h.at s (by omega)
  obtain ⟨p1, z1⟩ := h.at t (by omega)
  simp only [Blk.v]
  have h1 := h.set s (t : Int)
  obtain ⟨q1, y1⟩ := h1.at t (by simp; omega)
  obtain ⟨q2, y2⟩ := h1.at s (by simp; omega)
  have h2 := h1.set t (s : Int)
  obtain ⟨r1, x1⟩ := h2.at s (by simp; omega)
  generalize ms[s] = ms0 at p0
  generalize ms[t] = ms1 at p1
  generalize (ms.set s (t : Int))[t]'(by simp; omega) = ms2 at q1
  generalize (ms.set s (t : Int))[s]'(by simp; omega) = ms3 at q2
  generalize ((ms.set s (t : Int)).set t (s : Int))[s]'(by simp; omega) = ms4 at r1
  have H1 := hid6 h1
  have H2 := hid6 h2
  have HH := hid6 h
  clear h h1 h2
  cases o with
  | none =>
    simp only [oInt]
    go_enter Try.func24, Try.ntmps24
    go_wp2_with fail
    go_region_law fail
    all_goals
      go_wp2_with fail
    all_goals
      go_end0
      exact ⟨rfl, H2.out.alloc _, (((Only.set g s _ W).trans (Only.set g t _ _)).trans (Only.below ((Below.refl _ _).alloc (Nat.le_refl _) _).drew))⟩
  | some o =>
    have ho2 := ho o rfl
    clear ho
    have h3 := H2.out.set s (o : Int)
    obtain ⟨v1, u1⟩ := h3.at o (by simp; omega)
    generalize (((ms.set s (t : Int)).set t (s : Int)).set s (o : Int))[o]'(by simp; omega) = ms5 at v1
    have H4 := hid6 (h3.set o (t : Int))
    clear h3
    have hne : ((o : Int) == -1) = false := by simp
    simp only [oInt]
    go_enter Try.func24, Try.ntmps24
    go_wp2_with fail
    go_region_law fail
    all_goals
      go_wp2_with fail
    all_goals
      go_region_law fail
    all_goals
      go_end0
      exact ⟨rfl, H4.out.alloc _, ((((Only.set g s _ W).trans (Only.set g t _ _)).trans ((Only.set g s _ _).trans (Only.set g o _ _))).trans (Only.below ((Below.refl _ _).alloc (Nat.le_refl _) _).drew.drew))⟩
end Go.Proofs.Ytnlcokcpcfbdaaa
