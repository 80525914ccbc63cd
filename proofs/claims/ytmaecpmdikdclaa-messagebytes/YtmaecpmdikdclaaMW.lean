/- What a Writer of one's own is given (out of layer 4's CPl, CPc). -/
import Derived.Test.YtmaecpmdikdclaaWI
import Derived.Test.YtmaecpmdikdclaaNums
namespace Go.Proofs.Ytmaecpmdikdclaa
open Go.RowKit
/-- The Writer that was made at w: at the two blocks behind w. -/
structure MineW (w wr : World) (vr : Value) (bs : List UInt8) : Prop where
  H : WrE wr (w.heap.size + 1) w.heap.size vr 0
  hO : OwnB wr (w.heap.size + 2) vr bs
  hb : Below w.heap.size w wr
  hz : w.heap.size + 2 ≤ wr.heap.size
theorem MineW.step {w wr w2 : World} {vr v2 : Value} {bs bs2 : List UInt8} (M : MineW w wr vr bs) (H : WrE w2 (w.heap.size + 1) w.heap.size v2 0) (hO : OwnB w2 (w.heap.size + 2) v2 bs2) (hs : WStep w.heap.size wr vr w2 v2) : MineW w w2 v2 bs2 :=
  ⟨H, hO, M.hb.trans (hs.below (by have := M.hz; omega) (Nat.le_refl _) (fun k e => by have := (M.hO.lt k e).1; omega)), Nat.le_trans M.hz hs.1.size⟩
/-- A block that the Writer does not touch. -/
structure Kept (w0 wr : World) (vr : Value) (k : Nat) (o : Obj) : Prop where
  there : wr.heap[k]? = some o
  off : k ≠ w0.heap.size ∧ vr.ownBlock ≠ some k
theorem Kept.step {w0 wr w2 : World} {vr v2 : Value} {k : Nat} {o : Obj} (K : Kept w0 wr vr k o) (hs : WStep w0.heap.size wr vr w2 v2) : Kept w0 w2 v2 k o := by
  have hlt := (Array.getElem?_eq_some_iff.1 K.there).1
  refine ⟨?_, K.off.1, ?_⟩
  · rw [hs.1.block k hlt (fun e => e.elim K.off.1 K.off.2)]; exact K.there
  · rcases hs.2 with e | ⟨g, e, hg⟩
    · rw [e]; exact K.off.2
    · rw [e]; intro h; cases h; omega
theorem MineW.chg {w0 w3 w' : World} {v3 : Value} {bs : List UInt8} (M : MineW w0 w3 v3 bs) (hc : Chg w3 w' (WSet w0.heap.size v3)) : Below w0.heap.size w0 w' :=
  M.hb.trans (hc.below (by have := M.hz; omega) (fun i h => by
    rcases h with h | h
    · omega
    · have := (M.hO.lt i h).1; omega))
/-- What is written: the bytes, and what a call that answers r leaves. -/
def WroteW (w0 : World) (bs : List UInt8) (r : Value) (w : World) (v : Value) (e : Ending) (w' : World) : Prop := ∃ v', e = .returned r ∧ MineW w0 w' v' bs ∧ WStep w0.heap.size w v w' v'
theorem byteW (w0 W : World) (v : Value) (bs : List UInt8) (M : MineW w0 W v bs) (B n : Nat) (hB : W.heap.size = B) (hn : n ≤ 255) (hroom : bs.length + 1 ≤ 1048576) : Calls Try.prog 37 #[.pointer (some ⟨w0.heap.size + 1, 0, none⟩), .slice (some ⟨B, 0, none⟩) 1 1] (W.alloc (.cells #[.int .i64 (n : Int)] 3)) (WroteW w0 (bs ++ [UInt8.ofNat n]) (.int .i64 0) W v) := by
  have e : (n : Int) = ((UInt8.ofNat n).toNat : Nat) := by rw [UInt8.toNat_ofNat']; omega
  rw [e]
  refine (byte_one _ _ _ _ v bs _ W hB M.H M.hO M.hz hroom).mono ?_
  rintro e w3 ⟨v3, rfl, H3, hO3, hs3⟩
  exact ⟨v3, rfl, M.step H3 hO3 hs3, hs3⟩
theorem MineW.alloc {w0 w : World} {v : Value} {bs : List UInt8} (M : MineW w0 w v bs) (o : Obj) : MineW w0 (w.alloc o) v bs := M.step (M.H.chg (Chg.alloc _ _ (fun _ => False)) id id) (Own.chg M.hO (Chg.alloc _ _ (fun _ => False)) (fun _ _ => id)) (WStep.alloc _ _ _ _)
theorem MineW.kept {w0 w : World} {v : Value} {bs : List UInt8} (M : MineW w0 w v bs) (cs : Array Value) (t : TypeId) : Kept w0 (w.alloc (.cells cs t)) v w.heap.size (.cells cs t (0, 0)) := ⟨heap_alloc_new w _, by have := M.hz; omega, fun e => by have := (M.hO.lt _ e).2; omega⟩
theorem bytes2W (w0 W : World) (v : Value) (bs : List UInt8) (M : MineW w0 W v bs) (B : Nat) (hB : W.heap.size = B) (x y : Int) (hx : 0 ≤ x ∧ x ≤ 255) (hy : 0 ≤ y ∧ y ≤ 255) (hroom : bs.length + 2 ≤ 1048576) : Calls Try.prog 37 #[.pointer (some ⟨w0.heap.size + 1, 0, none⟩), .slice (some ⟨B, 0, none⟩) 2 2] (W.alloc (.cells #[.int .i64 x, .int .i64 y] 3)) (WroteW w0 (bs ++ byts [x, y]) (.int .i64 0) W v) := by
  subst hB
  have M1 := M.alloc (.cells #[.int .i64 x, .int .i64 y] 3)
  have K1 := M.kept #[.int .i64 x, .int .i64 y] 3
  refine (byte_ok _ _ _ v bs _ 2 2 [x, y] _ M1.H M1.hO M1.hz (by omega) rfl (by omega) (fun w' hc => .inr ⟨W.heap.size, 0, rfl, fun j hj => ?_⟩) (fun j h => ?_) (by omega)).mono ?_
  · have hn : ¬ WSet w0.heap.size v W.heap.size := fun e => e.elim K1.off.1 K1.off.2
    match j, hj with
    | 0, _ => exact hc.cell (by rw [Lib.cell_of_heap K1.there]; rfl) hn
    | 1, _ => exact hc.cell (by rw [Lib.cell_of_heap K1.there]; rfl) hn
  · match j, h with
    | 0, _ => exact hx
    | 1, _ => exact hy
  rintro e w3 ⟨v3, rfl, H3, hO3, hs3⟩
  have hs := (WStep.alloc w0.heap.size W v (.cells #[.int .i64 x, .int .i64 y] 3)).trans hs3
  exact ⟨v3, rfl, M.step H3 hO3 hs, hs⟩
theorem intW (w0 W : World) (v : Value) (bs : List UInt8) (M : MineW w0 W v bs) (B : Nat) (x : Int) (hB : W.heap.size = B) (hroom : bs.length + 8 ≤ 1048576) : Calls Try.prog 38 #[.pointer (some ⟨w0.heap.size + 1, 0, none⟩), .slice (some ⟨B, 0, none⟩) 1 1] (W.alloc (.cells #[.int .i64 x] 3)) (WroteW w0 (bs ++ be64 x) (.int .i64 0) W v) := by
  refine (int_one _ _ _ _ v bs x W hB M.H M.hO M.hz hroom).mono ?_
  rintro e w3 ⟨v3, rfl, H3, hO3, hs3⟩
  exact ⟨v3, rfl, M.step H3 hO3 hs3, hs3⟩
end Go.Proofs.Ytmaecpmdikdclaa
