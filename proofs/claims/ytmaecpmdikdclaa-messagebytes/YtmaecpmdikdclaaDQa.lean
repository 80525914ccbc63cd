/- A row of bytes that grows while other rows are made. -/
import Derived.Test.YtmaecpmdikdclaaRW
namespace Go.Proofs.Ytmaecpmdikdclaa
open Go.RowKit
/-- The row v holds xs; below B all is as it was. -/
structure Run (B : Nat) (w0 W : World) (v : Value) (xs : List UInt8) : Prop where
  row : OwnB W B v xs
  below : Below B w0 W
  size : B ≤ W.heap.size
theorem Run.call {B : Nat} {w0 W W' : World} {v : Value} {xs : List UInt8} (h : Run B w0 W v xs) (hb : Below W.heap.size W W') : Run B w0 W' v xs := ⟨Own.below h.row hb, h.below.trans (hb.mono h.size), Nat.le_trans h.size hb.size⟩
theorem Run.alloc {B : Nat} {w0 W : World} {v : Value} {xs : List UInt8} (h : Run B w0 W v xs) (o : Obj) : Run B w0 (W.alloc o) v xs := h.call ((Below.refl _ W).alloc (Nat.le_refl _) o)
theorem Run.app {B : Nat} {w0 W W' : World} {v v' : Value} {xs ys : List UInt8} (h : Run B w0 W v xs) (ho : Own W' B 5 v' (xs.map bv ++ ys.map bv)) (hs : Step W v W' v') : Run B w0 W' v' (xs ++ ys) := ⟨by unfold OwnB; rw [List.map_append]; exact ho, h.below.trans (hs.below h.size (fun k e => (h.row.lt k e).1)), Nat.le_trans h.size hs.size⟩
/-- A block that is not v's row. -/
structure Aside (W : World) (v : Value) (k : Nat) (o : Obj) : Prop where
  there : W.heap[k]? = some o
  ne : v.ownBlock ≠ some k
theorem Aside.call {W W' : World} {v : Value} {k : Nat} {o : Obj} (h : Aside W v k o) (hb : Below W.heap.size W W') : Aside W' v k o := ⟨(hb.block k (lt_of_block h.there)).trans h.there, h.ne⟩
theorem Aside.app {W W' : World} {v v' : Value} {k : Nat} {o : Obj} (h : Aside W v k o) (hs : Step W v W' v') : Aside W' v' k o := by
  have hlt := lt_of_block h.there
  refine ⟨(hs.1.block k hlt (fun e => h.ne e.symm)).trans h.there, ?_⟩
  rcases hs.2 with e | ⟨g, e, hg⟩
  · rw [e]; exact h.ne
  · rw [e]; intro e2; cases e2; omega
theorem Aside.alloc {W : World} {v : Value} {k : Nat} {o : Obj} (h : Aside W v k o) (o' : Obj) : Aside (W.alloc o') v k o := h.call ((Below.refl _ W).alloc (Nat.le_refl _) o')
theorem Aside.new {B : Nat} {w0 W : World} {v : Value} {xs : List UInt8} (h : Run B w0 W v xs) (cs : Array Value) (t : TypeId) : Aside (W.alloc (.cells cs t)) v W.heap.size (.cells cs t (0, 0)) := ⟨heap_alloc_new W _, fun e => by have := (h.row.lt _ e).2; omega⟩
/-- Bytes that lie beside v's row. -/
def Side (W : World) (v : Value) (ao : Option Addr) (bs : List UInt8) : Prop := bs = [] ∨ ∃ b off, ao = some ⟨b, off, none⟩ ∧ (∀ j (h : j < bs.length), W.cell? ⟨b, off + j, none⟩ = some (.int .u8 (bs[j].toNat : Int))) ∧ v.ownBlock ≠ some b ∧ b < W.heap.size
theorem Side.bs {W : World} {v : Value} {ao : Option Addr} {bs : List UInt8} (h : Side W v ao bs) : Bs W ao bs := by
  rcases h with h | ⟨b, off, e, hc, _⟩
  · exact .inl h
  · exact .inr ⟨b, off, e, hc⟩
theorem Side.call {W W' : World} {v : Value} {ao : Option Addr} {bs : List UInt8} (h : Side W v ao bs) (hb : Below W.heap.size W W') : Side W' v ao bs := by
  rcases h with h | ⟨b, off, e, hc, hn, hl⟩
  · exact .inl h
  · exact .inr ⟨b, off, e, fun j hj => below_keep hb _ _ (hc j hj), hn, Nat.lt_of_lt_of_le hl hb.size⟩
theorem Side.app {W W' : World} {v v' : Value} {ao : Option Addr} {bs : List UInt8} (h : Side W v ao bs) (hs : Step W v W' v') : Side W' v' ao bs := by
  rcases h with h | ⟨b, off, e, hc, hn, hl⟩
  · exact .inl h
  · refine .inr ⟨b, off, e, fun j hj => (Chg.of_grown hs.1).cell (hc j hj) hn, ?_, Nat.lt_of_lt_of_le hl hs.size⟩
    rcases hs.2 with e2 | ⟨g, e2, hg⟩
    · rw [e2]; exact hn
    · rw [e2]; intro e3; cases e3; omega
theorem Side.new {B : Nat} {w0 W W' : World} {v r : Value} {xs bs : List UInt8} (h : Run B w0 W v xs) (hO : OwnB W' W.heap.size r bs) : ∃ ao cap, r = .slice ao bs.length cap ∧ Side W' v ao bs := by
  obtain ⟨ao, cap, rfl, _, _, hB, ho, _⟩ := Own.bs hO
  refine ⟨ao, cap, rfl, ?_⟩
  rcases hB with h0 | ⟨b, off, rfl, hc⟩
  · exact .inl h0
  · have hlt := hO.lt b (by rw [ho]; rfl)
    exact .inr ⟨b, off, rfl, hc, fun e => by have := (h.row.lt _ e).2; omega, hlt.2⟩
theorem Side.src {W : World} {v : Value} {ao : Option Addr} {bs : List UInt8} (h : Side W v ao bs) (c : Nat) : Src Try.prog 1 25 (.slice ao bs.length c) (bs.map bv).length (bs.map bv) W := src_bs _ Try.underlying25 h.bs c
end Go.Proofs.Ytmaecpmdikdclaa
