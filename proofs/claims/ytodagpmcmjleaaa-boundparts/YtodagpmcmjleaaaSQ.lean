/- shape.Around. -/
import Derived.Test.YtodagpmcmjleaaaSN
namespace Go.Proofs.Ytodagpmcmjleaaa
open Go.RowKit
/-- The places noted ahead of place k. -/
def arS (cs : List (Int × Int)) (x : Int) (k : Nat) : List Int := if 0 ≤ x ∧ x < k then (mst cs x.toNat).1.map Blk.s else []
/-- What holds while Around walks. -/
structure AJ (cs : List (Int × Int)) (x : Int) (cb co tB q B : Nat) (w0 : World) (k : Nat) (W : World) : Prop where
  t : W.cell? ⟨tB, 0, none⟩ = some (.int .i64 x)
  p : ∃ a cap, Pls q (arS cs x k) a cap W
  a : ∀ j (h : j < cs.length), W.cell? ⟨cb, co + j * 2, none⟩ = some (.int .i64 cs[j].1) ∧ W.cell? ⟨cb, co + j * 2 + 1, none⟩ = some (.int .i64 cs[j].2)
  b : Below B w0 W
theorem Pls.mv {q : Nat} {ns : List Int} {a : Option Addr} {cap : Nat} {W W' : World} (h : Pls q ns a cap W) (m : Mv W W') : Pls q ns a cap W' := by
  refine ⟨m.2 _ _ _ _ (by decide) (by decide) h.box, h.row.1, ?_⟩
  rcases h.row.2 with h2 | ⟨g, c, cur, e, hg, hh, r⟩
  · exact .inl h2
  · exact .inr ⟨g, c, cur, e, hg, m.2 _ _ _ _ (by decide) (by decide) hh, r⟩
theorem arS_next (cs : List (Int × Int)) (x : Int) (k : Nat) : arS cs x (k + 1) = if (k : Int) = x then arS cs x k ++ (mst cs k).1.map Blk.s else arS cs x k := by
  unfold arS
  split
  · rename_i h
    split
    · rename_i e
      subst e
      rw [if_neg (by omega)]
      simp
    · rw [if_pos (by omega)]
  · rename_i h
    rw [if_neg (by omega), if_neg (by omega)]
def AroundEnd (cs : List (Int × Int)) (x : Int) (w : World) (e : Ending) (w' : World) : Prop :=
  ∃ a c, e = .returned (.slice a (if goodS cs = true then arS cs x cs.length else []).length c) ∧ NsAt w'.cell? a (if goodS cs = true then arS cs x cs.length else []) ∧ Below w.heap.size w w'
end Go.Proofs.Ytodagpmcmjleaaa
