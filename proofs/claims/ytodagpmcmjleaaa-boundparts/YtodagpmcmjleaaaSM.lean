/- shape.Depth. -/
import Derived.Test.YtodagpmcmjleaaaSK
import Derived.Test.YtodagpmcmjleaaaSC
namespace Go.Proofs.Ytodagpmcmjleaaa
open Go.RowKit
/-- How many blocks were open at most, ahead of the places below k. -/
def dep (cs : List (Int × Int)) : Nat → Nat
  | 0 => 0
  | k + 1 => max (dep cs k) (mst cs k).1.length
/-- What holds while Depth walks. -/
structure DJ (cs : List (Int × Int)) (cb co q B : Nat) (w0 : World) (k : Nat) (W : World) : Prop where
  n : NumBlk q [((dep cs k : Nat) : Int)] W
  a : ∀ j (h : j < cs.length), W.cell? ⟨cb, co + j * 2, none⟩ = some (.int .i64 cs[j].1) ∧ W.cell? ⟨cb, co + j * 2 + 1, none⟩ = some (.int .i64 cs[j].2)
  b : Below B w0 W
def DepthEnd (cs : List (Int × Int)) (w : World) (e : Ending) (w' : World) : Prop :=
  e = .returned (if goodS cs = true then .tuple #[.int .i64 ((dep cs cs.length : Nat) : Int), .int .i64 0] else .tuple #[.int .i64 0, .int .i64 31]) ∧ Below w.heap.size w w'
end Go.Proofs.Ytodagpmcmjleaaa
