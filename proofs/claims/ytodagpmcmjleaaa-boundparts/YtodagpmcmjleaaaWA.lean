/- What wire's smallest functions do: number reads bytes as a number, appendNumber writes one behind a slice, fresh copies a slice. -/
import Derived.Test.YtodagpmcmjleaaaProg
import Derived.Test.YtodagpmcmjleaaaPlain
import Derived.WalkLawsBesides
import Derived.Laws.CopyOwn
namespace Go.Proofs.Ytodagpmcmjleaaa
open Go.RowKit

theorem ret_int {k : IntKind} {a b : Int} (h : a = b) : Ending.returned (.int k a) = .returned (.int k b) := by rw [h]

/-- Owned bytes. -/
def OwnB (w : World) (base : Nat) (v : Value) (bs : List UInt8) : Prop := Own w base 5 v (bs.map bv)

end Go.Proofs.Ytodagpmcmjleaaa
