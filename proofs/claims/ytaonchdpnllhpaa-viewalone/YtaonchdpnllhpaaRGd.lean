/- What the document's own Reader does where it reads: Byte, Int and Text. -/
import Derived.Test.YtaonchdpnllhpaaRF
namespace Go.Proofs.Ytaonchdpnllhpaa
open Go.RowKit

theorem tl_at (bs : List UInt8) (k : Nat) (h : k + 2 ≤ bs.length) : tlOf (bs.drop k) = 256 * (bs[k]'(by omega)).toNat + (bs[k + 1]'(by omega)).toNat := by
  unfold tlOf
  rw [if_neg (by rw [List.length_drop]; omega), List.drop_eq_getElem_cons (by omega), List.drop_eq_getElem_cons (by omega), List.take_succ_cons, List.take_succ_cons, List.take_zero, num_two]
  omega
end Go.Proofs.Ytaonchdpnllhpaa
