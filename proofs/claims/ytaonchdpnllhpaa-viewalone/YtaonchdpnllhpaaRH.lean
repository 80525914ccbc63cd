/- Both Readers, each call in one sentence: what it answers, how far it goes, what error it leaves. -/
import Derived.Test.YtaonchdpnllhpaaRGd
import Derived.Test.YtaonchdpnllhpaaB8
namespace Go.Proofs.Ytaonchdpnllhpaa
open Go.RowKit

/-- The error that a call leaves which needs nd bytes. -/
def errOf (bs : List UInt8) (err : Int) (nd : Nat) : Int := if err ≠ 0 then err else if bs.length < nd then 20 else 0
/-- How many bytes it takes. -/
def cutOf (bs : List UInt8) (err : Int) (nd : Nat) : Nat := if err ≠ 0 then 0 else if bs.length < nd then 0 else nd
def ansByte (bs : List UInt8) (err : Int) : Int := if err ≠ 0 then 0 else if bs.length < 1 then 0 else ((bs.getD 0 0).toNat : Nat)
def ansInt (bs : List UInt8) (err : Int) : Int := if err ≠ 0 then 0 else if bs.length < 8 then 0 else toInt (num (bs.take 8))
def ansText (bs : List UInt8) (err : Int) : List UInt8 := if err ≠ 0 then [] else if bs.length < 2 + tlOf bs then [] else (bs.drop 2).take (tlOf bs)

theorem of_bad {bs : List UInt8} {err : Int} (nd : Nat) (h : err ≠ 0) : errOf bs err nd = err ∧ cutOf bs err nd = 0 := by
  unfold errOf cutOf; rw [if_pos h, if_pos h]; exact ⟨rfl, rfl⟩
theorem of_end {bs : List UInt8} {nd : Nat} (h : bs.length < nd) : errOf bs 0 nd = 20 ∧ cutOf bs 0 nd = 0 := by
  unfold errOf cutOf; rw [if_neg (by simp), if_pos h, if_neg (by simp), if_pos h]; exact ⟨rfl, rfl⟩
theorem of_ok {bs : List UInt8} {nd : Nat} (h : ¬ bs.length < nd) : errOf bs 0 nd = 0 ∧ cutOf bs 0 nd = nd := by
  unfold errOf cutOf; rw [if_neg (by simp), if_neg h, if_neg (by simp), if_neg h]; exact ⟨rfl, rfl⟩

end Go.Proofs.Ytaonchdpnllhpaa
