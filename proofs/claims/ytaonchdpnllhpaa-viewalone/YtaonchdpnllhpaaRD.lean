/- What a Reader of package wire does: NewReader, take, Byte, Int, Text, Left, Err and Done. What a Reader's Byte, Int and Text do. -/
import Derived.Test.YtaonchdpnllhpaaWF
import Derived.Test.YtaonchdpnllhpaaWA
import Derived.Test.YtaonchdpnllhpaaWH
namespace Go.Proofs.Ytaonchdpnllhpaa
open Go.RowKit

/-- The bytes bs lie at ao, in block g. -/
def BsAt (w : World) (g : Nat) (ao : Option Addr) (bs : List UInt8) : Prop :=
  bs = [] ∨ ∃ off, ao = some ⟨g, off, none⟩ ∧ ∀ j (h : j < bs.length), w.cell? ⟨g, off + j, none⟩ = some (.int .u8 (bs[j].toNat : Int))
theorem BsAt.bs {w : World} {g : Nat} {ao : Option Addr} {bs : List UInt8} (h : BsAt w g ao bs) : Bs w ao bs := by
  rcases h with h | ⟨off, h, hc⟩
  · exact .inl h
  · exact .inr ⟨g, off, h, hc⟩
theorem BsAt.chg {w w' : World} {g : Nat} {ao : Option Addr} {bs : List UInt8} {S : Nat → Prop} (h : BsAt w g ao bs) (k : Chg w w' S) (hg : ¬ S g) : BsAt w' g ao bs := by
  rcases h with h | ⟨off, h, hc⟩
  · exact .inl h
  · exact .inr ⟨off, h, fun j hj => k.cell (hc j hj) hg⟩
theorem BsAt.from {w : World} {g : Nat} {ao : Option Addr} {bs : List UInt8} (h : BsAt w g ao bs) (k cap : Nat) (hcap : bs.length ≤ cap) : BsAt w g (if cap = k then ao else ao.map (fun a => a.add k)) (bs.drop k) := by
  rcases h with rfl | ⟨off, rfl, hc⟩
  · left; simp
  · split
    · left; exact List.drop_eq_nil_of_le (by omega)
    · refine .inr ⟨off + k, ?_, fun j hj => ?_⟩
      · have hadd : (⟨g, off, none⟩ : Addr).add k = ⟨g, off + k, none⟩ := by unfold Addr.add; split <;> simp_all
        simp [hadd]
      · simp only [List.length_drop] at hj
        have := hc (k + j) (by omega)
        rw [← Nat.add_assoc] at this
        rw [this]
        simp
theorem BsAt.take {w : World} {g : Nat} {ao : Option Addr} {bs : List UInt8} (h : BsAt w g ao bs) (k : Nat) : BsAt w g ao (bs.take k) := by
  rcases h with rfl | ⟨off, rfl, hc⟩
  · left; simp
  · refine .inr ⟨off, rfl, fun j hj => ?_⟩
    simp only [List.length_take] at hj
    rw [hc j (by omega), List.getElem_take]

/-- What Done tells. -/
def doneOf (bs : List UInt8) (err : Int) : Int := if err ≠ 0 then err else if 0 < bs.length then 21 else 0
end Go.Proofs.Ytaonchdpnllhpaa
namespace Go.Proofs.Ytaonchdpnllhpaa
open Go.RowKit

/-- A number of 64 bits as an int. -/
def toInt (n : Nat) : Int := if n < 9223372036854775808 then (n : Int) else (n : Int) - 18446744073709551616
theorem wrap_toInt (n : Nat) (h : n < 18446744073709551616) : wrap64 (n : Int) = toInt n := by
  unfold toInt wrap64
  split <;> omega
theorem wrap_none : wrap64 ((num [] : Nat) : Int) = 0 := by rw [wrap_toInt _ (num_lt _)]; rfl
theorem num_one (x : UInt8) : num [x] = x.toNat := by
  simp [num, numStep]
theorem num_two (x y : UInt8) : num [x, y] = x.toNat * 256 + y.toNat := by
  have := x.toNat_lt
  have := y.toNat_lt
  simp [num, numStep]; omega

/-- The length that a text begins with. -/
def tlOf (bs : List UInt8) : Nat := if bs.length < 2 then 0 else num (bs.take 2)
theorem tl_le (bs : List UInt8) : tlOf bs ≤ 65535 := by
  unfold tlOf
  split
  · omega
  · have e : bs.take 2 = [bs[0]'(by omega), bs[1]'(by omega)] := by
      rw [List.take_succ_eq_append_getElem (by omega), List.take_succ_eq_append_getElem (by omega)]; rfl
    rw [e, num_two]
    have := (bs[0]'(by omega)).toNat_lt
    have := (bs[1]'(by omega)).toNat_lt
    omega
end Go.Proofs.Ytaonchdpnllhpaa
