/- What a Reader of package wire does: NewReader, take, Byte, Int, Text, Left, Err and Done. -/
import Derived.Test.YtcjakgogdbfagaaWF
import Derived.Test.YtcjakgogdbfagaaWD
namespace Go.Proofs.Ytcjakgogdbfagaa
open Go.RowKit

/-- The bytes bs lie at ao, in block g. -/
def BsAt (w : World) (g : Nat) (ao : Option Addr) (bs : List UInt8) : Prop :=
  bs = [] ∨ ∃ off, ao = some ⟨g, off, none⟩ ∧ ∀ j (h : j < bs.length), w.cell? ⟨g, off + j, none⟩ = some (.int .u8 (bs[j].toNat : Int))
theorem BsAt.bs {w : World} {g : Nat} {ao : Option Addr} {bs : List UInt8} (h : BsAt w g ao bs) : Bs w ao bs := by
  rcases h with h | ⟨off, h, hc⟩
  · exact .inl h
  · exact .inr ⟨g, off, h, hc⟩
theorem BsAt.chg {w w' : World} {g : Nat} {ao : Option Addr} {bs : List UInt8} {S : Nat → Prop} (h : BsAt w g ao bs) (k : Chg w w' S) (hg : ¬ S g) : BsAt w' g ao bs := by
  rcases h with h | ⟨off, h, hc⟩
  · exact .inl h
  · exact .inr ⟨off, h, fun j hj => k.cell (hc j hj) hg⟩
theorem BsAt.from {w : World} {g : Nat} {ao : Option Addr} {bs : List UInt8} (h : BsAt w g ao bs) (k cap : Nat) (hcap : bs.length ≤ cap) : BsAt w g (if cap = k then ao else ao.map (fun a => a.add k)) (bs.drop k) := by
  rcases h with rfl | ⟨off, rfl, hc⟩
  · left; simp
  · split
    · left; exact List.drop_eq_nil_of_le (by omega)
    · refine .inr ⟨off + k, ?_, fun j hj => ?_⟩
      · have hadd : (⟨g, off, none⟩ : Addr).add k = ⟨g, off + k, none⟩ := by unfold Addr.add; split <;> simp_all
        simp [hadd]
      · simp only [List.length_drop] at hj
        have := hc (k + j) (by omega)
        rw [← Nat.add_assoc] at this
        rw [this]
        simp
theorem BsAt.take {w : World} {g : Nat} {ao : Option Addr} {bs : List UInt8} (h : BsAt w g ao bs) (k : Nat) : BsAt w g ao (bs.take k) := by
  rcases h with rfl | ⟨off, rfl, hc⟩
  · left; simp
  · refine .inr ⟨off, rfl, fun j hj => ?_⟩
    simp only [List.length_take] at hj
    rw [hc j (by omega), List.getElem_take]

/-- What Done tells. -/
def doneOf (bs : List UInt8) (err : Int) : Int := if err ≠ 0 then err else if 0 < bs.length then 21 else 0
end Go.Proofs.Ytcjakgogdbfagaa
