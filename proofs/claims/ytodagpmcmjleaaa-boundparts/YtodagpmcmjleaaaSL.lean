/- shape.Next and the document's; law06.Own. -/
import Derived.Test.YtodagpmcmjleaaaSK
namespace Go.Proofs.Ytodagpmcmjleaaa
open Go.RowKit
/-- Is an operation followed by what stands behind its match? -/
def asksS (n : Int) (yes : Bool) : Bool := if n = 48 then !yes else if n = 49 then true else if n = 50 ∨ n = 52 then yes else false
/-- What is done behind the instruction at x. -/
def nextS (cs : List (Int × Int)) (ms : List Int) (x : Int) (yes : Bool) : Int :=
  if 0 ≤ x ∧ x < cs.length ∧ x < ms.length then
    if asksS ((opsI cs).getD x.toNat 0) yes = true then
      if 0 ≤ ms.getD x.toNat 0 ∧ ms.getD x.toNat 0 < cs.length then ms.getD x.toNat 0 + 1 else -1
    else x + 1
  else -1
theorem ns_at {w : World} {b off : Nat} {ms : List Int} (h : NsAt w.cell? (some ⟨b, off, none⟩) ms) (j : Nat) (hj : j < ms.length) : w.cell? ⟨b, off + j, none⟩ = some (.int .i64 (ms.getD j 0)) := by
  rcases h with rfl | ⟨b', off', e, hc⟩
  · simp at hj
  · cases e
    rw [hc j hj, List.getD_eq_getElem?_getD, List.getElem?_eq_getElem hj]
    rfl
theorem is_at {w : World} {b off : Nat} {cs : List (Int × Int)} (h : IsAt w.cell? (some ⟨b, off, none⟩) cs) (j : Nat) (hj : j < cs.length) : w.cell? ⟨b, off + j * 2, none⟩ = some (.int .i64 ((opsI cs).getD j 0)) := by
  rcases h with rfl | ⟨b', off', e, hc⟩
  · simp at hj
  · cases e
    rw [(hc j hj).1, ops_at hj]
theorem ns_some {w : World} {a : Option Addr} {ms : List Int} (h : NsAt w.cell? a ms) (h0 : 0 < ms.length) : ∃ b off, a = some ⟨b, off, none⟩ := by
  rcases h with rfl | ⟨b, off, e, _⟩
  · simp at h0
  · exact ⟨b, off, e⟩
theorem is_some {w : World} {a : Option Addr} {cs : List (Int × Int)} (h : IsAt w.cell? a cs) (h0 : 0 < cs.length) : ∃ b off, a = some ⟨b, off, none⟩ := by
  rcases h with rfl | ⟨b, off, e, _⟩
  · simp at h0
  · exact ⟨b, off, e⟩
end Go.Proofs.Ytodagpmcmjleaaa
