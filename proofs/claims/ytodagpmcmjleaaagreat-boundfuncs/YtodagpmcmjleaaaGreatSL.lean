/- shape.Next and the document's; law06.Own. law06.Own; the law ShapeNexts. -/
import Derived.Test.YtodagpmcmjleaaaGreatYF
namespace Go.Proofs.YtodagpmcmjleaaaGreat
open Go.RowKit
/-- Is an operation followed by what stands behind its match? -/
def asksS (n : Int) (yes : Bool) : Bool := if n = 48 then !yes else if n = 49 then true else if n = 50 ∨ n = 52 then yes else false
/-- What is done behind the instruction at x. -/
def nextS (cs : List (Int × Int)) (ms : List Int) (x : Int) (yes : Bool) : Int :=
  if 0 ≤ x ∧ x < cs.length ∧ x < ms.length then
    if asksS ((opsI cs).getD x.toNat 0) yes = true then
      if 0 ≤ ms.getD x.toNat 0 ∧ ms.getD x.toNat 0 < cs.length then ms.getD x.toNat 0 + 1 else -1
    else x + 1
  else -1
theorem ns_at {w : World} {b off : Nat} {ms : List Int} (h : NsAt w.cell? (some ⟨b, off, none⟩) ms) (j : Nat) (hj : j < ms.length) : w.cell? ⟨b, off + j, none⟩ = some (.int .i64 (ms.getD j 0)) := by
  rcases h with rfl | ⟨b', off', e, hc⟩
  · simp at hj
  · cases e
    rw [hc j hj, List.getD_eq_getElem?_getD, List.getElem?_eq_getElem hj]
    rfl
theorem is_at {w : World} {b off : Nat} {cs : List (Int × Int)} (h : IsAt w.cell? (some ⟨b, off, none⟩) cs) (j : Nat) (hj : j < cs.length) : w.cell? ⟨b, off + j * 2, none⟩ = some (.int .i64 ((opsI cs).getD j 0)) := by
  rcases h with rfl | ⟨b', off', e, hc⟩
  · simp at hj
  · cases e
    rw [(hc j hj).1, ops_at hj]
theorem ns_some {w : World} {a : Option Addr} {ms : List Int} (h : NsAt w.cell? a ms) (h0 : 0 < ms.length) : ∃ b off, a = some ⟨b, off, none⟩ := by
  rcases h with rfl | ⟨b, off, e, _⟩
  · simp at h0
  · exact ⟨b, off, e⟩
theorem is_some {w : World} {a : Option Addr} {cs : List (Int × Int)} (h : IsAt w.cell? a cs) (h0 : 0 < cs.length) : ∃ b off, a = some ⟨b, off, none⟩ := by
  rcases h with rfl | ⟨b, off, e, _⟩
  · simp at h0
  · exact ⟨b, off, e⟩
end Go.Proofs.YtodagpmcmjleaaaGreat
namespace Go.Proofs.YtodagpmcmjleaaaGreat
open Go.RowKit
theorem own_empty (w : World) (e : TypeId) (size B : Nat) (hB : B ≤ w.heap.size) : (w.alloc (.cells #[] e)).ownsRow B e size (.slice (some ⟨w.heap.size, 0, none⟩) 0 0) 0 [] := World.ownsRow_made w #[] 0 hB (by unfold maxLen; omega) (by simp)
/-- A row of its own. -/
def InsEnd6 (cs : List (Int × Int)) (w : World) (e : Ending) (w' : World) : Prop := ∃ a cc, e = .returned (.slice a cs.length cc) ∧ cs.length ≤ cc ∧ w'.ownsRow w.heap.size 49 2 (.slice a cs.length cc) cs.length (cellsI cs) ∧ Below w.heap.size w w'
theorem below_new6 {w w1 w2 : World} {v v' : Value} {B : Nat} (h1 : Below B w w1) (hs : Step w1 v w2 v') (hv : ∀ g, v.ownBlock = some g → B ≤ g) (hB : B ≤ w1.heap.size) : Below B w w2 := h1.trans (hs.below hB hv)
end Go.Proofs.YtodagpmcmjleaaaGreat
