/- shape.Next and the document's; law06.Own. law06.Own; the law ShapeNexts. Layer 9: num, calm. -/
import Derived.Test.YtpmlnkjamhelnaaGreatYE
namespace Go.Proofs.YtpmlnkjamhelnaaGreat
open Go.RowKit
/-- Is an operation followed by what stands behind its match? -/
def asksS (n : Int) (yes : Bool) : Bool := if n = 48 then !yes else if n = 49 then true else if n = 50 ∨ n = 52 then yes else false
/-- What is done behind the instruction at x. -/
def nextS (cs : List (Int × Int)) (ms : List Int) (x : Int) (yes : Bool) : Int :=
  if 0 ≤ x ∧ x < cs.length ∧ x < ms.length then
    if asksS ((opsI cs).getD x.toNat 0) yes = true then
      if 0 ≤ ms.getD x.toNat 0 ∧ ms.getD x.toNat 0 < cs.length then ms.getD x.toNat 0 + 1 else -1
    else x + 1
  else -1
theorem ns_at {w : World} {b off : Nat} {ms : List Int} (h : NsAt w.cell? (some ⟨b, off, none⟩) ms) (j : Nat) (hj : j < ms.length) : w.cell? ⟨b, off + j, none⟩ = some (.int .i64 (ms.getD j 0)) := by
  rcases h with rfl | ⟨b', off', e, hc⟩
  · simp at hj
  · cases e
    rw [hc j hj, List.getD_eq_getElem?_getD, List.getElem?_eq_getElem hj]
    rfl
theorem is_at {w : World} {b off : Nat} {cs : List (Int × Int)} (h : IsAt w.cell? (some ⟨b, off, none⟩) cs) (j : Nat) (hj : j < cs.length) : w.cell? ⟨b, off + j * 2, none⟩ = some (.int .i64 ((opsI cs).getD j 0)) := by
  rcases h with rfl | ⟨b', off', e, hc⟩
  · simp at hj
  · cases e
    rw [(hc j hj).1, ops_at hj]
theorem ns_some {w : World} {a : Option Addr} {ms : List Int} (h : NsAt w.cell? a ms) (h0 : 0 < ms.length) : ∃ b off, a = some ⟨b, off, none⟩ := by
  rcases h with rfl | ⟨b, off, e, _⟩
  · simp at h0
  · exact ⟨b, off, e⟩
theorem is_some {w : World} {a : Option Addr} {cs : List (Int × Int)} (h : IsAt w.cell? a cs) (h0 : 0 < cs.length) : ∃ b off, a = some ⟨b, off, none⟩ := by
  rcases h with rfl | ⟨b, off, e, _⟩
  · simp at h0
  · exact ⟨b, off, e⟩
end Go.Proofs.YtpmlnkjamhelnaaGreat
namespace Go.Proofs.YtpmlnkjamhelnaaGreat
open Go.RowKit
theorem own_empty (w : World) (e : TypeId) (size B : Nat) (hB : B ≤ w.heap.size) : (w.alloc (.cells #[] e)).ownsRow B e size (.slice (some ⟨w.heap.size, 0, none⟩) 0 0) 0 [] := World.ownsRow_made w #[] 0 hB (by unfold maxLen; omega) (by simp)
/-- A row of its own. -/
def InsEnd6 (cs : List (Int × Int)) (w : World) (e : Ending) (w' : World) : Prop := ∃ a cc, e = .returned (.slice a cs.length cc) ∧ cs.length ≤ cc ∧ w'.ownsRow w.heap.size 74 2 (.slice a cs.length cc) cs.length (cellsI cs) ∧ Below w.heap.size w w'
theorem below_new6 {w w1 w2 : World} {v v' : Value} {B : Nat} (h1 : Below B w w1) (hs : Step w1 v w2 v') (hv : ∀ g, v.ownBlock = some g → B ≤ g) (hB : B ≤ w1.heap.size) : Below B w w2 := h1.trans (hs.below hB hv)
end Go.Proofs.YtpmlnkjamhelnaaGreat
namespace Go.Proofs.YtpmlnkjamhelnaaGreat
open Go.RowKit
theorem cells_new9 (W : World) (xs : List Value) (t : TypeId) (B : Nat) (hB : W.heap.size = B) : ∀ j u, xs[j]? = some u → (W.alloc (.cells xs.toArray t)).cell? ((⟨B, 0, none⟩ : Addr).add j) = some u := by
  subst hB
  intro j u hu
  rw [Addr.add_lit, Lib.cell_of_heap (heap_alloc_new W (.cells xs.toArray t))]
  simpa using hu
/-- A row of its own. -/
def RowE9 (ns : List Int) (w : World) (e : Ending) (w' : World) : Prop := ∃ a cc, e = .returned (.slice a ns.length cc) ∧ w'.ownsRow w.heap.size 3 1 (.slice a ns.length cc) ns.length (cellsN ns) ∧ Below w.heap.size w w'
def calm1 (z : Int) : Int := (wrap64 (z.tmod 5000 + 5000)).tmod 5000
theorem calm1_in (z : Int) : 0 ≤ calm1 z ∧ calm1 z < 5000 := by
  unfold calm1
  have h1 : (z.tmod 5000).natAbs = z.natAbs % 5000 := by rw [Int.natAbs_tmod]; rfl
  have h2 := Nat.mod_lt z.natAbs (show 0 < 5000 by omega)
  generalize z.tmod 5000 = x at *
  have e : wrap64 (x + 5000) = x + 5000 := by unfold wrap64; omega
  rw [e, Int.tmod_eq_emod_of_nonneg (by omega)]
  omega
def calmS (ns : List Int) : List Int := (ns.take 20).map calm1
def kn9 : List (Int × Int) := [(51, 3), (1, 1), (5, 0), (50, 0)]
theorem kn9_part : partS kn9 [] = (11, 0) := by decide
end Go.Proofs.YtpmlnkjamhelnaaGreat
