/- A block that holds bytes, whichever. -/
import Derived.Test.YtaonchdpnllhpaaWF
namespace Go.Proofs.Ytaonchdpnllhpaa
open Go.RowKit

theorem Chg.drewN (w : World) (n : Nat) (S : Nat → Prop) : Chg w (w.drewN n) S := ⟨rfl, rfl, rfl, Nat.le_refl _, fun _ _ _ => rfl⟩
/-- Block g begins with len bytes, whichever. -/
def Bytes8 (w : World) (g len : Nat) : Prop := ∃ cur : Array Value, w.heap[g]? = some (.cells cur 5 (0, 0)) ∧ ∀ j, j < len → ∃ y : Nat, y < 256 ∧ cur[j]? = some (.int .u8 (y : Int))
theorem Bytes8.cell {w : World} {g len : Nat} (H : Bytes8 w g len) (j : Nat) (hj : j < len) : ∃ y : Nat, y < 256 ∧ w.cell? ⟨g, j, none⟩ = some (.int .u8 (y : Int)) ∧ w.frozen? ⟨g, j, none⟩ = false := by
  obtain ⟨cur, hc, h⟩ := H
  obtain ⟨y, hy, e⟩ := h j hj
  exact ⟨y, hy, by simp [World.cell?, hc, e], by simp [World.frozen?, hc]⟩
theorem Bytes8.set {w : World} {g len : Nat} (H : Bytes8 w g len) (k y : Nat) (v : Int) (hv : v = (y : Int)) (hy : y < 256) : Bytes8 (w.setCell ⟨g, k, none⟩ (.int .u8 v)) g len := by
  subst hv
  obtain ⟨cur, hc, h⟩ := H
  have hlt := lt_of_block hc
  have h' : w.heap[g] = .cells cur 5 (0, 0) := by simpa [Array.getElem?_eq_getElem hlt] using hc
  refine ⟨cur.setIfInBounds k (.int .u8 (y : Int)), ?_, fun j hj => ?_⟩
  · show (w.heap.modify g _)[g]? = _
    rw [Array.getElem?_eq_getElem (by simpa using hlt), Array.getElem_modify_self, h']
    rfl
  · obtain ⟨z, hz, e⟩ := h j hj
    by_cases hjk : k = j
    · subst hjk
      have : k < cur.size := by
        by_cases hs : k < cur.size
        · exact hs
        · rw [Array.getElem?_eq_none (by omega)] at e; cases e
      exact ⟨y, hy, by rw [Array.getElem?_setIfInBounds_self_of_lt this]⟩
    · exact ⟨z, hz, by rw [Array.getElem?_setIfInBounds_ne hjk]; exact e⟩
theorem Bytes8.chg {w w' : World} {g len : Nat} {S : Nat → Prop} (H : Bytes8 w g len) (c : Chg w w' S) (h : ¬ S g) : Bytes8 w' g len := by
  obtain ⟨cur, hc, hh⟩ := H
  exact ⟨cur, by rw [c.block g (lt_of_block hc) h]; exact hc, hh⟩
theorem Bytes8.of_own {w : World} {base g len c : Nat} {bs : List UInt8} (hl : bs.length = len) (hO : OwnB w base (.slice (some ⟨g, 0, none⟩) (len + 2) c) (bs ++ [77, 78])) : Bytes8 w g len := by
  rcases hO.2 with ⟨h, _⟩ | ⟨g', cap', cur, h, _, hg, _, _, _, ht⟩
  · cases h
  · injection h with h1 h2 h3
    injection h1 with h1
    injection h1 with h1
    subst h1
    refine ⟨cur, hg, fun j hj => ?_⟩
    have hj' : j < (bs ++ [77, 78]).length := by simp; omega
    refine ⟨((bs ++ [77, 78])[j]'hj').toNat, ((bs ++ [77, 78])[j]'hj').toNat_lt, ?_⟩
    have : (cur.toList.take (len + 2))[j]? = some (bv ((bs ++ [77, 78])[j]'hj')) := by
      have h2 : ((bs ++ [77, 78]).map bv)[j]? = some (bv ((bs ++ [77, 78])[j]'hj')) := by rw [List.getElem?_map, List.getElem?_eq_getElem hj']; rfl
      rw [← h2, ← ht]
      congr 1
      simp [hl]
    rw [List.getElem?_take_of_lt (by omega)] at this
    simpa using this
theorem Bytes8.of_bytes {w : World} {base g n c : Nat} {bs : List UInt8} (hl : bs.length = n) (hO : OwnB w base (.slice (some ⟨g, 0, none⟩) n c) bs) : Bytes8 w g n := by
  rcases hO.2 with ⟨h, _⟩ | ⟨g', cap', cur, h, _, hg, _, _, _, ht⟩
  · cases h
  · injection h with h1 h2 h3
    injection h1 with h1
    injection h1 with h1
    subst h1
    refine ⟨cur, hg, fun j hj => ?_⟩
    have hj' : j < bs.length := by omega
    refine ⟨bs[j].toNat, bs[j].toNat_lt, ?_⟩
    have h2 : (bs.map bv)[j]? = some (bv bs[j]) := by rw [List.getElem?_map, List.getElem?_eq_getElem hj']; rfl
    rw [← ht, List.getElem?_take_of_lt (by simp only [List.length_map]; omega)] at h2
    simpa using h2
end Go.Proofs.Ytaonchdpnllhpaa
