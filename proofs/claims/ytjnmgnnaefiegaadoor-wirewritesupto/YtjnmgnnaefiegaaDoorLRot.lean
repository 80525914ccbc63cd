/- The law WireRot, walked. -/
import Derived.Test.YtjnmgnnaefiegaaDoorFA
import Derived.Test.YtjnmgnnaefiegaaDoorWH
namespace Go.Proofs.YtjnmgnnaefiegaaDoor
open Go.RowKit

theorem own_block {w : World} {base n c : Nat} {ao : Option Addr} {bs : List UInt8} (hO : OwnB w base (.slice ao n c) bs) (h0 : 0 < bs.length) : ∃ g cur, ao = some ⟨g, 0, none⟩ ∧ w.heap[g]? = some (.cells cur 5 (0, 0)) ∧ ∀ j (h : j < bs.length), cur[j]? = some (bv bs[j]) := by
  rcases hO.2 with ⟨h, he⟩ | ⟨g, cap', cur, h, _, hg, hle, _, _, ht⟩
  · rw [List.length_map] at he; omega
  · injection h with h1 h2 h3
    subst h1
    refine ⟨g, cur, rfl, hg, fun j hj => ?_⟩
    have h2 : (bs.map bv)[j]? = some (bv bs[j]) := by rw [List.getElem?_map, List.getElem?_eq_getElem hj]; rfl
    rw [← ht, List.getElem?_take] at h2
    split at h2
    · simpa using h2
    · cases h2
/-- A byte of one's own slice becomes another. -/
theorem own_set {w : World} {g : Nat} {cur : Array Value} {bs : List UInt8} (hg : w.heap[g]? = some (.cells cur 5 (0, 0))) (hc : ∀ j (h : j < bs.length), cur[j]? = some (bv bs[j])) (k : Nat) (hk : k < bs.length) (y : UInt8) :
    Bs (w.setCell ⟨g, k, none⟩ (.int .u8 (y.toNat : Int))) (some ⟨g, 0, none⟩) (bs.set k y) := by
  have hlt := lt_of_block hg
  have h' : w.heap[g] = .cells cur 5 (0, 0) := by simpa [Array.getElem?_eq_getElem hlt] using hg
  have hk' : k < cur.size := (Array.getElem?_eq_some_iff.1 (hc k hk)).1
  have hN : (w.setCell ⟨g, k, none⟩ (.int .u8 (y.toNat : Int))).heap[g]? = some (.cells (cur.setIfInBounds k (.int .u8 (y.toNat : Int))) 5 (0, 0)) := by
    show (w.heap.modify g _)[g]? = _
    rw [Array.getElem?_eq_getElem (by simpa using hlt), Array.getElem_modify_self, h']
    rfl
  refine .inr ⟨g, 0, rfl, fun j hj => ?_⟩
  rw [List.length_set] at hj
  rw [Nat.zero_add, cell_of_row _ _ j _ _ (0, 0) hN]
  by_cases hjk : k = j
  · subst hjk
    simp [hk']
  · rw [Array.getElem?_setIfInBounds_ne hjk, hc j hj, List.getElem_set_ne hjk]

theorem turn_in (k : Int) (n : Nat) (h0 : 0 < n) : ∃ j : Nat, j < n ∧ (k.tmod n + n).tmod n = j ∧ -(n : Int) < k.tmod n ∧ k.tmod n < n := by
  have hn : (0 : Int) < n := by omega
  have h1 : k.tmod n < n := Int.tmod_lt_of_pos k hn
  have h2 : -(n : Int) < k.tmod n := Int.lt_tmod_of_pos k hn
  have h3 : (k.tmod n + n).tmod n = (k.tmod n + n) % n := Int.tmod_eq_emod_of_nonneg (by omega)
  have h4 := Int.emod_nonneg (k.tmod n + n) (by omega : (n : Int) ≠ 0)
  have h5 := Int.emod_lt_of_pos (k.tmod n + n) hn
  exact ⟨((k.tmod n + n) % n).toNat, by omega, by rw [h3]; omega, h2, h1⟩

theorem turn_len (k : Int) (len : Nat) (h : len ≤ 1048576) : ∃ j : Nat, j < 8 + len ∧ (wrap64 (k.tmod ((len : Int) + 8) + ((len : Int) + 8))).tmod ((len : Int) + 8) = j := by
  obtain ⟨j, hj, e, h1, h2⟩ := turn_in k (8 + len) (by omega)
  rw [show ((8 + len : Nat) : Int) = (len : Int) + 8 by omega] at e h1 h2
  refine ⟨j, hj, ?_⟩
  rw [← e]
  congr 1
  unfold wrap64
  omega

theorem xor_ne (a x : UInt8) (h : x ≠ 0) : a ^^^ x ≠ a := by
  intro e
  apply h
  have h2 : a ^^^ (a ^^^ x) = a ^^^ a := by rw [e]
  rwa [← UInt8.xor_assoc, UInt8.xor_self, UInt8.zero_xor] at h2
theorem bits_xor8 (a x : UInt8) : bits .xor .u8 (a.toNat : Int) (x.toNat : Int) = (((a ^^^ x).toNat : Nat) : Int) := by
  rw [u8_xor_nat _ _ a.toNat_lt x.toNat_lt, UInt8.toNat_xor]

end Go.Proofs.YtjnmgnnaefiegaaDoor
