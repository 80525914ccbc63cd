/- The check 'knows' that every law of layer 1 ends with answers true. -/
import Derived.Test.YtaonchdpnllhpaaWA
import Derived.Test.YtaonchdpnllhpaaWG
namespace Go.Proofs.Ytaonchdpnllhpaa
open Go.RowKit

theorem run_str {w : World} {ao : Option Addr} {bs : List UInt8} (h : Bs w ao bs) (cap : Nat) : (convert 102 9 (.slice ao bs.length cap)).run Try.prog w = .ok (.string ⟨bs.toArray⟩) w := by
  have nums : ∀ l : List UInt8, strOfNums (l.map fun b => (b.toNat : Int)) = ⟨l.toArray⟩ := fun l => by
    unfold strOfNums
    rw [List.map_map]
    congr 2
    conv => rhs; rw [← List.map_id l]
    apply List.map_congr_left
    intro b _
    simp
  rcases h with rfl | ⟨b, off, rfl, hc⟩
  · cases ao with
    | none => exact run_convert_bytes_nil w 102 5 Try.underlying102 Try.underlying5 0 cap 9 Try.underlying9
    | some a =>
      rw [run_convert_bytes_string w 102 9 5 _ _ cap Try.underlying102 Try.underlying5 Try.underlying9]
      exact (run_bytesToString w a 0 cap [] (by simp [loadCells, loadCellsFrom])).trans rfl
  · rw [run_convert_bytes_arg w 102 5 Try.underlying102 Try.underlying5 b off bs.length cap (bs.map fun b => (b.toNat : Int)) (by simp) (fun i hi => by rw [hc i hi]; simp [List.getD, hi]) 9 Try.underlying9, nums]

theorem Own.chg {w w' : World} {base : Nat} {e : TypeId} {v : Value} {xs : List Value} {S : Nat → Prop} (h : Own w base e v xs) (k : Chg w w' S) (hv : ∀ g, v.ownBlock = some g → ¬ S g) : Own w' base e v xs := by
  refine ⟨h.1, ?_⟩
  rcases h.2 with h2 | ⟨g, cap, cur, rfl, hg, hh, r⟩
  · exact .inl h2
  · exact .inr ⟨g, cap, cur, rfl, hg, by rw [k.block g (lt_of_block hh) (hv g rfl)]; exact hh, r⟩
theorem WStep.below {h : Nat} {w w' : World} {v v' : Value} (s : WStep h w v w' v') {B : Nat} (hB : B ≤ w.heap.size) (hh : B ≤ h) (hv : ∀ k, v.ownBlock = some k → B ≤ k) : Below B w w' :=
  s.1.below hB (fun i hi => by rcases hi with e | e
                               · omega
                               · exact hv i e)

theorem firstOf_empty : firstOf (frameOf []) = some [] := by decide +kernel
theorem framesOf_empty : framesOf (frameOf []) = ([[]], 8) := by
  rw [framesOf_some firstOf_empty]
  have e : (frameOf []).drop (8 + ([] : List UInt8).length) = [] := List.drop_eq_nil_of_le (by simp [frameOf, be_length])
  rw [e, framesOf_none (by rfl)]
  rfl

end Go.Proofs.Ytaonchdpnllhpaa
