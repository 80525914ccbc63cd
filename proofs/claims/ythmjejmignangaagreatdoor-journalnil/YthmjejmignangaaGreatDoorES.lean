/- Layer 15: what must come. -/
import Derived.Test.YthmjejmignangaaGreatDoorER
import Derived.Deep.RegionHeld3
namespace Go.Proofs.YthmjejmignangaaGreatDoor
open Go.RowKit
theorem made15 (W : World) (n : Nat) (hn : n ≤ 64) : ∃ W2, (Instr.makeSlice 29 (.int .i64 (n : Int)) (.int .i64 (n : Int))).run Tryz.prog W = .ok (.slice (some ⟨W.heap.size, 0, none⟩) n n) W2 ∧ (convert 29 9 (.slice (some ⟨W.heap.size, 0, none⟩) n n)).run Tryz.prog W2 = .ok (sv (List.replicate n 0)) W2 ∧ Below W.heap.size W W2 := by
  have hi : (Tryz.prog.info? 5).map (fun i => (i.zero, i.size, i.bytes)) = some (some (.int .u8 0), 1, 1) := by kernel_rfl
  obtain ⟨i0, hi, hz0, hz1, hz2⟩ := info_parts hi
  obtain ⟨W2, h1, h2, h3⟩ := run_make_full (w := W) W.heap.size 29 5 i0 (.int .u8 0) 1 Tryz.underlying29 hi hz0 hz1 .i64 .i64 n (by rw [hz2]; omega) (by unfold maxLen; omega) (Nat.le_refl _)
  refine ⟨W2, h1, ?_, (Below.refl _ W).grown h3 (Nat.le_refl _) (fun k hk => by cases hk)⟩
  have hcell : ∀ j, j < n → W2.cell? ⟨W.heap.size, j, none⟩ = some (.int .u8 0) := fun j hj => by
    rw [h2.cellAt j (by omega)]
    simp [madeCells, Value.cells, hj, Nat.mod_one]
  have := run_str (w := W2) (ao := some ⟨W.heap.size, 0, none⟩) (bs := List.replicate n 0) (.inr ⟨_, 0, rfl, fun j hj => by
    rw [Nat.zero_add, hcell j (by simpa using hj)]
    simp⟩) n
  rw [List.length_replicate] at this
  exact this
theorem sv_app (a b : Bt) : (⟨a.toArray⟩ : ByteArray) ++ (⟨b.toArray⟩ : ByteArray) = ⟨(a ++ b).toArray⟩ := by
  have : ∀ x y : ByteArray, x ++ y = ⟨x.data ++ y.data⟩ := fun x y => by
    apply ByteArray.ext
    simp
  rw [this]
  simp
set_option maxRecDepth 100000 in
theorem pad15_any (b : Bt) (w : World) (hb : b.length ≤ 64) : Calls Tryz.prog 41 #[sv b] w fun e w' => e = .returned (sv (padB b)) ∧ Below w.heap.size w w' := by
  obtain ⟨W2, h1, h2, h3⟩ := made15 w (64 - b.length) (by omega)
  have e : ((64 - b.length : Nat) : Int) = 64 - (b.length : Int) := by omega
  rw [e] at h1
  have HP : Hid (padB b = b ++ List.replicate (64 - b.length) 0) := hidb rfl
  have hlz : b.length + (List.replicate (64 - b.length) (0 : UInt8)).length ≤ 64 := by rw [List.length_replicate]; omega
  clear e
  generalize List.replicate (64 - b.length) (0 : UInt8) = z at *
  generalize hk : 64 - b.length = k at *
  clear hk
  go_enter Tryz.func41, Tryz.ntmps41
  go_wp2_with fail
  go_ret
  refine ⟨?_, h3⟩
  rw [HP.out]
  show Ending.returned (.string (_ ++ _)) = Ending.returned (.string ⟨_⟩)
  rw [sv_app]
def kD : Dk := crD (writeD (writeD (newD 10) [102] 0 [97]) [102] 1 [98]) [0, 1]
theorem k_plain : writeE (newD 10) [102] 0 [97] = 0 ∧ writeE (writeD (newD 10) [102] 0 [97]) [102] 1 [98] = 0 ∧ readL kD [102] = [fillS [], fillS [98]] ∧ readE kD [102] = 0 ∧ usedD kD = 2 := by
  decide +kernel
/-- A row of two that was read. -/
theorem row_cells2 {w : World} {base : Nat} {v : Value} {L : List Sec} (h : w.ownsRow base 76 2 v L.length (secCs L)) : ∃ a c, v = .slice a L.length c ∧ L.length ≤ c ∧ c ≤ maxLen ∧ ∀ k y, L[k]? = some y → ∃ q, a = some ⟨q, 0, none⟩ ∧ base ≤ q ∧ w.cell? ⟨q, k * 2, none⟩ = some (sv y.b) ∧ w.cell? ⟨q, k * 2 + 1, none⟩ = some (.bool y.bad) := by
  obtain ⟨a, c, e, h1, h2, h3⟩ := row_form h
  refine ⟨a, c, e, h1, h2, fun k y hk => ?_⟩
  have hkl := (List.getElem?_eq_some_iff.1 hk).1
  rcases h3 with ⟨_, x, _⟩ | ⟨q, x, x2, _, _⟩
  · omega
  · subst x
    rw [e] at h
    obtain ⟨z, z1, z2, z3, _, _⟩ := row_two h k hkl
    rw [z1] at hk
    injection hk with hk
    subst hk
    exact ⟨q, rfl, x2, z2, z3⟩
end Go.Proofs.YthmjejmignangaaGreatDoor
