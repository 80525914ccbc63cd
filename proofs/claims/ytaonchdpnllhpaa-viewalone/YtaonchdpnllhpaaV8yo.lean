/- Layer 18: lists of truths that came in. -/
import Derived.Test.YtaonchdpnllhpaaMXB
import Derived.Test.YtaonchdpnllhpaaV8x
namespace Go.Proofs.Ytaonchdpnllhpaa
open Go.RowKit
theorem open_bools {H : Type} {enc : TypeId × Value → H} {W : World} {a0 : Option Addr} {len cap : Nat} {d0 : DataW H} {p0 : List MemPlace} (h : DataW.Trod enc Try.prog W 0 (fun _ => true) true 22 (.slice a0 len cap) d0 p0) : ∃ L : List Bool, L.length = len ∧ BoolsAt W a0 L := by
  obtain ⟨fuel, hf⟩ := h
  simp [Value.cells] at hf
  rcases Go.Deep.open_slice Try.underlying22 hf with ⟨hcs, hx⟩ | ⟨a, l, c, m, n, D, Pl, hcs, hb, hl, hm, hmm, hx, hr⟩
  · simp only [List.cons.injEq, and_true, Value.slice.injEq] at hcs
    obtain ⟨rfl, rfl, rfl⟩ := hcs
    exact ⟨[], rfl, fun j hj => by simp at hj⟩
  · simp only [List.cons.injEq, and_true, Value.slice.injEq] at hcs
    obtain ⟨rfl, rfl, rfl⟩ := hcs
    simp only [if_true] at hmm
    subst hmm
    have hadd : ∀ (b off k : Nat), (⟨b, off, none⟩ : Addr).add k = ⟨b, off + k, none⟩ := fun b off k => by unfold Addr.add; split <;> simp_all
    have each : ∀ i, i < len → ∃ x : Bool, W.cell? (a.add i) = some (.bool x) := by
      intro i hi
      obtain ⟨cs', h1, h2⟩ := hr i (by omega)
      rw [show Try.prog.cellsOf 4 = 1 by kernel_rfl] at h1
      obtain ⟨_, hlen, hcell⟩ := World.cells?_some h1
      match cs', hlen with
      | [v0], _ =>
        obtain ⟨n0, e0, _⟩ := DataW.trod_bool Try.underlying4 h2
        simp only [List.cons.injEq, and_true] at e0
        subst e0
        have := hcell 0 (by omega)
        rw [Go.Deep.add_add] at this
        exact ⟨n0, by simpa using this⟩
    obtain ⟨x, hx'⟩ := Go.Deep.choose_lt each
    refine ⟨(List.range len).map x, by simp, fun j hj => ?_⟩
    simp only [List.length_map, List.length_range] at hj
    obtain ⟨b, off, spot⟩ := a
    have hspot : spot = none := by
      have q := hx' 0 (by omega)
      simpa [Addr.add] using World.cell?_spot q
    subst hspot
    have q := hx' j hj
    rw [hadd] at q
    refine ⟨b, off, rfl, ?_, World.block_lt_of_cell? _ _ q⟩
    simp only [List.getElem_map, List.getElem_range]
    exact q
end Go.Proofs.Ytaonchdpnllhpaa
