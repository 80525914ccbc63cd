/- Layer 18: lists of texts that came in. -/
import Derived.Test.YtaonchdpnllhpaaMXB
import Derived.Test.YtaonchdpnllhpaaLVA18
namespace Go.Proofs.Ytaonchdpnllhpaa
open Go.ChangeShapes Go.WideShapes Go.ChangeAt Go.RowKit
theorem open_texts18 {H : Type} {enc : TypeId × Value → H} {W : World} {a0 : Option Addr} {len cap : Nat} {d0 : DataW H} {p0 : List MemPlace} (h : DataW.Trod enc Try.prog W 0 (fun _ => true) true 44 (.slice a0 len cap) d0 p0) : ∃ L : List (List UInt8), L.length = len ∧ len ≤ cap ∧ TextsAt18 W a0 L := by
  obtain ⟨fuel, hf⟩ := h
  rcases open_strings Try.underlying44 Try.underlying9 (by kernel_rfl) hf with ⟨hcs, hx⟩ | ⟨x, l, c, zs, hcs, _, hl, hm, hz, hx, hcell, hwz⟩
  · simp [Value.cells] at hcs
    obtain ⟨rfl, rfl, rfl⟩ := hcs
    exact ⟨[], rfl, Nat.le_refl _, fun j hj => by simp at hj⟩
  · simp [Value.cells] at hcs
    obtain ⟨rfl, rfl, rfl⟩ := hcs
    simp only [if_true] at hz
    refine ⟨(zs.take len).map (·.data.toList), by simp; omega, hl, fun j hj => ?_⟩
    have hjl : j < len := by simp at hj; omega
    have hjz : j < zs.length := by omega
    obtain ⟨b, off, spot⟩ := x
    have hspot : spot = none := by simpa [Addr.add] using World.cell?_spot (hcell 0 (by omega))
    subst hspot
    have hadd : (⟨b, off, none⟩ : Addr).add j = ⟨b, off + j, none⟩ := by unfold Addr.add; split <;> simp_all
    have q := hcell j hjz
    rw [hadd] at q
    refine ⟨b, off, rfl, ?_, World.block_lt_of_cell? _ _ q⟩
    rw [q]
    simp [List.getD, List.getElem?_eq_getElem hjz, List.getElem_take]
end Go.Proofs.Ytaonchdpnllhpaa
