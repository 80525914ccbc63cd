/- How slices of ints that came in are read. -/
import Derived.Test.YtdmmlgajgpmpbaaDoorVVals
import Derived.Test.YtdmmlgajgpmpbaaDoorOF
namespace Go.Proofs.YtdmmlgajgpmpbaaDoor
set_option maxRecDepth 100000
open Go.ChangeShapes Go.WideShapes Go.ChangeAt Go.RowKit
/-- A slice of ints that came in. -/
theorem open_nums {H : Type} {enc : TypeId × Value → H} {W : World} {a0 : Option Addr} {len cap : Nat} {d0 : DataW H} {p0 : List MemPlace} (h : DataW.Trod enc Tryd.prog W 0 (fun _ => true) true 23 (.slice a0 len cap) d0 p0) :
    ∃ ns : List Int, ns.length = len ∧ len ≤ cap ∧ IntsAt W a0 ns ∧ (∀ j (h : j < ns.length), -9223372036854775808 ≤ ns[j] ∧ ns[j] ≤ 9223372036854775807) ∧ ((d0 = .nil ∧ cap = 0) ∨ ∃ el sp, d0 = .slice el sp ∧ el.length + sp.length = cap) := by
  obtain ⟨fuel, hf⟩ := h
  rcases open_ints Tryd.underlying23 Tryd.underlying3 (by kernel_rfl) hf with ⟨hcs, hx⟩ | ⟨x, l, c, zs, hcs, _, hl, hm, hz, hx, hcell, hwz⟩
  · simp [Value.cells] at hcs
    obtain ⟨rfl, rfl, rfl⟩ := hcs
    simp only [Prod.mk.injEq] at hx
    exact ⟨[], rfl, Nat.le_refl _, .inl rfl, (fun j h => by simp at h), .inl ⟨hx.1, rfl⟩⟩
  · simp [Value.cells] at hcs
    obtain ⟨rfl, rfl, rfl⟩ := hcs
    simp only [Prod.mk.injEq] at hx
    simp only [if_true] at hz
    refine ⟨zs.take len, by simp; omega, hl, ?_, fun j hj => ?_, .inr ⟨_, _, hx.1, by simp [lits]; omega⟩⟩
    · by_cases h0 : len = 0
      · left; subst h0; rfl
      · obtain ⟨b, off, rfl, hc⟩ := ints_at hcell (by omega)
        refine .inr ⟨b, off, rfl, fun j hj => ?_⟩
        have hjl : j < len := by simp at hj; omega
        have hjz : j < zs.length := by omega
        rw [hc j hjz]
        simp only [List.getD, List.getElem?_eq_getElem hjz, Option.getD_some, List.getElem_take]
    · have hjz : j < zs.length := by simp at hj; omega
      rw [List.getElem_take]
      exact int_wf (hwz zs[j] (List.getElem_mem hjz))
theorem bytes_int : Tryd.prog.bytesOf 3 = 8 := by kernel_rfl
theorem nums_size {H : Type} {ts : List TypeId} {ds : List (DataW H)} (hsz : (DataW.weightsEach Tryd.prog ts ds).all (· ≤ reachBytes) = true) {j cap : Nat} {d0 : DataW H} (ht : ts[j]? = some 23) (hd : ds[j]? = some d0)
    (h : (d0 = .nil ∧ cap = 0) ∨ ∃ el sp, d0 = .slice el sp ∧ el.length + sp.length = cap) : cap * 8 ≤ 140737488351232 := by
  rcases h with ⟨_, rfl⟩ | ⟨el, sp, rfl, rfl⟩
  · decide
  · have := sized_slice hsz ht hd Tryd.underlying23
    rw [bytes_int] at this
    exact this
end Go.Proofs.YtdmmlgajgpmpbaaDoor
