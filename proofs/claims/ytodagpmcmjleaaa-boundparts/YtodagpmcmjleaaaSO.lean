/- How instructions and numbers that came in are read. -/
import Derived.Test.YtodagpmcmjleaaaCO
namespace Go.Proofs.Ytodagpmcmjleaaa
set_option maxRecDepth 100000
open Go.ChangeShapes Go.WideShapes Go.ChangeAt Go.RowKit
theorem open_insl {H : Type} {enc : TypeId × Value → H} {w : World} {a0 : Option Addr} {len cap : Nat} {d0 : DataW H} {p0 : List MemPlace} (h : DataW.Trod enc Try.prog w 0 (fun _ => true) true 22 (.slice a0 len cap) d0 p0)
    {ts : List TypeId} {ds : List (DataW H)} (hsz : (DataW.weightsEach Try.prog ts ds).all (· ≤ reachBytes) = true) {j : Nat} (ht : ts[j]? = some 22) (hd : ds[j]? = some d0) :
    ∃ is : List (Int × Int), is.length = len ∧ IsAt w.cell? a0 is ∧ len ≤ 8796093022208 := by
  have hS : Sz (Rows.uptoBulk d0) Try.prog 22 d0 := ⟨fun k hk => by simpa using List.all_eq_true.1 hsz k (weightsEach_mem ht hd hk), Nat.le_refl _⟩
  obtain ⟨fuel, hf⟩ := h
  simp [Value.cells] at hf
  obtain ⟨is, ⟨a, c, e, hI⟩, hl, _⟩ := open_is hf hS
  cases e
  exact ⟨is, rfl, hI, hl⟩
theorem open_intl {H : Type} {enc : TypeId × Value → H} {w : World} {a0 : Option Addr} {len cap : Nat} {d0 : DataW H} {p0 : List MemPlace} (h : DataW.Trod enc Try.prog w 0 (fun _ => true) true 23 (.slice a0 len cap) d0 p0)
    {ts : List TypeId} {ds : List (DataW H)} (hsz : (DataW.weightsEach Try.prog ts ds).all (· ≤ reachBytes) = true) {j : Nat} (ht : ts[j]? = some 23) (hd : ds[j]? = some d0) :
    ∃ ns : List Int, ns.length = len ∧ NsAt w.cell? a0 ns ∧ len ≤ 17592186044416 := by
  have hS : Sz (Rows.uptoBulk d0) Try.prog 23 d0 := ⟨fun k hk => by simpa using List.all_eq_true.1 hsz k (weightsEach_mem ht hd hk), Nat.le_refl _⟩
  obtain ⟨fuel, hf⟩ := h
  simp [Value.cells] at hf
  obtain ⟨is, ⟨a, c, e, hI⟩, hl, _⟩ := open_ns hf hS
  cases e
  exact ⟨is, rfl, hI, hl⟩
end Go.Proofs.Ytodagpmcmjleaaa
