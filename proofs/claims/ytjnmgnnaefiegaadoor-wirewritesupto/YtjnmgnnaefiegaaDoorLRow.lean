/- The law WireRow, walked. -/
import Derived.Test.YtjnmgnnaefiegaaDoorLRot
import Derived.Deep.RegionLaw
import Derived.Shelf.Abstract
namespace Go.Proofs.YtjnmgnnaefiegaaDoor
open Go.RowKit

/-- At ao there lie slices of bytes. -/
def Bss (w : World) (ao : Option Addr) (L : List (List UInt8)) : Prop :=
  L = [] ∨ ∃ b off, ao = some ⟨b, off, none⟩ ∧ ∀ j (h : j < L.length), ∃ aj cj, w.cell? ⟨b, off + j, none⟩ = some (.slice aj L[j].length cj) ∧ Bs w aj L[j]
theorem Bss.keep {w w' : World} {ao : Option Addr} {L : List (List UInt8)} (h : Bss w ao L) (hk : ∀ a v, w.cell? a = some v → w'.cell? a = some v) : Bss w' ao L := by
  rcases h with h | ⟨b, off, h, hc⟩
  · exact .inl h
  · refine .inr ⟨b, off, h, fun j hj => ?_⟩
    obtain ⟨aj, cj, h1, h2⟩ := hc j hj
    exact ⟨aj, cj, hk _ _ h1, h2.keep hk⟩
def flat (L : List (List UInt8)) : List UInt8 := L.flatMap frameOf
theorem flat_snoc (L : List (List UInt8)) (k : Nat) (h : k < L.length) : flat (L.take (k + 1)) = flat (L.take k) ++ frameOf L[k] := by
  unfold flat
  rw [List.take_succ_eq_append_getElem h, List.flatMap_append, List.flatMap_singleton]

theorem frames_eq (ao : Option Addr) (len cap : Nat) (bs : List UInt8) (w : World) (L : List (List UInt8)) (n : Nat) (hF : framesOf bs = (L, n)) (hl : bs.length = len) (hm : 3 * len ≤ 140737488355328) (hcap : len ≤ cap) (hcm : cap ≤ maxLen) (hb : Bs w ao bs) (ht : Tab w) :
    Calls Tryd.prog 38 #[.slice ao len cap] w fun e w' => ∃ v gs, e = .returned (.tuple #[v, .int .i64 (n : Nat)]) ∧ Rows2 w' w.heap.size v gs L ∧ Below w.heap.size w w' := by
  have := frames_any ao len cap bs w hl hm hcap hcm hb ht
  rw [hF] at this
  exact this
/-- Each slice of such a row. -/
theorem Rows2.at {w : World} {base : Nat} {v : Value} {gs : List Nat} {L : List (List UInt8)} (h : Rows2 w base v gs L) : ∃ ao cap, v = .slice ao L.length cap ∧ ∀ k (hk : k < L.length), ∃ g g', ao = some ⟨g, 0, none⟩ ∧ w.cell? ⟨g, k, none⟩ = some (.slice (some ⟨g', 0, none⟩) L[k].length L[k].length) ∧ Bs w (some ⟨g', 0, none⟩) L[k] := by
  obtain ⟨ao, cap, hv, h1, h2, h3, h4, h5⟩ := Own.form h.row
  have hz : (List.zipWith (fun g (b : List UInt8) => sl g b.length) gs L).length = L.length := by simp [h.len]
  rw [hz] at hv h1
  refine ⟨ao, cap, hv, fun k hk => ?_⟩
  have hkg : k < gs.length := by rw [h.len]; exact hk
  cases ao with
  | none => have := h4 rfl; omega
  | some a =>
    obtain ⟨g, rfl, hc⟩ := h5 a rfl
    refine ⟨g, gs[k], rfl, ?_, ?_⟩
    · exact hc k _ (by rw [List.getElem?_eq_getElem (by rw [hz]; exact hk), List.getElem_zipWith]; rfl)
    · obtain ⟨ao', cap', hv', _, _, hB, _, _⟩ := Own.bs (h.each k hk hkg)
      unfold sl at hv'
      simp only [Value.slice.injEq] at hv'
      rw [hv'.1]
      exact hB
/-- A call of a Go function as one step of a region that draws. -/
theorem step_call {P : Program} {ops : Array Oper} {o : Oper} {a : Act} {w : World} {K : Act → World → Prop} {Q : Exit → Act → World → Prop} {X : Prop} (hgd : o.guard = none) (f : FuncId) (xs : Array Operand) (ts : Array TypeId)
    (ho : o.op = .call { callee := .value (.func f), args := xs, argTypes := ts }) (eg : ∀ args w, (callFunc f args).run P w = .ok (.enter f args) w) (args : Array Value) (hargs0 : xs.toList.map a.eval = args.toList) (post : Ending → World → Prop)
    (h : Calls P f args w post) (hp : ∀ e w', post e w' → ∃ v, e = .returned v ∧ K (a.put o.dst v) w') : if Region.wanted o (yielded ops a.tmps) = true then Oper.wp P o a w K Q else X := by
  have hw : Region.wanted o (yielded ops a.tmps) = true := by simp [Region.wanted, hgd]
  have hargs : xs.map a.eval = args := by
    apply Array.toList_inj.1
    rw [Array.toList_map]
    exact hargs0
  rw [if_pos hw]
  unfold Oper.wp
  have e1 : (execOp a.eval o).run P w = .ok (.enter f args) w := by
    unfold execOp
    simp [ho, resolve, invoke, go_sem, eg, hargs]
  rw [e1]
  refine h.mono fun e w' hpost => ?_
  obtain ⟨v, rfl, hk⟩ := hp e w' hpost
  exact hk

end Go.Proofs.YtjnmgnnaefiegaaDoor
