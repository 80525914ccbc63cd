/- A step law for a call of a Go function in a region that draws its order. -/
import Derived.Deep.RegionLaw
import Derived.Shelf.Abstract
import Derived.Test.YtaonchdpnllhpaaPlain
namespace Go.Proofs.Ytaonchdpnllhpaa
open Go.RowKit
theorem step_call2 {P : Program} {ops : Array Oper} {o : Oper} {a : Act} {w : World} {K : Act → World → Prop} {Q : Exit → Act → World → Prop} {X : Prop} (hgd : o.guard = none) (f : FuncId) (xs : Array Operand) (ts : Array TypeId)
    (ho : o.op = .call { callee := .value (.func f), args := xs, argTypes := ts }) (eg : ∀ args w, (callFunc f args).run P w = .ok (.enter f args) w) (args : Array Value) (hargs0 : xs.toList.map a.eval = args.toList) (post : Ending → World → Prop)
    (h : Calls P f args w post) (hp : ∀ e w', post e w' → ∃ v, e = .returned v ∧ K (a.put o.dst v) w') : if Region.wanted o (yielded ops a.tmps) = true then Oper.wp P o a w K Q else X := by
  have hw : Region.wanted o (yielded ops a.tmps) = true := by simp [Region.wanted, hgd]
  have hargs : xs.map a.eval = args := by
    apply Array.toList_inj.1
    rw [Array.toList_map]
    exact hargs0
  rw [if_pos hw]
  unfold Oper.wp
  have e1 : (execOp a.eval o).run P w = .ok (.enter f args) w := by
    unfold execOp
    simp [ho, resolve, invoke, go_sem, eg, hargs]
  rw [e1]
  refine h.mono fun e w' hpost => ?_
  obtain ⟨v, rfl, hk⟩ := hp e w' hpost
  exact hk

end Go.Proofs.Ytaonchdpnllhpaa
