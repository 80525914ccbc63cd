/- A region that draws its order, also with guards: by what each of its operations leaves. -/
import Derived.Test.YtghhhlbpolhkhaaRG
namespace Go.Proofs.Ytghhhlbpolhkhaa
open Go.RowKit
section
variable {P : Program} {ops : Array Oper} {Q : Exit → Act → World → Prop}
/-- What an operation owes. -/
def OwesP (P : Program) (ops : Array Oper) (Q : Exit → Act → World → Prop) (G : Array Bool → World → Prop) (Pr : Array Bool → Nat → Value → World → Prop) (i : Nat) (o : Oper) (listed : Array Bool) (a : Act) (W : World) : Prop :=
  wpOp P ops Q i (fun a' W' => ∃ v, a' = a.put o.dst v ∧ Pr (listed.setIfInBounds i true) i v W' ∧ G (listed.setIfInBounds i true) W' ∧ ∀ j u, listed.getD j false = true → Pr listed j u W → Pr (listed.setIfInBounds i true) j u W') a W
/-- **The law.** -/
theorem wp_region_eachg {id : Nat} {a0 : Act} {w : World} (hm : P.follows .mixedOrders = true) (n : Nat) (hn : a0.tmps.size = n) (hB : apartG .any ops n = true) (G : Array Bool → World → Prop) (Pr : Array Bool → Nat → Value → World → Prop)
    (h0 : G (Array.replicate ops.size false) w.drew)
    (hop : ∀ (i : Nat) (o : Oper), ops[i]? = some o → ∀ (listed : Array Bool) (a : Act) (W : World), EachG ops a0 G Pr listed a W → listed.getD i true = false → (∀ e ∈ o.after, Region.binds .any e = true → listed.getD e.on false = true) → OwesP P ops Q G Pr i o listed a W)
    (hend : ∀ a W, Each ops a0 G Pr (Array.replicate ops.size true) a W → Q .normal a W) : (Code.region id ops true).wp P Q a0 w := by
  refine wp_region_any hm (wpAny_inv (EachG ops a0 G Pr) ?_ ?_ _ _ _ _ ?_ ⟨each_start h0, fun _ _ _ _ _ _ => rfl⟩)
  · intro listed a W i hI hi
    obtain ⟨h1, o, ho, haf⟩ := mem_ready.1 hi
    refine wpOp_mono ?_ (hop i o ho listed a W hI h1 haf)
    rintro a' W' ⟨v, rfl, x1, x2, x3⟩
    refine ⟨each_put n hn hB G Pr listed a W i o ho hI.toEach haf v W' x1 x2 x3, fun j oj t hj hl hd => ?_⟩
    rw [getD_set] at hl
    have hil := getD_lt h1
    have hji : i ≠ j := fun e => by
      subst e
      rw [if_pos ⟨rfl, hil⟩] at hl
      cases hl
    rw [if_neg (fun h => hji h.1)] at hl
    rw [← hI.old j oj t hj hl hd]
    cases hdi : o.dst with
    | none => rfl
    | some d =>
      have hne : d ≠ t := fun e => hji ((apartG_spec hB i o ho).2.2 j oj t hj (by rw [hdi, e]) hd)
      simp [Act.put, hne]
  · intro listed a W hI hr
    have hall := all_listed (fun i o ho => (apartG_spec hB i o ho).2.1) hr hI.size
    have : listed = Array.replicate ops.size true := by
      apply Array.ext
      · simp [hI.size]
      · intro i h1 h2
        have := hall i (by rw [← hI.size]; exact h1)
        rw [Array.getD_eq_getD_getElem?, Array.getElem?_eq_getElem h1] at this
        simpa using this
    rw [this] at hI
    exact hend a W hI.toEach
  · unfold leftIn
    exact Nat.le_trans (List.length_filter_le _ _) (by simp)
theorem owesP_value {G : Array Bool → World → Prop} {Pr : Array Bool → Nat → Value → World → Prop} {i : Nat} {o : Oper} {listed : Array Bool} {a : Act} {W W' : World} {v : Value} (ho : ops[i]? = some o) (hw : Region.wanted o (yielded ops a.tmps) = true) (hr : (execOp a.eval o).run P W = .ok (.value v) W')
    (hPr : Pr (listed.setIfInBounds i true) i v W') (hG : G (listed.setIfInBounds i true) W') (hst : ∀ j u, listed.getD j false = true → Pr listed j u W → Pr (listed.setIfInBounds i true) j u W') : OwesP P ops Q G Pr i o listed a W := by
  unfold OwesP wpOp
  rw [ho]
  simp only [hw, if_true]
  exact .inl (op_value hr ⟨v, rfl, hPr, hG, hst⟩)
theorem owesP_none {G : Array Bool → World → Prop} {Pr : Array Bool → Nat → Value → World → Prop} {i : Nat} {o : Oper} {listed : Array Bool} {a : Act} {W : World} (ho : ops[i]? = some o) (hw : Region.wanted o (yielded ops a.tmps) = false)
    (hPr : Pr (listed.setIfInBounds i true) i undef W) (hG : G (listed.setIfInBounds i true) W) (hst : ∀ j u, listed.getD j false = true → Pr listed j u W → Pr (listed.setIfInBounds i true) j u W) : OwesP P ops Q G Pr i o listed a W := by
  unfold OwesP wpOp
  rw [ho]
  simp only [hw, Bool.false_eq_true, if_false]
  exact ⟨undef, rfl, hPr, hG, hst⟩
theorem owesP_call {G : Array Bool → World → Prop} {Pr : Array Bool → Nat → Value → World → Prop} {i : Nat} {o : Oper} {listed : Array Bool} {a : Act} {W : World} {f : FuncId} {args : Array Value} {R : Ending → World → Prop} (ho : ops[i]? = some o) (hw : Region.wanted o (yielded ops a.tmps) = true) (hr : (execOp a.eval o).run P W = .ok (.enter f args) W)
    (hR : Calls P f args W R) (hRr : ∀ e W', R e W' → ∃ v, e = .returned v ∧ Pr (listed.setIfInBounds i true) i v W' ∧ G (listed.setIfInBounds i true) W' ∧ ∀ j u, listed.getD j false = true → Pr listed j u W → Pr (listed.setIfInBounds i true) j u W') : OwesP P ops Q G Pr i o listed a W := by
  unfold OwesP wpOp
  rw [ho]
  simp only [hw, if_true]
  refine .inl ?_
  unfold Oper.wp
  rw [hr]
  refine hR.mono fun e W' h => ?_
  obtain ⟨v, rfl, x1, x2, x3⟩ := hRr e W' h
  exact ⟨v, rfl, x1, x2, x3⟩
end
end Go.Proofs.Ytghhhlbpolhkhaa
