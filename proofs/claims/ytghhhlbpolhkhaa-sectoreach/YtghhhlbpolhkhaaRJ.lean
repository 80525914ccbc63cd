/- A region that draws its order, within a round of a loop over a function: by what each of its operations leaves, whatever order is drawn. -/
import Derived.Test.YtghhhlbpolhkhaaRI
import Derived.RangeFuncNested
import Derived.RangeFuncBound
import Derived.RangeFuncCalls
import Derived.RangeFuncLeaves
import Derived.WalkKit
import Derived.OrdersIn
namespace Go.Proofs.Ytghhhlbpolhkhaa
open Go.RowKit
section
variable {P : Program} {ops : Array Oper} {Q : Exit → Act → World → Prop} {md : Region.Mode}
theorem wpAnyIn_inv {F : Fence} {n : Nat} (Inv : Array Bool → Act → World → Prop)
    (hstep : ∀ listed a w i, Inv listed a w → i ∈ Region.ready md ops listed → wpOpIn F n P ops Q i (fun a' w' => Inv (listed.setIfInBounds i true) a' w') a w)
    (hend : ∀ listed a w, Inv listed a w → Region.ready md ops listed = [] → Q .normal a w) :
    ∀ fuel listed a w, leftIn ops.size listed ≤ fuel → Inv listed a w → wpAnyIn F n P md ops Q fuel listed a w
  | 0, listed, a, w, hf, h => by
    have hr : Region.ready md ops listed = [] := by
      cases hr : Region.ready md ops listed with
      | nil => rfl
      | cons i r =>
        have hi : i ∈ Region.ready md ops listed := by rw [hr]; simp
        obtain ⟨h1, o, ho, _⟩ := mem_ready.1 hi
        have : i ∈ (List.range ops.size).filter fun i => !listed.getD i true := List.mem_filter.2 ⟨List.mem_range.2 (Array.getElem?_eq_some_iff.1 ho).1, by rw [h1]; rfl⟩
        have := List.length_pos_of_mem this
        unfold leftIn at hf
        omega
    exact ⟨hr, hend _ _ _ h hr⟩
  | fuel + 1, listed, a, w, hf, h => by
    refine ⟨hend _ _ _ h, fun i hi => ?_⟩
    obtain ⟨h1, o, ho, _⟩ := mem_ready.1 hi
    have := left_set (Array.getElem?_eq_some_iff.1 ho).1 h1
    exact wpOpIn_mono (fun a' w' h' => wpAnyIn_inv Inv hstep hend fuel _ a' w' (by omega) h') (hstep _ _ _ i h hi)
/-- An operation that neither calls nor defers. -/
theorem op_round {l n : Nat} {o : Oper} {a : Act} {w : World} {K : Act → World → Prop} (hd : ∀ c, o.op ≠ .defer c) (h : o.wp P a w K Q) : o.wpIn (Fence.wide.inRound l) n P a w K Q := by
  refine ⟨fun f _ => trivial, ?_⟩
  rw [Oper.semAt_eq _ _ _ hd]
  unfold Oper.wp at h
  generalize (execOp a.eval o).run P w = r at h
  cases r with
  | ok x w' =>
    cases x <;> simp only [Oper.upon, Oper.uponIn] at h ⊢ <;> first
      | exact h
      | exact h.elim
      | (refine ⟨fun e => (by cases e), CallsIn.inRound l (callsIn_wide.2 ?_)⟩; refine h.mono ?_; intro e w'' he; cases e <;> exact he)
      | (refine ⟨fun e => (by cases e), fun c cs _ => ?_⟩; obtain ⟨v, w', r, s⟩ := h c cs; exact ⟨v, w', r, stepsIn_wide.2 s⟩)
  | halt x w' => cases x <;> simp only [Oper.upon, Oper.uponIn] at h ⊢ <;> first | exact h | exact h.elim
def nodefB (ops : Array Oper) : Bool := ops.all fun o => match o.op with
  | .defer _ => false
  | _ => true
theorem nodef {i : Nat} {o : Oper} (h : nodefB ops = true) (ho : ops[i]? = some o) : ∀ c, o.op ≠ .defer c := fun c e => by
  have := Array.all_eq_true'.1 h o (Array.mem_of_getElem? ho)
  rw [e] at this
  cases this
/-- **The law, in a round.** -/
theorem wpIn_region_each {l m : Nat} {id : Nat} {a0 : Act} {w : World} (hm : P.follows .mixedOrders = true) (n : Nat) (hn : a0.tmps.size = n) (hB : apartB .any ops n = true) (hD : nodefB ops = true) (G : Array Bool → World → Prop) (Pr : Array Bool → Nat → Value → World → Prop)
    (h0 : G (Array.replicate ops.size false) w.drew)
    (hop : ∀ (i : Nat) (o : Oper), ops[i]? = some o → ∀ (listed : Array Bool) (a : Act) (W : World), Each ops a0 G Pr listed a W → listed.getD i true = false → (∀ e ∈ o.after, Region.binds .any e = true → listed.getD e.on false = true) →
      o.wp P a W (fun a' W' => ∃ v, a' = a.put o.dst v ∧ Pr (listed.setIfInBounds i true) i v W' ∧ G (listed.setIfInBounds i true) W' ∧ ∀ j u, listed.getD j false = true → Pr listed j u W → Pr (listed.setIfInBounds i true) j u W') Q)
    (hend : ∀ a W, Each ops a0 G Pr (Array.replicate ops.size true) a W → Q .normal a W) : (Code.region id ops true).wpIn (Fence.wide.inRound l) m P Q a0 w := by
  refine wpIn_region_any hm (wpAnyIn_inv (Each ops a0 G Pr) ?_ ?_ _ _ _ _ ?_ (each_start h0))
  · intro listed a W i hI hi
    obtain ⟨o, ho, hw, h⟩ := each_step n hn hB G Pr hop listed a W i hI hi
    unfold wpOpIn
    rw [ho]
    simp only [hw, if_true]
    exact op_round (nodef hD ho) h
  · intro listed a W hI hr
    exact hend a W (each_end n hB hI hr)
  · unfold leftIn
    exact Nat.le_trans (List.length_filter_le _ _) (by simp)
/-- How far the writers have come: how many of them are listed. -/
def stageOf (ws : List Nat) (listed : Array Bool) : Nat := (ws.filter fun i => listed.getD i false).length
/-- A region whose operations come to the same values whatever order is drawn, the world being told by how many of its writers have come up. -/
structure Det (P : Program) (ops : Array Oper) (a0 : Act) (vals : Nat → Value) (Wd : Nat → World) (stage : Array Bool → Nat) : Prop where
  run : ∀ (i : Nat) (o : Oper), ops[i]? = some o → ∀ (listed : Array Bool) (a : Act), listed.getD i true = false → (∀ e ∈ o.after, Region.binds .any e = true → listed.getD e.on false = true) →
    (∀ (i : Nat) (o : Oper), ops[i]? = some o → listed.getD i false = true → ∀ e ∈ o.after, Region.binds .any e = true → listed.getD e.on false = true) →
    (∀ t : Nat, (∀ (i : Nat) (o : Oper), ops[i]? = some o → o.dst ≠ some t) → a.tmps[t]?.getD undef = a0.tmps[t]?.getD undef) →
    (∀ (j : Nat) (o : Oper) (t : Nat), ops[j]? = some o → listed.getD j false = true → o.dst = some t → a.tmps[t]?.getD undef = vals j) →
    ((execOp a.eval o).run P (Wd (stage listed)) = .ok (.value (vals i)) (Wd (stage (listed.setIfInBounds i true)))) ∨ ((execOp a.eval o).run P (Wd (stage listed)) = .ok .skip (Wd (stage (listed.setIfInBounds i true))) ∧ vals i = undef)
theorem Det.hop {a0 : Act} {vals : Nat → Value} {Wd : Nat → World} {stage : Array Bool → Nat} (D : Det P ops a0 vals Wd stage) : ∀ (i : Nat) (o : Oper), ops[i]? = some o → ∀ (listed : Array Bool) (a : Act) (W : World), Each ops a0 (fun listed W => W = Wd (stage listed)) (fun _ i v _ => v = vals i) listed a W → listed.getD i true = false → (∀ e ∈ o.after, Region.binds .any e = true → listed.getD e.on false = true) →
      o.wp P a W (fun a' W' => ∃ v, a' = a.put o.dst v ∧ v = vals i ∧ W' = Wd (stage (listed.setIfInBounds i true)) ∧ ∀ (j : Nat) (u : Value), listed.getD j false = true → u = vals j → u = vals j) Q := by
  intro i o ho listed a W hE hn haf
  obtain rfl := hE.glob
  unfold Oper.wp
  rcases D.run i o ho listed a hn haf hE.closed hE.rest hE.vals with h | ⟨h, hv⟩
  · rw [h]
    exact ⟨_, rfl, rfl, rfl, fun _ _ _ h => h⟩
  · rw [h]
    exact ⟨_, rfl, hv.symm, rfl, fun _ _ _ h => h⟩
theorem wpIn_region_det {l m : Nat} {id : Nat} {a0 : Act} {w : World} (hm : P.follows .mixedOrders = true) (n : Nat) (hn : a0.tmps.size = n) (hB : apartB .any ops n = true) (hD : nodefB ops = true) {vals : Nat → Value} {Wd : Nat → World} {stage : Array Bool → Nat} (D : Det P ops a0 vals Wd stage)
    (h0 : Wd (stage (Array.replicate ops.size false)) = w.drew)
    (hend : ∀ a, a.tmps.size = n → a.defers = a0.defers → (∀ t : Nat, (∀ (i : Nat) (o : Oper), ops[i]? = some o → o.dst ≠ some t) → a.tmps[t]?.getD undef = a0.tmps[t]?.getD undef) → (∀ (j : Nat) (o : Oper) (t : Nat), ops[j]? = some o → o.dst = some t → a.tmps[t]?.getD undef = vals j) → Q .normal a (Wd (stage (Array.replicate ops.size true)))) : (Code.region id ops true).wpIn (Fence.wide.inRound l) m P Q a0 w := by
  refine wpIn_region_each hm n hn hB hD (fun listed W => W = Wd (stage listed)) (fun _ i v _ => v = vals i) h0.symm D.hop ?_
  intro a W hE
  obtain rfl := hE.glob
  exact hend a (hE.tsize.trans hn) hE.defers hE.rest fun j o t ho hd => hE.vals j o t ho (by
    rw [Array.getD_eq_getD_getElem?, Array.getElem?_replicate, if_pos (Array.getElem?_eq_some_iff.1 ho).1]
    rfl) hd
theorem wp_region_det {id : Nat} {a0 : Act} {w : World} (hm : P.follows .mixedOrders = true) (n : Nat) (hn : a0.tmps.size = n) (hB : apartB .any ops n = true) {vals : Nat → Value} {Wd : Nat → World} {stage : Array Bool → Nat} (D : Det P ops a0 vals Wd stage)
    (h0 : Wd (stage (Array.replicate ops.size false)) = w.drew)
    (hend : ∀ a, a.tmps.size = n → a.defers = a0.defers → (∀ t : Nat, (∀ (i : Nat) (o : Oper), ops[i]? = some o → o.dst ≠ some t) → a.tmps[t]?.getD undef = a0.tmps[t]?.getD undef) → (∀ (j : Nat) (o : Oper) (t : Nat), ops[j]? = some o → o.dst = some t → a.tmps[t]?.getD undef = vals j) → Q .normal a (Wd (stage (Array.replicate ops.size true)))) : (Code.region id ops true).wp P Q a0 w := by
  refine wp_region_each hm n hn hB (fun listed W => W = Wd (stage listed)) (fun _ i v _ => v = vals i) h0.symm D.hop ?_
  intro a W hE
  obtain rfl := hE.glob
  exact hend a (hE.tsize.trans hn) hE.defers hE.rest fun j o t ho hd => hE.vals j o t ho (by
    rw [Array.getD_eq_getD_getElem?, Array.getElem?_replicate, if_pos (Array.getElem?_eq_some_iff.1 ho).1]
    rfl) hd
end
theorem exec_append {P : Program} {o : Oper} {ρ : Operand → Value} {w w' : World} {s x : Operand} {t : TypeId} {v y v' : Value} (ho : o.op = .call { callee := .builtin .append, args := #[s, x], argTypes := #[t, t] }) (hv : ρ s = v) (hy : ρ x = y) (hr : (Builtin.append_ #[t, t] o.type #[v, y]).run P w = .ok v' w') : (execOp ρ o).run P w = .ok (.value v') w' := by
  unfold execOp
  simp only [ho, resolve, invoke, builtin, Sem.run_bind, Sem.run_pure, Result.andThen_ok, List.map_toArray, List.map_cons, List.map_nil, hv, hy, hr]
end Go.Proofs.Ytghhhlbpolhkhaa
