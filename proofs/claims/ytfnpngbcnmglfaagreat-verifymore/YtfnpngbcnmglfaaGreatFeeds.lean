/- A loop over an iterator that keeps its place in one cell of its own: what the iterator owes, what the loop's body owes, and what then holds. A region that draws its order, within a round of a loop over a function: by what each of its operations leaves, whatever order is drawn. -/
import Derived.RangeFuncWrites
import Derived.Shelf.Abstract
import Derived.WalkKit
import Derived.Test.YtfnpngbcnmglfaaGreatRI
import Derived.RangeFuncNested
import Derived.RangeFuncBound
import Derived.RangeFuncCalls
import Derived.RangeFuncLeaves
import Derived.OrdersIn
namespace Go.Proofs.YtfnpngbcnmglfaaGreat
open Go.RowKit

/-- What is said does not hang on what block b's first cell holds. -/
def Blind {β : Type} (b : Nat) (J : β → World → Prop) : Prop := ∀ s W v, J s W → J s (W.setCell ⟨b, 0, none⟩ v)
/-- The iterator hands on xs, one after the other, and writes nothing but block b's first cell. -/
def Feeds {α : Type} (F : Fence) (n : Nat) (P : Program) (g : Nat) (lb : Array Value) (encs : α → Array Value) (b : Nat) (Kp : World → World → Prop) (xs : List α) (W : World) : Prop :=
  ∀ (l : Nat) (J Jx : List α → World → Prop), Blind b J → Blind b Jx →
    (∀ pre x W1, J pre W1 → pre ++ [x] <+: xs → YieldAt F (n - 1) P l (encs x) W1 fun e W' => (e = .returned (.bool true) ∧ J (pre ++ [x]) W' ∧ Kp W1 W') ∨ (e = .returned (.bool false) ∧ Jx (pre ++ [x]) W')) →
    J [] W → CallsIn F n P g (#[.func (.yield l) #[] #[]] ++ lb) W fun e W' => (∃ v, e = .returned v) ∧ (J xs W' ∨ ∃ pre, Jx pre W')
/-- How a round may end: it goes on, or the function returns. -/
def RoundEnd (B : Nat) (Kp : World → World → Prop) (I R : World → Prop) (W : World) : Exit → Act → World → Prop
  | .normal, _, W' => KeepsFrom B W W' ∧ Kp W W' ∧ I W'
  | .ret, _, W' => KeepsFrom B W W' ∧ R W'
  | _, _, _ => False

theorem range_feeds {F : Fence} {n : Nat} {P : Program} {α : Type} {g : Operand} {ps : Array Tmp} {assign body : Code} {Q : Exit → Act → World → Prop} {a : Act} {w : World} (hro : F.round = none) (h1 : 1 ≤ n) {gf : Nat} {lb : Array Value}
    (hg : a.eval g = .func (.func gf) #[] lb) (hFg : F.fn gf) (eg : ∀ args w, (callFunc gf args).run P w = .ok (.enter gf args) w) {encs : α → Array Value} {b : Nat} {Kp : World → World → Prop} {xs : List α} (hb : b < w.heap.size)
    (hseq : ∀ W, Below w.heap.size w W → Feeds F (n - 1) P gf lb encs b Kp xs W) (hKt : ∀ {A B C : World}, Kp A B → Kp B C → Kp A C) (hKb : ∀ (W : World) (l : Nat) (o : Obj), w.heap.size ≤ l → Kp W (W.putObj l o)) (hps : ∀ x, (encs x).size = ps.size)
    (I R : List α → World → Prop) (hI : OwnFrom w.heap.size I) (hR : OwnFrom w.heap.size R) (hIb : Blind b I) (hRb : Blind b R) (h0 : I [] w) (a₁ : α → Act)
    (hassign : ∀ (l : Nat) (x : α) (W : World) (K : Act → World → Prop), K (a₁ x) W →
      assign.wpIn (F.inRound l) (n - 1 - 1) P (Exit.then K (fun _ _ _ => False)) { tmps := (ps.zip (encs x)).foldl (fun t (p, v) => t.setIfInBounds p v) a.tmps, defers := [] } W)
    (hbody : ∀ (l : Nat) (pre : List α) (x : α) (W : World), I pre W → pre ++ [x] <+: xs → body.wpIn (F.inRound l) (n - 1 - 1) P (RoundEnd w.heap.size Kp (I (pre ++ [x])) (R (pre ++ [x])) W) (a₁ x) W)
    (hdone : ∀ (D : Nat) (W : World), w.heap.size ≤ D → I xs W → W.heap[D]? = some (.deferred (some [])) → Q .normal { a with defers := { target := .collected D, args := #[] } :: a.defers } W)
    (hret : ∀ (D : Nat) (pre : List α) (W : World), w.heap.size ≤ D → R pre W → W.heap[D]? = some (.deferred (some [])) → Code.ret.wpIn F n P Q { a with defers := { target := .collected D, args := #[] } :: a.defers } W) :
    (Code.rangeFunc g ps assign body).wpIn F n P Q a w := by
  refine wpIn_rangeFunc fun fn hfn => ?_
  rw [hro]
  -- the loop's record in its three states, and the two blocks that the loop lays
  let rec0 : LoopState → Option Code → Loop := fun st pe => { state := st, pending := pe, fn := fn, tmps := a.tmps, params := ps, assign := assign, body := body, defers := w.heap.size }
  let s := w.heap.size
  let W0 := (w.alloc (.deferred (some []))).alloc (.loop (rec0 .ready none))
  have e0 : W0.heap[s]? = some (.deferred (some [])) := (Below.heap_alloc _ _ _ (by simp [s])).trans (World.alloc_heap_new w _)
  have e1 : W0.heap[s + 1]? = some (.loop (rec0 .ready none)) := by
    have := World.alloc_heap_new (w.alloc (.deferred (some []))) (.loop (rec0 .ready none))
    rwa [World.size_alloc] at this
  have hbel : Below w.heap.size w W0 := ((Below.refl _ w).alloc (Nat.le_refl _) _).alloc (by simp) _
  let Rec : Loop → World → Prop := fun r W => W.heap[s + 1]? = some (.loop r) ∧ W.heap[s]? = some (.deferred (some []))
  have blindRec : ∀ r W v, Rec r W → Rec r (W.setCell ⟨b, 0, none⟩ v) := fun r W v h =>
    ⟨(Below.heap_setCell W _ v (s + 1) (by show s + 1 ≠ b; omega)).trans h.1, (Below.heap_setCell W _ v s (by show s ≠ b; omega)).trans h.2⟩
  refine ⟨s + 1, [{ target := .collected s, args := #[] }], W0, { target := .fn (.func gf) lb, args := #[.func (.yield (s + 1)) #[] #[]] }, W0, gf, #[.func (.yield (s + 1)) #[] #[]] ++ lb, W0, run_enterLoop_outer _ _ _ _ _, ?_, ?_, ?_, fun _ => h1, ?_⟩
  · simp only [resolve, hg]
    simp [go_sem]
  · intro f' hf'
    simp [Target.leads] at hf'
    subst hf'
    exact hFg
  · simp [invoke, go_sem, eg]
  refine (hseq W0 hbel (s + 1) (fun pre W => I pre W ∧ Rec (rec0 .ready none) W) (fun pre W => R pre W ∧ Rec (rec0 .done (some .ret)) W)
    (fun pre W v h => ⟨hIb pre W v h.1, blindRec _ W v h.2⟩) (fun pre W v h => ⟨hRb pre W v h.1, blindRec _ W v h.2⟩) ?_ ⟨hI.alloc _ (hI.alloc _ h0), e1, e0⟩).mono ?_
  · -- one round
    rintro pre x W ⟨hi, hl, hk⟩ hx
    have hlt : s + 1 < W.heap.size := (Array.getElem?_eq_some_iff.1 hl).1
    refine ⟨fn, _, assign, body, run_yield hl (hps x), roundIn_of_wpIn hfn (hassign _ x W _ ⟨_, run_beginRound hl rfl, ?_⟩)⟩
    have hl2 : (W.putObj (s + 1) (.loop { rec0 .ready none with state := .busy })).heap[s + 1]? = some (.loop { rec0 .ready none with state := .busy }) := World.putObj_heap_same hlt
    have hk2 : (W.putObj (s + 1) (.loop { rec0 .ready none with state := .busy })).heap[s]? = some (.deferred (some [])) := (World.putObj_heap_other (by omega)).trans hk
    refine wpIn_mono (hbody _ pre x _ (hI.putObj _ hi (by omega) hl rfl) hx) ?_
    intro e a3 W3 hp
    have tail : KeepsFrom w.heap.size (W.putObj (s + 1) (.loop { rec0 .ready none with state := .busy })) W3 → W3.heap[s + 1]? = some (.loop { rec0 .ready none with state := .busy }) ∧ W3.heap[s]? = some (.deferred (some [])) ∧ s + 1 < W3.heap.size := fun h3 =>
      ⟨h3.same _ _ (by omega) hl2 rfl, h3.same _ _ (Nat.le_refl _) hk2 rfl, (Array.getElem?_eq_some_iff.1 (h3.same _ _ (by omega) hl2 rfl)).1⟩
    cases e with
    | normal =>
      obtain ⟨hk3, hkp, hi3⟩ := hp
      obtain ⟨t1, t2, t3⟩ := tail hk3
      exact ⟨_, _, run_endRound none t1, .inl ⟨rfl, ⟨hI.putObj _ hi3 (by omega) t1 rfl, World.putObj_heap_same t3, (World.putObj_heap_other (by omega)).trans t2⟩, hKt (hKt (hKb _ _ _ (by omega)) hkp) (hKb _ _ _ (by omega))⟩⟩
    | ret =>
      obtain ⟨hk3, hi3⟩ := hp
      obtain ⟨t1, t2, t3⟩ := tail hk3
      exact ⟨_, _, run_endRound (some .ret) t1, .inr ⟨rfl, hR.putObj _ hi3 (by omega) t1 rfl, World.putObj_heap_same t3, (World.putObj_heap_other (by omega)).trans t2⟩⟩
    | exit id => exact hp.elim
    | goto t => exact hp.elim
    | panic ch => exact hp.elim
    | outgrown => exact hp.elim
  · -- behind the iterator
    rintro e W2 ⟨⟨v, rfl⟩, (⟨hi, hl, hk⟩ | ⟨pre, hi, hl, hk⟩)⟩
    · exact ⟨none, _, run_endLoop hl (by simp [rec0]), hdone _ _ (Nat.le_refl _) (hI.putObj _ hi (by omega) hl rfl) ((World.putObj_heap_other (by omega)).trans hk)⟩
    · exact ⟨some .ret, _, run_endLoop hl (by simp [rec0]), hret _ pre _ (Nat.le_refl _) (hR.putObj _ hi (by omega) hl rfl) ((World.putObj_heap_other (by omega)).trans hk)⟩
end Go.Proofs.YtfnpngbcnmglfaaGreat
namespace Go.Proofs.YtfnpngbcnmglfaaGreat
open Go.RowKit
section
variable {P : Program} {ops : Array Oper} {Q : Exit → Act → World → Prop} {md : Region.Mode}
theorem wpAnyIn_inv {F : Fence} {n : Nat} (Inv : Array Bool → Act → World → Prop)
    (hstep : ∀ listed a w i, Inv listed a w → i ∈ Region.ready md ops listed → wpOpIn F n P ops Q i (fun a' w' => Inv (listed.setIfInBounds i true) a' w') a w)
    (hend : ∀ listed a w, Inv listed a w → Region.ready md ops listed = [] → Q .normal a w) :
    ∀ fuel listed a w, leftIn ops.size listed ≤ fuel → Inv listed a w → wpAnyIn F n P md ops Q fuel listed a w
  | 0, listed, a, w, hf, h => by
    have hr : Region.ready md ops listed = [] := by
      cases hr : Region.ready md ops listed with
      | nil => rfl
      | cons i r =>
        have hi : i ∈ Region.ready md ops listed := by rw [hr]; simp
        obtain ⟨h1, o, ho, _⟩ := mem_ready.1 hi
        have : i ∈ (List.range ops.size).filter fun i => !listed.getD i true := List.mem_filter.2 ⟨List.mem_range.2 (Array.getElem?_eq_some_iff.1 ho).1, by rw [h1]; rfl⟩
        have := List.length_pos_of_mem this
        unfold leftIn at hf
        omega
    exact ⟨hr, hend _ _ _ h hr⟩
  | fuel + 1, listed, a, w, hf, h => by
    refine ⟨hend _ _ _ h, fun i hi => ?_⟩
    obtain ⟨h1, o, ho, _⟩ := mem_ready.1 hi
    have := left_set (Array.getElem?_eq_some_iff.1 ho).1 h1
    exact wpOpIn_mono (fun a' w' h' => wpAnyIn_inv Inv hstep hend fuel _ a' w' (by omega) h') (hstep _ _ _ i h hi)
/-- An operation that neither calls nor defers. -/
theorem op_round {l n : Nat} {o : Oper} {a : Act} {w : World} {K : Act → World → Prop} (hd : ∀ c, o.op ≠ .defer c) (h : o.wp P a w K Q) : o.wpIn (Fence.wide.inRound l) n P a w K Q := by
  refine ⟨fun f _ => trivial, ?_⟩
  rw [Oper.semAt_eq _ _ _ hd]
  unfold Oper.wp at h
  generalize (execOp a.eval o).run P w = r at h
  cases r with
  | ok x w' =>
    cases x <;> simp only [Oper.upon, Oper.uponIn] at h ⊢ <;> first
      | exact h
      | exact h.elim
      | (refine ⟨fun e => (by cases e), CallsIn.inRound l (callsIn_wide.2 ?_)⟩; refine h.mono ?_; intro e w'' he; cases e <;> exact he)
      | (refine ⟨fun e => (by cases e), fun c cs _ => ?_⟩; obtain ⟨v, w', r, s⟩ := h c cs; exact ⟨v, w', r, stepsIn_wide.2 s⟩)
  | halt x w' => cases x <;> simp only [Oper.upon, Oper.uponIn] at h ⊢ <;> first | exact h | exact h.elim
def nodefB (ops : Array Oper) : Bool := ops.all fun o => match o.op with
  | .defer _ => false
  | _ => true
theorem nodef {i : Nat} {o : Oper} (h : nodefB ops = true) (ho : ops[i]? = some o) : ∀ c, o.op ≠ .defer c := fun c e => by
  have := Array.all_eq_true'.1 h o (Array.mem_of_getElem? ho)
  rw [e] at this
  cases this
/-- **The law, in a round.** -/
theorem wpIn_region_each {l m : Nat} {id : Nat} {a0 : Act} {w : World} (hm : P.follows .mixedOrders = true) (n : Nat) (hn : a0.tmps.size = n) (hB : apartB .any ops n = true) (hD : nodefB ops = true) (G : Array Bool → World → Prop) (Pr : Array Bool → Nat → Value → World → Prop)
    (h0 : G (Array.replicate ops.size false) w.drew)
    (hop : ∀ (i : Nat) (o : Oper), ops[i]? = some o → ∀ (listed : Array Bool) (a : Act) (W : World), Each ops a0 G Pr listed a W → listed.getD i true = false → (∀ e ∈ o.after, Region.binds .any e = true → listed.getD e.on false = true) →
      o.wp P a W (fun a' W' => ∃ v, a' = a.put o.dst v ∧ Pr (listed.setIfInBounds i true) i v W' ∧ G (listed.setIfInBounds i true) W' ∧ ∀ j u, listed.getD j false = true → Pr listed j u W → Pr (listed.setIfInBounds i true) j u W') Q)
    (hend : ∀ a W, Each ops a0 G Pr (Array.replicate ops.size true) a W → Q .normal a W) : (Code.region id ops true).wpIn (Fence.wide.inRound l) m P Q a0 w := by
  refine wpIn_region_any hm (wpAnyIn_inv (Each ops a0 G Pr) ?_ ?_ _ _ _ _ ?_ (each_start h0))
  · intro listed a W i hI hi
    obtain ⟨o, ho, hw, h⟩ := each_step n hn hB G Pr hop listed a W i hI hi
    unfold wpOpIn
    rw [ho]
    simp only [hw, if_true]
    exact op_round (nodef hD ho) h
  · intro listed a W hI hr
    exact hend a W (each_end n hB hI hr)
  · unfold leftIn
    exact Nat.le_trans (List.length_filter_le _ _) (by simp)
/-- How far the writers have come: how many of them are listed. -/
def stageOf (ws : List Nat) (listed : Array Bool) : Nat := (ws.filter fun i => listed.getD i false).length
/-- A region whose operations come to the same values whatever order is drawn, the world being told by how many of its writers have come up. -/
structure Det (P : Program) (ops : Array Oper) (a0 : Act) (vals : Nat → Value) (Wd : Nat → World) (stage : Array Bool → Nat) : Prop where
  run : ∀ (i : Nat) (o : Oper), ops[i]? = some o → ∀ (listed : Array Bool) (a : Act), listed.getD i true = false → (∀ e ∈ o.after, Region.binds .any e = true → listed.getD e.on false = true) →
    (∀ (i : Nat) (o : Oper), ops[i]? = some o → listed.getD i false = true → ∀ e ∈ o.after, Region.binds .any e = true → listed.getD e.on false = true) →
    (∀ t : Nat, (∀ (i : Nat) (o : Oper), ops[i]? = some o → o.dst ≠ some t) → a.tmps[t]?.getD undef = a0.tmps[t]?.getD undef) →
    (∀ (j : Nat) (o : Oper) (t : Nat), ops[j]? = some o → listed.getD j false = true → o.dst = some t → a.tmps[t]?.getD undef = vals j) →
    ((execOp a.eval o).run P (Wd (stage listed)) = .ok (.value (vals i)) (Wd (stage (listed.setIfInBounds i true)))) ∨ ((execOp a.eval o).run P (Wd (stage listed)) = .ok .skip (Wd (stage (listed.setIfInBounds i true))) ∧ vals i = undef)
theorem Det.hop {a0 : Act} {vals : Nat → Value} {Wd : Nat → World} {stage : Array Bool → Nat} (D : Det P ops a0 vals Wd stage) : ∀ (i : Nat) (o : Oper), ops[i]? = some o → ∀ (listed : Array Bool) (a : Act) (W : World), Each ops a0 (fun listed W => W = Wd (stage listed)) (fun _ i v _ => v = vals i) listed a W → listed.getD i true = false → (∀ e ∈ o.after, Region.binds .any e = true → listed.getD e.on false = true) →
      o.wp P a W (fun a' W' => ∃ v, a' = a.put o.dst v ∧ v = vals i ∧ W' = Wd (stage (listed.setIfInBounds i true)) ∧ ∀ (j : Nat) (u : Value), listed.getD j false = true → u = vals j → u = vals j) Q := by
  intro i o ho listed a W hE hn haf
  obtain rfl := hE.glob
  unfold Oper.wp
  rcases D.run i o ho listed a hn haf hE.closed hE.rest hE.vals with h | ⟨h, hv⟩
  · rw [h]
    exact ⟨_, rfl, rfl, rfl, fun _ _ _ h => h⟩
  · rw [h]
    exact ⟨_, rfl, hv.symm, rfl, fun _ _ _ h => h⟩
theorem wpIn_region_det {l m : Nat} {id : Nat} {a0 : Act} {w : World} (hm : P.follows .mixedOrders = true) (n : Nat) (hn : a0.tmps.size = n) (hB : apartB .any ops n = true) (hD : nodefB ops = true) {vals : Nat → Value} {Wd : Nat → World} {stage : Array Bool → Nat} (D : Det P ops a0 vals Wd stage)
    (h0 : Wd (stage (Array.replicate ops.size false)) = w.drew)
    (hend : ∀ a, a.tmps.size = n → a.defers = a0.defers → (∀ t : Nat, (∀ (i : Nat) (o : Oper), ops[i]? = some o → o.dst ≠ some t) → a.tmps[t]?.getD undef = a0.tmps[t]?.getD undef) → (∀ (j : Nat) (o : Oper) (t : Nat), ops[j]? = some o → o.dst = some t → a.tmps[t]?.getD undef = vals j) → Q .normal a (Wd (stage (Array.replicate ops.size true)))) : (Code.region id ops true).wpIn (Fence.wide.inRound l) m P Q a0 w := by
  refine wpIn_region_each hm n hn hB hD (fun listed W => W = Wd (stage listed)) (fun _ i v _ => v = vals i) h0.symm D.hop ?_
  intro a W hE
  obtain rfl := hE.glob
  exact hend a (hE.tsize.trans hn) hE.defers hE.rest fun j o t ho hd => hE.vals j o t ho (by
    rw [Array.getD_eq_getD_getElem?, Array.getElem?_replicate, if_pos (Array.getElem?_eq_some_iff.1 ho).1]
    rfl) hd
theorem wp_region_det {id : Nat} {a0 : Act} {w : World} (hm : P.follows .mixedOrders = true) (n : Nat) (hn : a0.tmps.size = n) (hB : apartB .any ops n = true) {vals : Nat → Value} {Wd : Nat → World} {stage : Array Bool → Nat} (D : Det P ops a0 vals Wd stage)
    (h0 : Wd (stage (Array.replicate ops.size false)) = w.drew)
    (hend : ∀ a, a.tmps.size = n → a.defers = a0.defers → (∀ t : Nat, (∀ (i : Nat) (o : Oper), ops[i]? = some o → o.dst ≠ some t) → a.tmps[t]?.getD undef = a0.tmps[t]?.getD undef) → (∀ (j : Nat) (o : Oper) (t : Nat), ops[j]? = some o → o.dst = some t → a.tmps[t]?.getD undef = vals j) → Q .normal a (Wd (stage (Array.replicate ops.size true)))) : (Code.region id ops true).wp P Q a0 w := by
  refine wp_region_each hm n hn hB (fun listed W => W = Wd (stage listed)) (fun _ i v _ => v = vals i) h0.symm D.hop ?_
  intro a W hE
  obtain rfl := hE.glob
  exact hend a (hE.tsize.trans hn) hE.defers hE.rest fun j o t ho hd => hE.vals j o t ho (by
    rw [Array.getD_eq_getD_getElem?, Array.getElem?_replicate, if_pos (Array.getElem?_eq_some_iff.1 ho).1]
    rfl) hd
end
theorem exec_append {P : Program} {o : Oper} {ρ : Operand → Value} {w w' : World} {s x : Operand} {t : TypeId} {v y v' : Value} (ho : o.op = .call { callee := .builtin .append, args := #[s, x], argTypes := #[t, t] }) (hv : ρ s = v) (hy : ρ x = y) (hr : (Builtin.append_ #[t, t] o.type #[v, y]).run P w = .ok v' w') : (execOp ρ o).run P w = .ok (.value v') w' := by
  unfold execOp
  simp only [ho, resolve, invoke, builtin, Sem.run_bind, Sem.run_pure, Result.andThen_ok, List.map_toArray, List.map_cons, List.map_nil, hv, hy, hr]
end Go.Proofs.YtfnpngbcnmglfaaGreat
