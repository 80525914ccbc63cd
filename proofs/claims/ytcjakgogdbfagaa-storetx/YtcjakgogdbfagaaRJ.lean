/- A region that draws its order, within a round of a loop over a function: by what each of its operations leaves, whatever order is drawn. A region that draws its order, within a fence, also with guards: by what each of its operations leaves. -/
import Derived.Test.YtcjakgogdbfagaaQO
import Derived.RangeFuncNested
import Derived.RangeFuncBound
import Derived.RangeFuncCalls
import Derived.RangeFuncLeaves
import Derived.WalkKit
import Derived.OrdersIn
namespace Go.Proofs.Ytcjakgogdbfagaa
open Go.RowKit
section
variable {P : Program} {ops : Array Oper} {Q : Exit → Act → World → Prop} {md : Region.Mode}
theorem wpAnyIn_inv {F : Fence} {n : Nat} (Inv : Array Bool → Act → World → Prop)
    (hstep : ∀ listed a w i, Inv listed a w → i ∈ Region.ready md ops listed → wpOpIn F n P ops Q i (fun a' w' => Inv (listed.setIfInBounds i true) a' w') a w)
    (hend : ∀ listed a w, Inv listed a w → Region.ready md ops listed = [] → Q .normal a w) :
    ∀ fuel listed a w, leftIn ops.size listed ≤ fuel → Inv listed a w → wpAnyIn F n P md ops Q fuel listed a w
  | 0, listed, a, w, hf, h => by
    have hr : Region.ready md ops listed = [] := by
      cases hr : Region.ready md ops listed with
      | nil => rfl
      | cons i r =>
        have hi : i ∈ Region.ready md ops listed := by rw [hr]; simp
        obtain ⟨h1, o, ho, _⟩ := mem_ready.1 hi
        have : i ∈ (List.range ops.size).filter fun i => !listed.getD i true := List.mem_filter.2 ⟨List.mem_range.2 (Array.getElem?_eq_some_iff.1 ho).1, by rw [h1]; rfl⟩
        have := List.length_pos_of_mem this
        unfold leftIn at hf
        omega
    exact ⟨hr, hend _ _ _ h hr⟩
  | fuel + 1, listed, a, w, hf, h => by
    refine ⟨hend _ _ _ h, fun i hi => ?_⟩
    obtain ⟨h1, o, ho, _⟩ := mem_ready.1 hi
    have := left_set (Array.getElem?_eq_some_iff.1 ho).1 h1
    exact wpOpIn_mono (fun a' w' h' => wpAnyIn_inv Inv hstep hend fuel _ a' w' (by omega) h') (hstep _ _ _ i h hi)
/-- An operation that neither calls nor defers. -/
theorem op_round {l n : Nat} {o : Oper} {a : Act} {w : World} {K : Act → World → Prop} (hd : ∀ c, o.op ≠ .defer c) (h : o.wp P a w K Q) : o.wpIn (Fence.wide.inRound l) n P a w K Q := by
  refine ⟨fun f _ => trivial, ?_⟩
  rw [Oper.semAt_eq _ _ _ hd]
  unfold Oper.wp at h
  generalize (execOp a.eval o).run P w = r at h
  cases r with
  | ok x w' =>
    cases x <;> simp only [Oper.upon, Oper.uponIn] at h ⊢ <;> first
      | exact h
      | exact h.elim
      | (refine ⟨fun e => (by cases e), CallsIn.inRound l (callsIn_wide.2 ?_)⟩; refine h.mono ?_; intro e w'' he; cases e <;> exact he)
      | (refine ⟨fun e => (by cases e), fun c cs _ => ?_⟩; obtain ⟨v, w', r, s⟩ := h c cs; exact ⟨v, w', r, stepsIn_wide.2 s⟩)
  | halt x w' => cases x <;> simp only [Oper.upon, Oper.uponIn] at h ⊢ <;> first | exact h | exact h.elim
def nodefB (ops : Array Oper) : Bool := ops.all fun o => match o.op with
  | .defer _ => false
  | _ => true
theorem nodef {i : Nat} {o : Oper} (h : nodefB ops = true) (ho : ops[i]? = some o) : ∀ c, o.op ≠ .defer c := fun c e => by
  have := Array.all_eq_true'.1 h o (Array.mem_of_getElem? ho)
  rw [e] at this
  cases this
/-- **The law, in a round.** -/
theorem wpIn_region_each {l m : Nat} {id : Nat} {a0 : Act} {w : World} (hm : P.follows .mixedOrders = true) (n : Nat) (hn : a0.tmps.size = n) (hB : apartB .any ops n = true) (hD : nodefB ops = true) (G : Array Bool → World → Prop) (Pr : Array Bool → Nat → Value → World → Prop)
    (h0 : G (Array.replicate ops.size false) w.drew)
    (hop : ∀ (i : Nat) (o : Oper), ops[i]? = some o → ∀ (listed : Array Bool) (a : Act) (W : World), Each ops a0 G Pr listed a W → listed.getD i true = false → (∀ e ∈ o.after, Region.binds .any e = true → listed.getD e.on false = true) →
      o.wp P a W (fun a' W' => ∃ v, a' = a.put o.dst v ∧ Pr (listed.setIfInBounds i true) i v W' ∧ G (listed.setIfInBounds i true) W' ∧ ∀ j u, listed.getD j false = true → Pr listed j u W → Pr (listed.setIfInBounds i true) j u W') Q)
    (hend : ∀ a W, Each ops a0 G Pr (Array.replicate ops.size true) a W → Q .normal a W) : (Code.region id ops true).wpIn (Fence.wide.inRound l) m P Q a0 w := by
  refine wpIn_region_any hm (wpAnyIn_inv (Each ops a0 G Pr) ?_ ?_ _ _ _ _ ?_ (each_start h0))
  · intro listed a W i hI hi
    obtain ⟨o, ho, hw, h⟩ := each_step n hn hB G Pr hop listed a W i hI hi
    unfold wpOpIn
    rw [ho]
    simp only [hw, if_true]
    exact op_round (nodef hD ho) h
  · intro listed a W hI hr
    exact hend a W (each_end n hB hI hr)
  · unfold leftIn
    exact Nat.le_trans (List.length_filter_le _ _) (by simp)
/-- How far the writers have come: how many of them are listed. -/
def stageOf (ws : List Nat) (listed : Array Bool) : Nat := (ws.filter fun i => listed.getD i false).length
/-- A region whose operations come to the same values whatever order is drawn, the world being told by how many of its writers have come up. -/
structure Det (P : Program) (ops : Array Oper) (a0 : Act) (vals : Nat → Value) (Wd : Nat → World) (stage : Array Bool → Nat) : Prop where
  run : ∀ (i : Nat) (o : Oper), ops[i]? = some o → ∀ (listed : Array Bool) (a : Act), listed.getD i true = false → (∀ e ∈ o.after, Region.binds .any e = true → listed.getD e.on false = true) →
    (∀ (i : Nat) (o : Oper), ops[i]? = some o → listed.getD i false = true → ∀ e ∈ o.after, Region.binds .any e = true → listed.getD e.on false = true) →
    (∀ t : Nat, (∀ (i : Nat) (o : Oper), ops[i]? = some o → o.dst ≠ some t) → a.tmps[t]?.getD undef = a0.tmps[t]?.getD undef) →
    (∀ (j : Nat) (o : Oper) (t : Nat), ops[j]? = some o → listed.getD j false = true → o.dst = some t → a.tmps[t]?.getD undef = vals j) →
    ((execOp a.eval o).run P (Wd (stage listed)) = .ok (.value (vals i)) (Wd (stage (listed.setIfInBounds i true)))) ∨ ((execOp a.eval o).run P (Wd (stage listed)) = .ok .skip (Wd (stage (listed.setIfInBounds i true))) ∧ vals i = undef)
theorem Det.hop {a0 : Act} {vals : Nat → Value} {Wd : Nat → World} {stage : Array Bool → Nat} (D : Det P ops a0 vals Wd stage) : ∀ (i : Nat) (o : Oper), ops[i]? = some o → ∀ (listed : Array Bool) (a : Act) (W : World), Each ops a0 (fun listed W => W = Wd (stage listed)) (fun _ i v _ => v = vals i) listed a W → listed.getD i true = false → (∀ e ∈ o.after, Region.binds .any e = true → listed.getD e.on false = true) →
      o.wp P a W (fun a' W' => ∃ v, a' = a.put o.dst v ∧ v = vals i ∧ W' = Wd (stage (listed.setIfInBounds i true)) ∧ ∀ (j : Nat) (u : Value), listed.getD j false = true → u = vals j → u = vals j) Q := by
  intro i o ho listed a W hE hn haf
  obtain rfl := hE.glob
  unfold Oper.wp
  rcases D.run i o ho listed a hn haf hE.closed hE.rest hE.vals with h | ⟨h, hv⟩
  · rw [h]
    exact ⟨_, rfl, rfl, rfl, fun _ _ _ h => h⟩
  · rw [h]
    exact ⟨_, rfl, hv.symm, rfl, fun _ _ _ h => h⟩
theorem wpIn_region_det {l m : Nat} {id : Nat} {a0 : Act} {w : World} (hm : P.follows .mixedOrders = true) (n : Nat) (hn : a0.tmps.size = n) (hB : apartB .any ops n = true) (hD : nodefB ops = true) {vals : Nat → Value} {Wd : Nat → World} {stage : Array Bool → Nat} (D : Det P ops a0 vals Wd stage)
    (h0 : Wd (stage (Array.replicate ops.size false)) = w.drew)
    (hend : ∀ a, a.tmps.size = n → a.defers = a0.defers → (∀ t : Nat, (∀ (i : Nat) (o : Oper), ops[i]? = some o → o.dst ≠ some t) → a.tmps[t]?.getD undef = a0.tmps[t]?.getD undef) → (∀ (j : Nat) (o : Oper) (t : Nat), ops[j]? = some o → o.dst = some t → a.tmps[t]?.getD undef = vals j) → Q .normal a (Wd (stage (Array.replicate ops.size true)))) : (Code.region id ops true).wpIn (Fence.wide.inRound l) m P Q a0 w := by
  refine wpIn_region_each hm n hn hB hD (fun listed W => W = Wd (stage listed)) (fun _ i v _ => v = vals i) h0.symm D.hop ?_
  intro a W hE
  obtain rfl := hE.glob
  exact hend a (hE.tsize.trans hn) hE.defers hE.rest fun j o t ho hd => hE.vals j o t ho (by
    rw [Array.getD_eq_getD_getElem?, Array.getElem?_replicate, if_pos (Array.getElem?_eq_some_iff.1 ho).1]
    rfl) hd
theorem wp_region_det {id : Nat} {a0 : Act} {w : World} (hm : P.follows .mixedOrders = true) (n : Nat) (hn : a0.tmps.size = n) (hB : apartB .any ops n = true) {vals : Nat → Value} {Wd : Nat → World} {stage : Array Bool → Nat} (D : Det P ops a0 vals Wd stage)
    (h0 : Wd (stage (Array.replicate ops.size false)) = w.drew)
    (hend : ∀ a, a.tmps.size = n → a.defers = a0.defers → (∀ t : Nat, (∀ (i : Nat) (o : Oper), ops[i]? = some o → o.dst ≠ some t) → a.tmps[t]?.getD undef = a0.tmps[t]?.getD undef) → (∀ (j : Nat) (o : Oper) (t : Nat), ops[j]? = some o → o.dst = some t → a.tmps[t]?.getD undef = vals j) → Q .normal a (Wd (stage (Array.replicate ops.size true)))) : (Code.region id ops true).wp P Q a0 w := by
  refine wp_region_each hm n hn hB (fun listed W => W = Wd (stage listed)) (fun _ i v _ => v = vals i) h0.symm D.hop ?_
  intro a W hE
  obtain rfl := hE.glob
  exact hend a (hE.tsize.trans hn) hE.defers hE.rest fun j o t ho hd => hE.vals j o t ho (by
    rw [Array.getD_eq_getD_getElem?, Array.getElem?_replicate, if_pos (Array.getElem?_eq_some_iff.1 ho).1]
    rfl) hd
end
theorem exec_append {P : Program} {o : Oper} {ρ : Operand → Value} {w w' : World} {s x : Operand} {t : TypeId} {v y v' : Value} (ho : o.op = .call { callee := .builtin .append, args := #[s, x], argTypes := #[t, t] }) (hv : ρ s = v) (hy : ρ x = y) (hr : (Builtin.append_ #[t, t] o.type #[v, y]).run P w = .ok v' w') : (execOp ρ o).run P w = .ok (.value v') w' := by
  unfold execOp
  simp only [ho, resolve, invoke, builtin, Sem.run_bind, Sem.run_pure, Result.andThen_ok, List.map_toArray, List.map_cons, List.map_nil, hv, hy, hr]
end Go.Proofs.Ytcjakgogdbfagaa
namespace Go.Proofs.Ytcjakgogdbfagaa
open Go.RowKit
section
variable {P : Program} {ops : Array Oper} {Q : Exit → Act → World → Prop} {md : Region.Mode}
/-- The operations' temporaries are apart, and lie in the frame; each waits for earlier ones alone. -/
def apartG (md : Region.Mode) (ops : Array Oper) (n : Nat) : Bool :=
  (List.range ops.size).all fun i => (match ops[i]? with
    | none => false
    | some o => (match o.dst with | none => true | some t => decide (t < n)) && o.after.all (fun e => !Region.binds md e || decide (e.on < i)) &&
      (List.range ops.size).all fun j => decide (i = j) || (match o.dst, (ops[j]?).bind (·.dst) with
        | some t, some u => decide (t ≠ u)
        | _, _ => true))
theorem apartG_spec {n : Nat} (h : apartG md ops n = true) : ∀ (i : Nat) (o : Oper), ops[i]? = some o → (∀ t, o.dst = some t → t < n) ∧ (∀ e ∈ o.after, Region.binds md e = true → e.on < i) ∧ ∀ (j : Nat) (o' : Oper) (t : Nat), ops[j]? = some o' → o.dst = some t → o'.dst = some t → i = j := by
  intro i o ho
  have hi := (Array.getElem?_eq_some_iff.1 ho).1
  have := List.all_eq_true.1 h i (List.mem_range.2 hi)
  rw [ho] at this
  simp only [Bool.and_eq_true] at this
  obtain ⟨⟨h2, h3⟩, h4⟩ := this
  refine ⟨fun t ht => ?_, fun e he hb => ?_, fun j o' t hj ht hu => ?_⟩
  · rw [ht] at h2; exact of_decide_eq_true h2
  · have := Array.all_eq_true'.1 h3 e he
    rw [hb] at this
    simpa using this
  · have := List.all_eq_true.1 h4 j (List.mem_range.2 (Array.getElem?_eq_some_iff.1 hj).1)
    rw [ht, hj] at this
    simp only [Option.bind_some, hu] at this
    simpa using this
/-- One operation more. -/
theorem each_put {a0 : Act} (n : Nat) (hn : a0.tmps.size = n) (hB : apartG .any ops n = true) (G : Array Bool → World → Prop) (Pr : Array Bool → Nat → Value → World → Prop)
    (listed : Array Bool) (a : Act) (W : World) (i : Nat) (o : Oper) (ho : ops[i]? = some o) (hI : Each ops a0 G Pr listed a W) (haf : ∀ e ∈ o.after, Region.binds .any e = true → listed.getD e.on false = true)
    (v : Value) (W' : World) (hPr : Pr (listed.setIfInBounds i true) i v W') (hG : G (listed.setIfInBounds i true) W') (hst : ∀ j u, listed.getD j false = true → Pr listed j u W → Pr (listed.setIfInBounds i true) j u W') : Each ops a0 G Pr (listed.setIfInBounds i true) (a.put o.dst v) W' := by
  have spec := apartG_spec hB
  obtain ⟨hlt, _, hdist⟩ := spec i o ho
  have hput : ∀ t : Nat, (a.put o.dst v).tmps[t]?.getD undef = if o.dst = some t ∧ t < a.tmps.size then v else a.tmps[t]?.getD undef := by
    intro t
    cases hd : o.dst with
    | none => simp [Act.put]
    | some d =>
      simp only [Act.put, Array.getElem?_setIfInBounds, Option.some.injEq]
      by_cases hdt : d = t
      · subst hdt
        by_cases h2 : d < a.tmps.size
        · simp [h2]
        · simp [h2]
      · simp [hdt]
  refine ⟨by simp [hI.size], ?_, ?_, fun t ht => ?_, hG, fun j oj hj hl e he hb => ?_, fun j oj t hj hl hd => ?_⟩
  · cases hd : o.dst <;> simp [Act.put, hI.tsize]
  · cases hd : o.dst <;> simp [Act.put, hI.defers]
  · rw [hput, if_neg (fun h => ht i o ho h.1)]
    exact hI.rest t ht
  · have hold : listed.getD e.on false = true := by
      rw [getD_set] at hl
      by_cases hji : i = j
      · subst hji
        rw [ho] at hj
        cases hj
        exact haf e he hb
      · rw [if_neg (fun h => hji h.1)] at hl
        exact hI.closed j oj hj hl e he hb
    rw [getD_set]
    split
    · rfl
    · exact hold
  · rw [getD_set] at hl
    by_cases hji : i = j
    · subst hji
      rw [ho] at hj
      cases hj
      rw [hput, if_pos ⟨hd, by rw [hI.tsize, hn]; exact hlt t hd⟩]
      exact hPr
    · rw [if_neg (fun h => hji h.1)] at hl
      rw [hput, if_neg (fun h => hji (hdist j oj t hj h.1 hd))]
      exact hst j _ hl (hI.vals j oj t hj hl hd)
/-- What holds on the way; also: what has not come up has not written. -/
structure EachG (ops : Array Oper) (a0 : Act) (G : Array Bool → World → Prop) (Pr : Array Bool → Nat → Value → World → Prop) (listed : Array Bool) (a : Act) (w : World) : Prop extends Each ops a0 G Pr listed a w where
  old : ∀ (i : Nat) (o : Oper) (t : Nat), ops[i]? = some o → listed.getD i false = false → o.dst = some t → a.tmps[t]?.getD undef = a0.tmps[t]?.getD undef
/-- What an operation owes. -/
def Owes (F : Fence) (m : Nat) (P : Program) (ops : Array Oper) (Q : Exit → Act → World → Prop) (G : Array Bool → World → Prop) (Pr : Array Bool → Nat → Value → World → Prop) (i : Nat) (o : Oper) (listed : Array Bool) (a : Act) (W : World) : Prop :=
  wpOpIn F m P ops Q i (fun a' W' => ∃ v, a' = a.put o.dst v ∧ Pr (listed.setIfInBounds i true) i v W' ∧ G (listed.setIfInBounds i true) W' ∧ ∀ j u, listed.getD j false = true → Pr listed j u W → Pr (listed.setIfInBounds i true) j u W') a W
/-- **The law, within a fence.** -/
theorem wpIn_region_eachg {F : Fence} {m id : Nat} {a0 : Act} {w : World} (hm : P.follows .mixedOrders = true) (n : Nat) (hn : a0.tmps.size = n) (hB : apartG .any ops n = true) (G : Array Bool → World → Prop) (Pr : Array Bool → Nat → Value → World → Prop)
    (h0 : G (Array.replicate ops.size false) w.drew)
    (hop : ∀ (i : Nat) (o : Oper), ops[i]? = some o → ∀ (listed : Array Bool) (a : Act) (W : World), EachG ops a0 G Pr listed a W → listed.getD i true = false → (∀ e ∈ o.after, Region.binds .any e = true → listed.getD e.on false = true) → Owes F m P ops Q G Pr i o listed a W)
    (hend : ∀ a W, Each ops a0 G Pr (Array.replicate ops.size true) a W → Q .normal a W) : (Code.region id ops true).wpIn F m P Q a0 w := by
  refine wpIn_region_any hm (wpAnyIn_inv (EachG ops a0 G Pr) ?_ ?_ _ _ _ _ ?_ ⟨each_start h0, fun _ _ _ _ _ _ => rfl⟩)
  · intro listed a W i hI hi
    obtain ⟨h1, o, ho, haf⟩ := mem_ready.1 hi
    refine wpOpIn_mono ?_ (hop i o ho listed a W hI h1 haf)
    rintro a' W' ⟨v, rfl, x1, x2, x3⟩
    refine ⟨each_put n hn hB G Pr listed a W i o ho hI.toEach haf v W' x1 x2 x3, fun j oj t hj hl hd => ?_⟩
    rw [getD_set] at hl
    have hil := getD_lt h1
    have hji : i ≠ j := fun e => by
      subst e
      rw [if_pos ⟨rfl, hil⟩] at hl
      cases hl
    rw [if_neg (fun h => hji h.1)] at hl
    rw [← hI.old j oj t hj hl hd]
    cases hdi : o.dst with
    | none => rfl
    | some d =>
      have hne : d ≠ t := fun e => hji ((apartG_spec hB i o ho).2.2 j oj t hj (by rw [hdi, e]) hd)
      simp [Act.put, hne]
  · intro listed a W hI hr
    have hall := all_listed (fun i o ho => (apartG_spec hB i o ho).2.1) hr hI.size
    have : listed = Array.replicate ops.size true := by
      apply Array.ext
      · simp [hI.size]
      · intro i h1 h2
        have := hall i (by rw [← hI.size]; exact h1)
        rw [Array.getD_eq_getD_getElem?, Array.getElem?_eq_getElem h1] at this
        simpa using this
    rw [this] at hI
    exact hend a W hI.toEach
  · unfold leftIn
    exact Nat.le_trans (List.length_filter_le _ _) (by simp)
theorem off_ofg {L : Array Bool} {i j : Nat} (hn : L.getD i true = false) (hc : L.getD j false = true → L.getD i false = true) : L.getD j false = false := by
  cases h : L.getD j false with
  | false => rfl
  | true =>
    have := hc h
    rw [getD_off hn] at this
    cases this
/-- A guard that is met, or not. -/
theorem wanted_is {o : Oper} {tmps : Array Value} {j t : Nat} {b c : Bool} (hg : o.guard = some (j, c)) (hd : (ops[j]?).bind (·.dst) = some t) (hv : tmps[t]?.getD undef = .bool b) : Region.wanted o (yielded ops tmps) = (b == c) := by
  have e : tmps[t]? = some (.bool b) := by
    cases h : tmps[t]? with
    | none => rw [h] at hv; cases hv
    | some v => rw [h] at hv; simp at hv; rw [hv]
  unfold Region.wanted yielded
  rw [hg]
  simp only [hd, Option.bind_some, e]
  cases b <;> cases c <;> rfl
/-- An operation that is wanted, and yields a value. -/
theorem owes_value {m : Nat} {G : Array Bool → World → Prop} {Pr : Array Bool → Nat → Value → World → Prop} {i : Nat} {o : Oper} {listed : Array Bool} {a : Act} {W W' : World} {v : Value} (ho : ops[i]? = some o) (hw : Region.wanted o (yielded ops a.tmps) = true) (hr : (execOp a.eval o).run P W = .ok (.value v) W')
    (hPr : Pr (listed.setIfInBounds i true) i v W') (hG : G (listed.setIfInBounds i true) W') (hst : ∀ j u, listed.getD j false = true → Pr listed j u W → Pr (listed.setIfInBounds i true) j u W') : Owes Fence.wide m P ops Q G Pr i o listed a W := by
  unfold Owes wpOpIn
  rw [ho]
  simp only [hw, if_true]
  refine ⟨fun f _ => trivial, ?_⟩
  show o.uponIn _ _ _ _ _ _ ((execOp a.eval o).run P W)
  rw [hr]
  exact ⟨v, rfl, hPr, hG, hst⟩
/-- One that is passed over. -/
theorem owes_none {m : Nat} {G : Array Bool → World → Prop} {Pr : Array Bool → Nat → Value → World → Prop} {i : Nat} {o : Oper} {listed : Array Bool} {a : Act} {W : World} (ho : ops[i]? = some o) (hw : Region.wanted o (yielded ops a.tmps) = false)
    (hPr : Pr (listed.setIfInBounds i true) i undef W) (hG : G (listed.setIfInBounds i true) W) (hst : ∀ j u, listed.getD j false = true → Pr listed j u W → Pr (listed.setIfInBounds i true) j u W) : Owes Fence.wide m P ops Q G Pr i o listed a W := by
  unfold Owes wpOpIn
  rw [ho]
  simp only [hw, Bool.false_eq_true, if_false]
  exact ⟨fun f _ => trivial, undef, rfl, hPr, hG, hst⟩
/-- One that is wanted, and calls a function. -/
theorem owes_call {m : Nat} {G : Array Bool → World → Prop} {Pr : Array Bool → Nat → Value → World → Prop} {i : Nat} {o : Oper} {listed : Array Bool} {a : Act} {W : World} {f : FuncId} {args : Array Value} {R : Ending → World → Prop} (ho : ops[i]? = some o) (hw : Region.wanted o (yielded ops a.tmps) = true) (hr : (execOp a.eval o).run P W = .ok (.enter f args) W)
    (hR : CallsIn Fence.wide (m - 1) P f args W R) (hRr : ∀ e W', R e W' → ∃ v, e = .returned v ∧ Pr (listed.setIfInBounds i true) i v W' ∧ G (listed.setIfInBounds i true) W' ∧ ∀ j u, listed.getD j false = true → Pr listed j u W → Pr (listed.setIfInBounds i true) j u W') : Owes Fence.wide m P ops Q G Pr i o listed a W := by
  unfold Owes wpOpIn
  rw [ho]
  simp only [hw, if_true]
  refine ⟨fun f _ => trivial, ?_⟩
  show o.uponIn _ _ _ _ _ _ ((execOp a.eval o).run P W)
  rw [hr]
  refine ⟨fun e => (by cases e), hR.mono fun e W' h => ?_⟩
  obtain ⟨v, rfl, x1, x2, x3⟩ := hRr e W' h
  exact ⟨v, rfl, x1, x2, x3⟩
/-- One that is wanted, and calls back. -/
theorem owes_round {m : Nat} {G : Array Bool → World → Prop} {Pr : Array Bool → Nat → Value → World → Prop} {i : Nat} {o : Oper} {listed : Array Bool} {a : Act} {W : World} {l : Nat} {fn : FuncId} {tmps : Array Value} {assign body : Code} {R : Ending → World → Prop} (ho : ops[i]? = some o) (hw : Region.wanted o (yielded ops a.tmps) = true) (hr : (execOp a.eval o).run P W = .ok (.round l fn tmps assign body) W)
    (hR : RoundIn Fence.wide (m - 1) P l fn tmps assign body W R) (hRr : ∀ e W', R e W' → ∃ v, e = .returned v ∧ Pr (listed.setIfInBounds i true) i v W' ∧ G (listed.setIfInBounds i true) W' ∧ ∀ j u, listed.getD j false = true → Pr listed j u W → Pr (listed.setIfInBounds i true) j u W') : Owes Fence.wide m P ops Q G Pr i o listed a W := by
  unfold Owes wpOpIn
  rw [ho]
  simp only [hw, if_true]
  refine ⟨fun f _ => trivial, ?_⟩
  show o.uponIn _ _ _ _ _ _ ((execOp a.eval o).run P W)
  rw [hr]
  refine ⟨fun e => (by cases e), hR.mono fun e W' h => ?_⟩
  obtain ⟨v, rfl, x1, x2, x3⟩ := hRr e W' h
  exact ⟨v, rfl, x1, x2, x3⟩
end
end Go.Proofs.Ytcjakgogdbfagaa
