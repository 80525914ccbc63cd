/- A region that draws its order, within a fence, also with guards: by what each of its operations leaves. -/
import Derived.Test.YtghhhlbpolhkhaaRJ
namespace Go.Proofs.Ytghhhlbpolhkhaa
open Go.RowKit
section
variable {P : Program} {ops : Array Oper} {Q : Exit → Act → World → Prop} {md : Region.Mode}
/-- The operations' temporaries are apart, and lie in the frame; each waits for earlier ones alone. -/
def apartG (md : Region.Mode) (ops : Array Oper) (n : Nat) : Bool :=
  (List.range ops.size).all fun i => (match ops[i]? with
    | none => false
    | some o => (match o.dst with | none => true | some t => decide (t < n)) && o.after.all (fun e => !Region.binds md e || decide (e.on < i)) &&
      (List.range ops.size).all fun j => decide (i = j) || (match o.dst, (ops[j]?).bind (·.dst) with
        | some t, some u => decide (t ≠ u)
        | _, _ => true))
theorem apartG_spec {n : Nat} (h : apartG md ops n = true) : ∀ (i : Nat) (o : Oper), ops[i]? = some o → (∀ t, o.dst = some t → t < n) ∧ (∀ e ∈ o.after, Region.binds md e = true → e.on < i) ∧ ∀ (j : Nat) (o' : Oper) (t : Nat), ops[j]? = some o' → o.dst = some t → o'.dst = some t → i = j := by
  intro i o ho
  have hi := (Array.getElem?_eq_some_iff.1 ho).1
  have := List.all_eq_true.1 h i (List.mem_range.2 hi)
  rw [ho] at this
  simp only [Bool.and_eq_true] at this
  obtain ⟨⟨h2, h3⟩, h4⟩ := this
  refine ⟨fun t ht => ?_, fun e he hb => ?_, fun j o' t hj ht hu => ?_⟩
  · rw [ht] at h2; exact of_decide_eq_true h2
  · have := Array.all_eq_true'.1 h3 e he
    rw [hb] at this
    simpa using this
  · have := List.all_eq_true.1 h4 j (List.mem_range.2 (Array.getElem?_eq_some_iff.1 hj).1)
    rw [ht, hj] at this
    simp only [Option.bind_some, hu] at this
    simpa using this
/-- One operation more. -/
theorem each_put {a0 : Act} (n : Nat) (hn : a0.tmps.size = n) (hB : apartG .any ops n = true) (G : Array Bool → World → Prop) (Pr : Array Bool → Nat → Value → World → Prop)
    (listed : Array Bool) (a : Act) (W : World) (i : Nat) (o : Oper) (ho : ops[i]? = some o) (hI : Each ops a0 G Pr listed a W) (haf : ∀ e ∈ o.after, Region.binds .any e = true → listed.getD e.on false = true)
    (v : Value) (W' : World) (hPr : Pr (listed.setIfInBounds i true) i v W') (hG : G (listed.setIfInBounds i true) W') (hst : ∀ j u, listed.getD j false = true → Pr listed j u W → Pr (listed.setIfInBounds i true) j u W') : Each ops a0 G Pr (listed.setIfInBounds i true) (a.put o.dst v) W' := by
  have spec := apartG_spec hB
  obtain ⟨hlt, _, hdist⟩ := spec i o ho
  have hput : ∀ t : Nat, (a.put o.dst v).tmps[t]?.getD undef = if o.dst = some t ∧ t < a.tmps.size then v else a.tmps[t]?.getD undef := by
    intro t
    cases hd : o.dst with
    | none => simp [Act.put]
    | some d =>
      simp only [Act.put, Array.getElem?_setIfInBounds, Option.some.injEq]
      by_cases hdt : d = t
      · subst hdt
        by_cases h2 : d < a.tmps.size
        · simp [h2]
        · simp [h2]
      · simp [hdt]
  refine ⟨by simp [hI.size], ?_, ?_, fun t ht => ?_, hG, fun j oj hj hl e he hb => ?_, fun j oj t hj hl hd => ?_⟩
  · cases hd : o.dst <;> simp [Act.put, hI.tsize]
  · cases hd : o.dst <;> simp [Act.put, hI.defers]
  · rw [hput, if_neg (fun h => ht i o ho h.1)]
    exact hI.rest t ht
  · have hold : listed.getD e.on false = true := by
      rw [getD_set] at hl
      by_cases hji : i = j
      · subst hji
        rw [ho] at hj
        cases hj
        exact haf e he hb
      · rw [if_neg (fun h => hji h.1)] at hl
        exact hI.closed j oj hj hl e he hb
    rw [getD_set]
    split
    · rfl
    · exact hold
  · rw [getD_set] at hl
    by_cases hji : i = j
    · subst hji
      rw [ho] at hj
      cases hj
      rw [hput, if_pos ⟨hd, by rw [hI.tsize, hn]; exact hlt t hd⟩]
      exact hPr
    · rw [if_neg (fun h => hji h.1)] at hl
      rw [hput, if_neg (fun h => hji (hdist j oj t hj h.1 hd))]
      exact hst j _ hl (hI.vals j oj t hj hl hd)
/-- What holds on the way; also: what has not come up has not written. -/
structure EachG (ops : Array Oper) (a0 : Act) (G : Array Bool → World → Prop) (Pr : Array Bool → Nat → Value → World → Prop) (listed : Array Bool) (a : Act) (w : World) : Prop extends Each ops a0 G Pr listed a w where
  old : ∀ (i : Nat) (o : Oper) (t : Nat), ops[i]? = some o → listed.getD i false = false → o.dst = some t → a.tmps[t]?.getD undef = a0.tmps[t]?.getD undef
/-- What an operation owes. -/
def Owes (F : Fence) (m : Nat) (P : Program) (ops : Array Oper) (Q : Exit → Act → World → Prop) (G : Array Bool → World → Prop) (Pr : Array Bool → Nat → Value → World → Prop) (i : Nat) (o : Oper) (listed : Array Bool) (a : Act) (W : World) : Prop :=
  wpOpIn F m P ops Q i (fun a' W' => ∃ v, a' = a.put o.dst v ∧ Pr (listed.setIfInBounds i true) i v W' ∧ G (listed.setIfInBounds i true) W' ∧ ∀ j u, listed.getD j false = true → Pr listed j u W → Pr (listed.setIfInBounds i true) j u W') a W
/-- **The law, within a fence.** -/
theorem wpIn_region_eachg {F : Fence} {m id : Nat} {a0 : Act} {w : World} (hm : P.follows .mixedOrders = true) (n : Nat) (hn : a0.tmps.size = n) (hB : apartG .any ops n = true) (G : Array Bool → World → Prop) (Pr : Array Bool → Nat → Value → World → Prop)
    (h0 : G (Array.replicate ops.size false) w.drew)
    (hop : ∀ (i : Nat) (o : Oper), ops[i]? = some o → ∀ (listed : Array Bool) (a : Act) (W : World), EachG ops a0 G Pr listed a W → listed.getD i true = false → (∀ e ∈ o.after, Region.binds .any e = true → listed.getD e.on false = true) → Owes F m P ops Q G Pr i o listed a W)
    (hend : ∀ a W, Each ops a0 G Pr (Array.replicate ops.size true) a W → Q .normal a W) : (Code.region id ops true).wpIn F m P Q a0 w := by
  refine wpIn_region_any hm (wpAnyIn_inv (EachG ops a0 G Pr) ?_ ?_ _ _ _ _ ?_ ⟨each_start h0, fun _ _ _ _ _ _ => rfl⟩)
  · intro listed a W i hI hi
    obtain ⟨h1, o, ho, haf⟩ := mem_ready.1 hi
    refine wpOpIn_mono ?_ (hop i o ho listed a W hI h1 haf)
    rintro a' W' ⟨v, rfl, x1, x2, x3⟩
    refine ⟨each_put n hn hB G Pr listed a W i o ho hI.toEach haf v W' x1 x2 x3, fun j oj t hj hl hd => ?_⟩
    rw [getD_set] at hl
    have hil := getD_lt h1
    have hji : i ≠ j := fun e => by
      subst e
      rw [if_pos ⟨rfl, hil⟩] at hl
      cases hl
    rw [if_neg (fun h => hji h.1)] at hl
    rw [← hI.old j oj t hj hl hd]
    cases hdi : o.dst with
    | none => rfl
    | some d =>
      have hne : d ≠ t := fun e => hji ((apartG_spec hB i o ho).2.2 j oj t hj (by rw [hdi, e]) hd)
      simp [Act.put, hne]
  · intro listed a W hI hr
    have hall := all_listed (fun i o ho => (apartG_spec hB i o ho).2.1) hr hI.size
    have : listed = Array.replicate ops.size true := by
      apply Array.ext
      · simp [hI.size]
      · intro i h1 h2
        have := hall i (by rw [← hI.size]; exact h1)
        rw [Array.getD_eq_getD_getElem?, Array.getElem?_eq_getElem h1] at this
        simpa using this
    rw [this] at hI
    exact hend a W hI.toEach
  · unfold leftIn
    exact Nat.le_trans (List.length_filter_le _ _) (by simp)
theorem off_ofg {L : Array Bool} {i j : Nat} (hn : L.getD i true = false) (hc : L.getD j false = true → L.getD i false = true) : L.getD j false = false := by
  cases h : L.getD j false with
  | false => rfl
  | true =>
    have := hc h
    rw [getD_off hn] at this
    cases this
/-- A guard that is met, or not. -/
theorem wanted_is {o : Oper} {tmps : Array Value} {j t : Nat} {b c : Bool} (hg : o.guard = some (j, c)) (hd : (ops[j]?).bind (·.dst) = some t) (hv : tmps[t]?.getD undef = .bool b) : Region.wanted o (yielded ops tmps) = (b == c) := by
  have e : tmps[t]? = some (.bool b) := by
    cases h : tmps[t]? with
    | none => rw [h] at hv; cases hv
    | some v => rw [h] at hv; simp at hv; rw [hv]
  unfold Region.wanted yielded
  rw [hg]
  simp only [hd, Option.bind_some, e]
  cases b <;> cases c <;> rfl
/-- An operation that is wanted, and yields a value. -/
theorem owes_value {m : Nat} {G : Array Bool → World → Prop} {Pr : Array Bool → Nat → Value → World → Prop} {i : Nat} {o : Oper} {listed : Array Bool} {a : Act} {W W' : World} {v : Value} (ho : ops[i]? = some o) (hw : Region.wanted o (yielded ops a.tmps) = true) (hr : (execOp a.eval o).run P W = .ok (.value v) W')
    (hPr : Pr (listed.setIfInBounds i true) i v W') (hG : G (listed.setIfInBounds i true) W') (hst : ∀ j u, listed.getD j false = true → Pr listed j u W → Pr (listed.setIfInBounds i true) j u W') : Owes Fence.wide m P ops Q G Pr i o listed a W := by
  unfold Owes wpOpIn
  rw [ho]
  simp only [hw, if_true]
  refine ⟨fun f _ => trivial, ?_⟩
  show o.uponIn _ _ _ _ _ _ ((execOp a.eval o).run P W)
  rw [hr]
  exact ⟨v, rfl, hPr, hG, hst⟩
/-- One that is passed over. -/
theorem owes_none {m : Nat} {G : Array Bool → World → Prop} {Pr : Array Bool → Nat → Value → World → Prop} {i : Nat} {o : Oper} {listed : Array Bool} {a : Act} {W : World} (ho : ops[i]? = some o) (hw : Region.wanted o (yielded ops a.tmps) = false)
    (hPr : Pr (listed.setIfInBounds i true) i undef W) (hG : G (listed.setIfInBounds i true) W) (hst : ∀ j u, listed.getD j false = true → Pr listed j u W → Pr (listed.setIfInBounds i true) j u W) : Owes Fence.wide m P ops Q G Pr i o listed a W := by
  unfold Owes wpOpIn
  rw [ho]
  simp only [hw, Bool.false_eq_true, if_false]
  exact ⟨fun f _ => trivial, undef, rfl, hPr, hG, hst⟩
/-- One that is wanted, and calls a function. -/
theorem owes_call {m : Nat} {G : Array Bool → World → Prop} {Pr : Array Bool → Nat → Value → World → Prop} {i : Nat} {o : Oper} {listed : Array Bool} {a : Act} {W : World} {f : FuncId} {args : Array Value} {R : Ending → World → Prop} (ho : ops[i]? = some o) (hw : Region.wanted o (yielded ops a.tmps) = true) (hr : (execOp a.eval o).run P W = .ok (.enter f args) W)
    (hR : CallsIn Fence.wide (m - 1) P f args W R) (hRr : ∀ e W', R e W' → ∃ v, e = .returned v ∧ Pr (listed.setIfInBounds i true) i v W' ∧ G (listed.setIfInBounds i true) W' ∧ ∀ j u, listed.getD j false = true → Pr listed j u W → Pr (listed.setIfInBounds i true) j u W') : Owes Fence.wide m P ops Q G Pr i o listed a W := by
  unfold Owes wpOpIn
  rw [ho]
  simp only [hw, if_true]
  refine ⟨fun f _ => trivial, ?_⟩
  show o.uponIn _ _ _ _ _ _ ((execOp a.eval o).run P W)
  rw [hr]
  refine ⟨fun e => (by cases e), hR.mono fun e W' h => ?_⟩
  obtain ⟨v, rfl, x1, x2, x3⟩ := hRr e W' h
  exact ⟨v, rfl, x1, x2, x3⟩
/-- One that is wanted, and calls back. -/
theorem owes_round {m : Nat} {G : Array Bool → World → Prop} {Pr : Array Bool → Nat → Value → World → Prop} {i : Nat} {o : Oper} {listed : Array Bool} {a : Act} {W : World} {l : Nat} {fn : FuncId} {tmps : Array Value} {assign body : Code} {R : Ending → World → Prop} (ho : ops[i]? = some o) (hw : Region.wanted o (yielded ops a.tmps) = true) (hr : (execOp a.eval o).run P W = .ok (.round l fn tmps assign body) W)
    (hR : RoundIn Fence.wide (m - 1) P l fn tmps assign body W R) (hRr : ∀ e W', R e W' → ∃ v, e = .returned v ∧ Pr (listed.setIfInBounds i true) i v W' ∧ G (listed.setIfInBounds i true) W' ∧ ∀ j u, listed.getD j false = true → Pr listed j u W → Pr (listed.setIfInBounds i true) j u W') : Owes Fence.wide m P ops Q G Pr i o listed a W := by
  unfold Owes wpOpIn
  rw [ho]
  simp only [hw, if_true]
  refine ⟨fun f _ => trivial, ?_⟩
  show o.uponIn _ _ _ _ _ _ ((execOp a.eval o).run P W)
  rw [hr]
  refine ⟨fun e => (by cases e), hR.mono fun e W' h => ?_⟩
  obtain ⟨v, rfl, x1, x2, x3⟩ := hRr e W' h
  exact ⟨v, rfl, x1, x2, x3⟩
end
end Go.Proofs.Ytghhhlbpolhkhaa
