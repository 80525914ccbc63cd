/- A region that draws its order, whose last operation waits for all the others, and the others only read: one walk of the lexical order, and then the last one. -/
import Derived.Test.YtaonchdpnllhpaaRI
import Derived.Deep.QuietTactic
import Derived.BigQuiet
namespace Go.Proofs.Ytaonchdpnllhpaa
open Go.RowKit
section
variable {P : Program} {C : World → Prop}
/-- The operation without its deed. -/
def stillOf (s : Oper) : Oper := { dst := none, op := .move (.const undef), type := s.type, pos := s.pos, after := s.after, guard := s.guard }
def stillLast : List Oper → List Oper
  | [] => []
  | [s] => [stillOf s]
  | o :: l => o :: stillLast l
def lastOp : List Oper → Oper
  | [] => default
  | [s] => s
  | _ :: l => lastOp l
theorem stillLast_len : ∀ l : List Oper, (stillLast l).length = l.length
  | [] => rfl
  | [_] => rfl
  | _ :: b :: l => congrArg (· + 1) (stillLast_len (b :: l))
theorem lastOp_at : ∀ (l : List Oper), l ≠ [] → l[l.length - 1]? = some (lastOp l)
  | [], h => absurd rfl h
  | [_], _ => rfl
  | _ :: b :: l, _ => by
    have h := lastOp_at (b :: l) (by simp)
    simp only [List.length_cons, Nat.add_sub_cancel] at h ⊢
    rw [List.getElem?_cons_succ]
    exact h
theorem stillLast_at : ∀ (l : List Oper) (j : Nat), (stillLast l)[j]? = if j + 1 = l.length then some (stillOf (lastOp l)) else l[j]?
  | [], j => by simp [stillLast]
  | [s], j => by
    cases j with
    | zero => rfl
    | succ j => simp [stillLast]
  | o :: b :: l, j => by
    cases j with
    | zero => simp [stillLast]
    | succ j =>
      have h := stillLast_at (b :: l) j
      simp only [stillLast, List.getElem?_cons_succ, List.length_cons, lastOp] at h ⊢
      rw [h]
      by_cases hj : j + 1 = l.length + 1
      · rw [if_pos hj, if_pos (by omega)]
      · rw [if_neg hj, if_neg (by omega)]
/-- The last one waits for all the others. -/
def waitsB (md : Region.Mode) (l : List Oper) : Bool := (List.range (l.length - 1)).all fun j => (lastOp l).after.any fun e => Region.binds md e && decide (e.on = j)
theorem waitsB_spec {md : Region.Mode} {l : List Oper} (h : waitsB md l = true) : ∀ j, j + 1 < l.length → ∃ e ∈ (lastOp l).after, Region.binds md e = true ∧ e.on = j := by
  intro j hj
  have := List.all_eq_true.1 h j (List.mem_range.2 (by omega))
  rw [Array.any_eq_true'] at this
  obtain ⟨e, he, h2⟩ := this
  simp only [Bool.and_eq_true, decide_eq_true_eq] at h2
  exact ⟨e, he, h2.1, h2.2⟩
theorem last_done {md : Region.Mode} {l : List Oper} (hl : l ≠ []) (hw : waitsB md l = true) {listed : Array Bool} (hr : l.length - 1 ∈ Region.ready md l.toArray listed) : Region.ready md l.toArray (listed.setIfInBounds (l.length - 1) true) = [] := by
  have hlen := List.length_pos_iff.2 hl
  obtain ⟨h1, o, ho, haf⟩ := mem_ready.1 hr
  have hs : o = lastOp l := by
    have := lastOp_at l hl
    rw [List.getElem?_toArray] at ho
    rw [this] at ho
    exact (Option.some.inj ho).symm
  subst hs
  rw [List.eq_nil_iff_forall_not_mem]
  intro j hj
  obtain ⟨h2, o2, ho2, -⟩ := mem_ready.1 hj
  have hjl : j < l.length := by
    have := (Array.getElem?_eq_some_iff.1 ho2).1
    simpa using this
  rw [getD_set] at h2
  by_cases hjk : l.length - 1 = j
  · subst hjk
    rw [if_pos ⟨rfl, getD_lt h1⟩] at h2
    cases h2
  · rw [if_neg (fun h => hjk h.1)] at h2
    obtain ⟨e, he, hb, rfl⟩ := waitsB_spec hw j (by omega)
    have h3 := haf e he hb
    have h4 := getD_lt h2
    rw [Array.getD_eq_getD_getElem?, Array.getElem?_eq_getElem h4] at h2 h3
    simp only [Option.getD_some] at h2 h3
    rw [h2] at h3
    cases h3
theorem ready_still {md : Region.Mode} {l : List Oper} (hl : l ≠ []) {listed : Array Bool} {j : Nat} (h : j ∈ Region.ready md l.toArray listed) : j ∈ Region.ready md (stillLast l).toArray listed := by
  obtain ⟨h1, o, ho, haf⟩ := mem_ready.1 h
  have hlen := List.length_pos_iff.2 hl
  refine mem_ready.2 ⟨h1, ?_⟩
  rw [List.getElem?_toArray, stillLast_at]
  rw [List.getElem?_toArray] at ho
  by_cases hj : j + 1 = l.length
  · rw [if_pos hj]
    have := lastOp_at l hl
    rw [show l.length - 1 = j by omega, ho] at this
    obtain rfl := Option.some.inj this
    exact ⟨_, rfl, haf⟩
  · rw [if_neg hj]
    exact ⟨o, ho, haf⟩
theorem still_ready {md : Region.Mode} {l : List Oper} (hl : l ≠ []) {listed : Array Bool} {j : Nat} (h : j ∈ Region.ready md (stillLast l).toArray listed) : j ∈ Region.ready md l.toArray listed := by
  obtain ⟨h1, o, ho, haf⟩ := mem_ready.1 h
  have hlen := List.length_pos_iff.2 hl
  refine mem_ready.2 ⟨h1, ?_⟩
  rw [List.getElem?_toArray, stillLast_at] at ho
  rw [List.getElem?_toArray]
  by_cases hj : j + 1 = l.length
  · rw [if_pos hj] at ho
    obtain rfl := Option.some.inj ho
    have := lastOp_at l hl
    rw [show l.length - 1 = j by omega] at this
    exact ⟨_, this, haf⟩
  · rw [if_neg hj] at ho
    exact ⟨o, ho, haf⟩
theorem wpAny_last {l : List Oper} {n : Nat} (hl : l ≠ []) (hB : apartB .any l.toArray n = true) (hw : waitsB .any l = true) {Q : Exit → Act → World → Prop} {R : Act → Prop} (hR : ∀ a w, C w → R a → (lastOp l).wp P a w (fun a' w' => Q .normal a' w') Q) :
    ∀ (fuel : Nat) (listed : Array Bool) (a : Act) (w : World), C w → listed.size = l.length → listed.getD (l.length - 1) true = false → wpAnyQ P .any (stillLast l).toArray C R fuel listed a → wpAny P .any l.toArray Q fuel listed a w := by
  have spec := apartB_spec hB
  have hlen := List.length_pos_iff.2 hl
  have hk := lastOp_at l hl
  have never : ∀ listed : Array Bool, listed.size = l.length → listed.getD (l.length - 1) true = false → Region.ready .any l.toArray listed ≠ [] := fun listed hs h1 hr => by
    have := all_listed (fun i o ho => (spec i o ho).2.2.1) hr (by simpa using hs) (l.length - 1) (by simp; omega)
    rw [getD_off h1] at this
    cases this
  have empty : ∀ {listed : Array Bool}, Region.ready .any l.toArray listed = [] → Region.ready .any (stillLast l).toArray listed = [] := fun h => by
    rw [List.eq_nil_iff_forall_not_mem]
    intro j hj
    have := still_ready hl hj
    rw [h] at this
    cases this
  intro fuel
  induction fuel with
  | zero => exact fun listed a w hC hs h1 h => absurd (by
      have := h.1
      rw [List.eq_nil_iff_forall_not_mem] at this ⊢
      exact fun j hj => this j (ready_still hl hj)) (never listed hs h1)
  | succ fuel ih =>
    intro listed a w hC hs h1 h
    refine ⟨fun h0 => absurd h0 (never listed hs h1), fun i hi => ?_⟩
    have hq := h.2 i (ready_still hl hi)
    obtain ⟨h2, o, ho, -⟩ := mem_ready.1 hi
    have hg := (spec i o ho).1
    unfold wpOp
    rw [ho]
    have hwt : Region.wanted o (yielded l.toArray a.tmps) = true := by simp [Region.wanted, hg]
    simp only [hwt, if_true]
    refine .inl ?_
    unfold qOp at hq
    rw [List.getElem?_toArray] at ho
    rw [List.getElem?_toArray, stillLast_at] at hq
    by_cases hik : i + 1 = l.length
    · obtain rfl : i = l.length - 1 := by omega
      obtain rfl : lastOp l = o := Option.some.inj (hk.symm.trans ho)
      rw [if_pos hik] at hq
      simp only at hq
      have hdone := last_done hl hw hi
      have hw' : Region.wanted (stillOf (lastOp l)) (yielded (stillLast l).toArray a.tmps) = true := by
        unfold Region.wanted stillOf
        simp [hg]
      rw [if_pos hw'] at hq
      obtain ⟨v, -, hK⟩ := hq
      have hR' : R a := by
        cases fuel with
        | zero => exact hK.2
        | succ f => exact hK.1 (empty hdone)
      refine Oper.wp_mono (fun a' w' hq' => ?_) (hR a w hC hR')
      cases fuel with
      | zero => exact ⟨hdone, hq'⟩
      | succ f => exact ⟨fun _ => hq', fun j hj => by rw [hdone] at hj; cases hj⟩
    · rw [if_neg hik, ho] at hq
      simp only at hq
      have hw' : Region.wanted o (yielded (stillLast l).toArray a.tmps) = true := by simp [Region.wanted, hg]
      rw [if_pos hw'] at hq
      refine Oper.wp_of_quiet hC (fun a' w' hw2 hK => ih _ a' w' hw2 (by simpa using hs) ?_ hK) hq
      rw [getD_set, if_neg (by omega)]
      exact h1
/-- **The law.** -/
theorem wp_region_quiet_last {id n : Nat} {Q : Exit → Act → World → Prop} {a : Act} {w : World} {l : List Oper} (hm : P.follows .mixedOrders = true) (hl : l.isEmpty = false) (hB : apartB .any l.toArray n = true) (hw : waitsB .any l = true) (hX : Region.lexB .any (stillLast l).toArray = true)
    (h : wpQuiet P (stillLast l).toArray (fun w' => ∃ n, w' = w.drewN n) (fun a' => ∀ w', (∃ n, w' = w.drewN n) → (lastOp l).wp P a' w' (fun a'' w'' => Q .normal a'' w'') Q) (stillLast l) a) : (Code.region id l.toArray true).wp P Q a w := by
  have hl' : l ≠ [] := by
    rintro rfl
    cases hl
  have hlen := List.length_pos_iff.2 hl'
  simp only [Region.lexB, Bool.and_eq_true] at hX
  refine wp_region_any hm (wpAny_last (C := fun w' => ∃ n, w' = w.drewN n) (R := fun a' => ∀ w', (∃ n, w' = w.drewN n) → (lastOp l).wp P a' w' (fun a'' w'' => Q .normal a'' w'') Q) hl' hB hw (fun a' w' hC hR => hR w' hC) _ _ _ _ ⟨1, rfl⟩ (by simp) ?_ ?_)
  · rw [Array.getD_eq_getD_getElem?, Array.getElem?_replicate, if_pos (by simp; omega)]
    rfl
  · have h5 := wpAnyQ_lex (C := fun w' => ∃ n, w' = w.drewN n) (md := .any) hX.1 (stillLast l) 0 (Array.replicate (stillLast l).toArray.size false) a (by simp) (by simpa using hX.2) h
    have e : (stillLast l).toArray.size = l.toArray.size := by simp [stillLast_len]
    rw [e] at h5
    rw [stillLast_len] at h5
    simpa using h5
end
end Go.Proofs.Ytaonchdpnllhpaa
