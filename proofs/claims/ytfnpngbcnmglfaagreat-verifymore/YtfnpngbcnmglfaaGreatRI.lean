/- A region that draws its order, by what each of its operations leaves: whatever order is drawn. The document's Clone: what its region of four copies leaves, in whatever order. -/
import Derived.Test.YtfnpngbcnmglfaaGreatPlain
import Derived.Orders
import Derived.Test.YtfnpngbcnmglfaaGreatAN
namespace Go.Proofs.YtfnpngbcnmglfaaGreat
open Go.RowKit
section
variable {P : Program} {ops : Array Oper} {Q : Exit → Act → World → Prop} {md : Region.Mode}
/-- How many have not come up. -/
def leftIn (n : Nat) (listed : Array Bool) : Nat := ((List.range n).filter fun i => !listed.getD i true).length
theorem filter_less {α : Type} {p q : α → Bool} : ∀ (l : List α), (∀ x ∈ l, p x = true → q x = true) → (∃ x ∈ l, q x = true ∧ p x = false) → (l.filter p).length + 1 ≤ (l.filter q).length
  | [], _, ⟨x, hx, _⟩ => by cases hx
  | y :: l, h, ⟨x, hx, hq, hp⟩ => by
    have hle : (l.filter p).length ≤ (l.filter q).length := by
      have : ∀ (l : List α), (∀ x ∈ l, p x = true → q x = true) → (l.filter p).length ≤ (l.filter q).length := by
        intro l
        induction l with
        | nil => intro _; simp
        | cons z l ih =>
          intro h
          have hz := h z (by simp)
          have ih := ih fun x hx => h x (by simp [hx])
          cases hpz : p z <;> cases hqz : q z <;> simp [hpz, hqz] at hz ⊢ <;> omega
      exact this l fun x hx => h x (by simp [hx])
    rcases List.mem_cons.1 hx with rfl | hm
    · simp [hq, hp]; omega
    · have ih := filter_less l (fun x hx => h x (by simp [hx])) ⟨x, hm, hq, hp⟩
      have hy := h y (by simp)
      cases hpy : p y <;> cases hqy : q y <;> simp [hpy, hqy] at hy ⊢ <;> omega
theorem getD_set (listed : Array Bool) (i j : Nat) (d : Bool) : (listed.setIfInBounds i true).getD j d = if i = j ∧ j < listed.size then true else listed.getD j d := by
  simp only [Array.getD_eq_getD_getElem?, Array.getElem?_setIfInBounds]
  by_cases h : i = j
  · subst h
    by_cases h2 : i < listed.size
    · simp [h2]
    · simp [h2]
  · simp [h]
theorem getD_lt {listed : Array Bool} {i : Nat} (h : listed.getD i true = false) : i < listed.size := by
  rcases Nat.lt_or_ge i listed.size with h1 | h1
  · exact h1
  · rw [Array.getD_eq_getD_getElem?, Array.getElem?_eq_none h1] at h
    cases h
theorem left_set {n i : Nat} {listed : Array Bool} (hn : i < n) (h : listed.getD i true = false) : leftIn n (listed.setIfInBounds i true) + 1 ≤ leftIn n listed := by
  have hi := getD_lt h
  refine filter_less _ (fun x _ hx => ?_) ⟨i, List.mem_range.2 hn, by rw [h]; rfl, by rw [getD_set, if_pos ⟨rfl, hi⟩]; rfl⟩
  rw [getD_set] at hx
  split at hx
  · cases hx
  · exact hx
theorem wpAny_inv (Inv : Array Bool → Act → World → Prop)
    (hstep : ∀ listed a w i, Inv listed a w → i ∈ Region.ready md ops listed → wpOp P ops Q i (fun a' w' => Inv (listed.setIfInBounds i true) a' w') a w)
    (hend : ∀ listed a w, Inv listed a w → Region.ready md ops listed = [] → Q .normal a w) :
    ∀ fuel listed a w, leftIn ops.size listed ≤ fuel → Inv listed a w → wpAny P md ops Q fuel listed a w
  | 0, listed, a, w, hf, h => by
    have hr : Region.ready md ops listed = [] := by
      cases hr : Region.ready md ops listed with
      | nil => rfl
      | cons i r =>
        have hi : i ∈ Region.ready md ops listed := by rw [hr]; simp
        obtain ⟨h1, o, ho, _⟩ := mem_ready.1 hi
        have : i ∈ (List.range ops.size).filter fun i => !listed.getD i true := List.mem_filter.2 ⟨List.mem_range.2 (Array.getElem?_eq_some_iff.1 ho).1, by rw [h1]; rfl⟩
        have := List.length_pos_of_mem this
        unfold leftIn at hf
        omega
    exact ⟨hr, hend _ _ _ h hr⟩
  | fuel + 1, listed, a, w, hf, h => by
    refine ⟨hend _ _ _ h, fun i hi => ?_⟩
    obtain ⟨h1, o, ho, _⟩ := mem_ready.1 hi
    have := left_set (Array.getElem?_eq_some_iff.1 ho).1 h1
    exact wpOp_mono (fun a' w' h' => wpAny_inv Inv hstep hend fuel _ a' w' (by omega) h') (hstep _ _ _ i h hi)
theorem all_listed {listed : Array Bool} (hB : ∀ (i : Nat) (o : Oper), ops[i]? = some o → ∀ e ∈ o.after, Region.binds md e = true → e.on < i) (hr : Region.ready md ops listed = []) (hsz : listed.size = ops.size) : ∀ i, i < ops.size → listed.getD i false = true := by
  intro i
  induction i using Nat.strongRecOn with
  | _ i ih =>
    intro hi
    cases h : listed.getD i true with
    | false =>
      have : i ∈ Region.ready md ops listed := mem_ready.2 ⟨h, ops[i], Array.getElem?_eq_getElem hi, fun e he hb => by
        have hlt := hB i _ (Array.getElem?_eq_getElem hi) e he hb
        exact ih _ hlt (by omega)⟩
      rw [hr] at this
      cases this
    | true =>
      rw [Array.getD_eq_getD_getElem?, Array.getElem?_eq_getElem (by omega)] at h ⊢
      exact h
/-- What holds on the way. -/
structure Each (ops : Array Oper) (a0 : Act) (G : Array Bool → World → Prop) (Pr : Array Bool → Nat → Value → World → Prop) (listed : Array Bool) (a : Act) (w : World) : Prop where
  size : listed.size = ops.size
  tsize : a.tmps.size = a0.tmps.size
  defers : a.defers = a0.defers
  rest : ∀ t : Nat, (∀ (i : Nat) (o : Oper), ops[i]? = some o → o.dst ≠ some t) → a.tmps[t]?.getD undef = a0.tmps[t]?.getD undef
  glob : G listed w
  closed : ∀ (i : Nat) (o : Oper), ops[i]? = some o → listed.getD i false = true → ∀ e ∈ o.after, Region.binds .any e = true → listed.getD e.on false = true
  vals : ∀ (i : Nat) (o : Oper) (t : Nat), ops[i]? = some o → listed.getD i false = true → o.dst = some t → Pr listed i (a.tmps[t]?.getD undef) w
/-- The operations' temporaries are apart, and lie in the frame; each waits for earlier ones alone; none is guarded. -/
def apartB (md : Region.Mode) (ops : Array Oper) (n : Nat) : Bool :=
  (List.range ops.size).all fun i => (match ops[i]? with
    | none => false
    | some o => o.guard.isNone && (match o.dst with | none => true | some t => decide (t < n)) && o.after.all (fun e => !Region.binds md e || decide (e.on < i)) &&
      (List.range ops.size).all fun j => decide (i = j) || (match o.dst, (ops[j]?).bind (·.dst) with
        | some t, some u => decide (t ≠ u)
        | _, _ => true))
theorem apartB_spec {n : Nat} (h : apartB md ops n = true) : ∀ (i : Nat) (o : Oper), ops[i]? = some o → o.guard = none ∧ (∀ t, o.dst = some t → t < n) ∧ (∀ e ∈ o.after, Region.binds md e = true → e.on < i) ∧ ∀ (j : Nat) (o' : Oper) (t : Nat), ops[j]? = some o' → o.dst = some t → o'.dst = some t → i = j := by
  intro i o ho
  have hi := (Array.getElem?_eq_some_iff.1 ho).1
  have := List.all_eq_true.1 h i (List.mem_range.2 hi)
  rw [ho] at this
  simp only [Bool.and_eq_true] at this
  obtain ⟨⟨⟨h1, h2⟩, h3⟩, h4⟩ := this
  refine ⟨by simpa using h1, fun t ht => ?_, fun e he hb => ?_, fun j o' t hj ht hu => ?_⟩
  · rw [ht] at h2; exact of_decide_eq_true h2
  · have := Array.all_eq_true'.1 h3 e he
    rw [hb] at this
    simpa using this
  · have := List.all_eq_true.1 h4 j (List.mem_range.2 (Array.getElem?_eq_some_iff.1 hj).1)
    rw [ht, hj] at this
    simp only [Option.bind_some, hu] at this
    simpa using this
/-- One operation more. -/
theorem each_step {a0 : Act} (n : Nat) (hn : a0.tmps.size = n) (hB : apartB .any ops n = true) (G : Array Bool → World → Prop) (Pr : Array Bool → Nat → Value → World → Prop)
    (hop : ∀ (i : Nat) (o : Oper), ops[i]? = some o → ∀ (listed : Array Bool) (a : Act) (W : World), Each ops a0 G Pr listed a W → listed.getD i true = false → (∀ e ∈ o.after, Region.binds .any e = true → listed.getD e.on false = true) →
      o.wp P a W (fun a' W' => ∃ v, a' = a.put o.dst v ∧ Pr (listed.setIfInBounds i true) i v W' ∧ G (listed.setIfInBounds i true) W' ∧ ∀ j u, listed.getD j false = true → Pr listed j u W → Pr (listed.setIfInBounds i true) j u W') Q)
    (listed : Array Bool) (a : Act) (W : World) (i : Nat) (hI : Each ops a0 G Pr listed a W) (hi : i ∈ Region.ready .any ops listed) :
    ∃ o, ops[i]? = some o ∧ Region.wanted o (yielded ops a.tmps) = true ∧ o.wp P a W (fun a' w' => Each ops a0 G Pr (listed.setIfInBounds i true) a' w') Q := by
  have spec := apartB_spec hB
  obtain ⟨h1, o, ho, haf⟩ := mem_ready.1 hi
  obtain ⟨hg, hlt, _, hdist⟩ := spec i o ho
  have hw : Region.wanted o (yielded ops a.tmps) = true := by simp [Region.wanted, hg]
  refine ⟨o, ho, hw, Oper.wp_mono ?_ (hop i o ho listed a W hI h1 haf)⟩
  rintro a' W' ⟨v, rfl, hPr, hG, hst⟩
  have hil := getD_lt h1
  have hput : ∀ t : Nat, (a.put o.dst v).tmps[t]?.getD undef = if o.dst = some t ∧ t < a.tmps.size then v else a.tmps[t]?.getD undef := by
    intro t
    cases hd : o.dst with
    | none => simp [Act.put]
    | some d =>
      simp only [Act.put, Array.getElem?_setIfInBounds, Option.some.injEq]
      by_cases hdt : d = t
      · subst hdt
        by_cases h2 : d < a.tmps.size
        · simp [h2]
        · simp [h2]
      · simp [hdt]
  refine ⟨by simp [hI.size], ?_, ?_, fun t ht => ?_, hG, fun j oj hj hl e he hb => ?_, fun j oj t hj hl hd => ?_⟩
  · cases hd : o.dst <;> simp [Act.put, hI.tsize]
  · cases hd : o.dst <;> simp [Act.put, hI.defers]
  · rw [hput, if_neg (fun h => ht i o ho h.1)]
    exact hI.rest t ht
  · have hold : listed.getD e.on false = true := by
      rw [getD_set] at hl
      by_cases hji : i = j
      · subst hji
        rw [ho] at hj
        cases hj
        exact haf e he hb
      · rw [if_neg (fun h => hji h.1)] at hl
        exact hI.closed j oj hj hl e he hb
    rw [getD_set]
    split
    · rfl
    · exact hold
  · rw [getD_set] at hl
    by_cases hji : i = j
    · subst hji
      rw [ho] at hj
      cases hj
      rw [hput, if_pos ⟨hd, by rw [hI.tsize, hn]; exact hlt t hd⟩]
      exact hPr
    · rw [if_neg (fun h => hji h.1)] at hl
      rw [hput, if_neg (fun h => hji (hdist j oj t hj h.1 hd))]
      exact hst j _ hl (hI.vals j oj t hj hl hd)
theorem each_end {a0 : Act} (n : Nat) (hB : apartB .any ops n = true) {G : Array Bool → World → Prop} {Pr : Array Bool → Nat → Value → World → Prop} {listed : Array Bool} {a : Act} {W : World} (hI : Each ops a0 G Pr listed a W) (hr : Region.ready .any ops listed = []) : Each ops a0 G Pr (Array.replicate ops.size true) a W := by
  have spec := apartB_spec hB
  have hall := all_listed (fun i o ho => (spec i o ho).2.2.1) hr hI.size
  have : listed = Array.replicate ops.size true := by
    apply Array.ext
    · simp [hI.size]
    · intro i h1 h2
      have := hall i (by rw [← hI.size]; exact h1)
      rw [Array.getD_eq_getD_getElem?, Array.getElem?_eq_getElem h1] at this
      simpa using this
  rw [this] at hI
  exact hI
theorem each_start {a0 : Act} {w : World} {G : Array Bool → World → Prop} {Pr : Array Bool → Nat → Value → World → Prop} (h0 : G (Array.replicate ops.size false) w) : Each ops a0 G Pr (Array.replicate ops.size false) a0 w := by
  refine ⟨by simp, rfl, rfl, fun _ _ => rfl, h0, fun i o ho hl => ?_, fun i o t ho hl _ => ?_⟩
  all_goals
    rw [Array.getD_eq_getD_getElem?, Array.getElem?_replicate] at hl
    split at hl <;> cases hl
/-- **The law.** -/
theorem wp_region_each {id : Nat} {a0 : Act} {w : World} (hm : P.follows .mixedOrders = true) (n : Nat) (hn : a0.tmps.size = n) (hB : apartB .any ops n = true) (G : Array Bool → World → Prop) (Pr : Array Bool → Nat → Value → World → Prop)
    (h0 : G (Array.replicate ops.size false) w.drew)
    (hop : ∀ (i : Nat) (o : Oper), ops[i]? = some o → ∀ (listed : Array Bool) (a : Act) (W : World), Each ops a0 G Pr listed a W → listed.getD i true = false → (∀ e ∈ o.after, Region.binds .any e = true → listed.getD e.on false = true) →
      o.wp P a W (fun a' W' => ∃ v, a' = a.put o.dst v ∧ Pr (listed.setIfInBounds i true) i v W' ∧ G (listed.setIfInBounds i true) W' ∧ ∀ j u, listed.getD j false = true → Pr listed j u W → Pr (listed.setIfInBounds i true) j u W') Q)
    (hend : ∀ a W, Each ops a0 G Pr (Array.replicate ops.size true) a W → Q .normal a W) : (Code.region id ops true).wp P Q a0 w := by
  refine wp_region_any hm (wpAny_inv (Each ops a0 G Pr) ?_ ?_ _ _ _ _ ?_ (each_start h0))
  · intro listed a W i hI hi
    obtain ⟨o, ho, hw, h⟩ := each_step n hn hB G Pr hop listed a W i hI hi
    unfold wpOp
    rw [ho]
    simp only [hw, if_true]
    exact .inl h
  · intro listed a W hI hr
    exact hend a W (each_end n hB hI hr)
  · unfold leftIn
    exact Nat.le_trans (List.length_filter_le _ _) (by simp)
end
theorem op_value {P : Program} {o : Oper} {a : Act} {W W' : World} {K : Act → World → Prop} {Q : Exit → Act → World → Prop} {v : Value} (h : (execOp a.eval o).run P W = .ok (.value v) W') (hk : K (a.put o.dst v) W') : o.wp P a W K Q := by
  unfold Oper.wp
  rw [h]
  exact hk
theorem op_skip {P : Program} {o : Oper} {a : Act} {W W' : World} {K : Act → World → Prop} {Q : Exit → Act → World → Prop} (h : (execOp a.eval o).run P W = .ok .skip W') (hk : K (a.put o.dst undef) W') : o.wp P a W K Q := by
  unfold Oper.wp
  rw [h]
  exact hk
theorem rest_of {ops : Array Oper} {t : Nat} (h : (ops.all fun o => decide (o.dst ≠ some t)) = true) : ∀ (i : Nat) (o : Oper), ops[i]? = some o → o.dst ≠ some t := fun _ o ho => of_decide_eq_true (Array.all_eq_true'.1 h o (Array.mem_of_getElem? ho))
theorem getD_off {listed : Array Bool} {i : Nat} (h : listed.getD i true = false) : listed.getD i false = false := by
  have := getD_lt h
  rw [Array.getD_eq_getD_getElem?, Array.getElem?_eq_getElem this] at h ⊢
  exact h
theorem eval_tmp (a : Act) (t : Nat) : a.eval (.tmp t) = a.tmps[t]?.getD undef := by simp [Act.eval, Array.getD_eq_getD_getElem?]
/-- A list of a known length, written out. -/
theorem list_out {α : Type} (n : Nat) (l : List α) (h : l.length = n) (d : α) : l = (List.range n).map (fun i => l[i]?.getD d) := by
  apply List.ext_getElem
  · simp [h]
  · intro i h1 h2
    simp [h1]
theorem arr_out {α : Type} (n : Nat) (l : Array α) (h : l.size = n) (d : α) : l = ((List.range n).map (fun i => l[i]?.getD d)).toArray := by
  obtain ⟨l⟩ := l
  have := list_out n l (by simpa using h) d
  simp only [List.getElem?_toArray]
  congr 1
end Go.Proofs.YtfnpngbcnmglfaaGreat
namespace Go.Proofs.YtfnpngbcnmglfaaGreat
open Go.RowKit
/-- What each operation leaves: out's box is B, the function's is F. -/
def PrAt (B F base : Nat) (vF v0 v1 v2 v3 : Value) (f : Fn) (i : Nat) (u : Value) (W : World) : Prop :=
  match i with
  | 0 => u = .pointer (some ⟨B, 1, none⟩)
  | 1 => u = vF
  | 2 => ∃ g, u = .slice (some ⟨g, 0, none⟩) 0 0 ∧ base ≤ g ∧ W.heap[g]? = some (.cells #[] 3 (0, 0))
  | 3 => u = .pointer (some ⟨F, 0, none⟩)
  | 4 => u = v0
  | 5 => ∃ a c, u = .slice a f.p.length c ∧ NsAt (offRow W vF B) a f.p
  | 6 => ∃ g, u = .slice (some ⟨g, 0, none⟩) 0 0 ∧ base ≤ g ∧ W.heap[g]? = some (.cells #[] 3 (0, 0))
  | 7 => u = .pointer (some ⟨F, 1, none⟩)
  | 8 => u = v1
  | 9 => ∃ a c, u = .slice a f.r.length c ∧ NsAt (offRow W vF B) a f.r
  | 10 => ∃ g, u = .slice (some ⟨g, 0, none⟩) 0 0 ∧ base ≤ g ∧ W.heap[g]? = some (.cells #[] 3 (0, 0))
  | 11 => u = .pointer (some ⟨F, 2, none⟩)
  | 12 => u = v2
  | 13 => ∃ a c, u = .slice a f.l.length c ∧ NsAt (offRow W vF B) a f.l
  | 14 => ∃ g, u = .slice (some ⟨g, 0, none⟩) 0 0 ∧ base ≤ g ∧ W.heap[g]? = some (.cells #[] 83 (0, 0))
  | 15 => u = .pointer (some ⟨F, 3, none⟩)
  | 16 => u = v3
  | 17 => ∃ a c, u = .slice a f.code.length c ∧ IsAt (offRow W vF B) a f.code
  | 18 => ∃ u0 u1 u2 u3, u = .agg #[u0, u1, u2, u3] ∧ FnIs (offRow W vF B) f u0 u1 u2 u3
  | 19 => ∃ g u0 u1 u2 u3, u = .slice (some ⟨g, 0, none⟩) 1 1 ∧ W.heap[g]? = some (.cells #[u0, u1, u2, u3] 49 (0, 0)) ∧ FnIs (offRow W vF B) f u0 u1 u2 u3
  | 21 => u = .pointer (some ⟨B, 1, none⟩)
  | _ => True
theorem PrAt.below {B F base : Nat} {vF v0 v1 v2 v3 : Value} {f : Fn} {i : Nat} {u : Value} {W W' : World} (h : PrAt B F base vF v0 v1 v2 v3 f i u W) (hb : Below W.heap.size W W') : PrAt B F base vF v0 v1 v2 v3 f i u W' := by
  have hk := offRow_keep (v := vF) (B := B) (below_keep hb)
  unfold PrAt at h ⊢
  split at h
  all_goals first
    | exact h
    | (obtain ⟨g, rfl, h1, hg⟩ := h; exact ⟨g, rfl, h1, by rw [hb.block g (Array.getElem?_eq_some_iff.1 hg).1]; exact hg⟩)
    | (obtain ⟨a, c, rfl, hn⟩ := h; exact ⟨a, c, rfl, hn.keep hk⟩)
    | (obtain ⟨u0, u1, u2, u3, rfl, hn⟩ := h; exact ⟨u0, u1, u2, u3, rfl, hn.keep hk⟩)
    | (obtain ⟨g, u0, u1, u2, u3, rfl, hg, hn⟩ := h; exact ⟨g, u0, u1, u2, u3, rfl, by rw [hb.block g (Array.getElem?_eq_some_iff.1 hg).1]; exact hg, hn.keep hk⟩)
/-- The row with one function more. -/
def NewRow (B k : Nat) (fs : List Fn) (u : Value) (W : World) : Prop := ∃ xs, W.ownsRow (B + 1) 49 4 u (k + 1) xs ∧ FRow (offRow W u B) fs xs
theorem NewRow.below {B k : Nat} {fs : List Fn} {u : Value} {W W' : World} (h : NewRow B k fs u W) (hb : Below W.heap.size W W') : NewRow B k fs u W' := by
  obtain ⟨xs, h1, h2⟩ := h
  exact ⟨xs, row_below2 h1 hb, h2.keep (offRow_keep (below_keep hb))⟩
def CP (B F base k : Nat) (vF v0 v1 v2 v3 : Value) (f : Fn) (fs : List Fn) (listed : Array Bool) (i : Nat) (u : Value) (W : World) : Prop :=
  if i = 20 then listed.getD 22 false = true ∨ NewRow B k fs u W else (listed.getD 20 false = true ∧ i ≠ 21) ∨ PrAt B F base vF v0 v1 v2 v3 f i u W
structure CG (B F k : Nat) (vS vF v0 v1 v2 v3 : Value) (fs : List Fn) (w3 W5 : World) (listed : Array Bool) (W : World) : Prop where
  low : Below B w3 W
  size : W5.heap.size ≤ W.heap.size
  fbox : W.heap[F]? = some (.cells #[v0, v1, v2, v3] 49 (0, 0))
  early : listed.getD 20 false = false → Below W5.heap.size W5 W
  obox : listed.getD 22 false = false → W.heap[B]? = some (.cells #[vS, vF] 27 (0, 0))
  fin : listed.getD 22 false = true → ∃ u, W.heap[B]? = some (.cells #[vS, u] 27 (0, 0)) ∧ NewRow B k fs u W
theorem getD_far {listed : Array Bool} {i j : Nat} (h : i ≠ j) : (listed.setIfInBounds i true).getD j false = listed.getD j false := by
  rw [getD_set, if_neg (fun e => h e.1)]
theorem CG.below {B F k : Nat} {vS vF v0 v1 v2 v3 : Value} {fs : List Fn} {w3 W5 : World} {listed : Array Bool} {W W' : World} (h : CG B F k vS vF v0 v1 v2 v3 fs w3 W5 listed W) (hB : B < W.heap.size) (hb : Below W.heap.size W W') {i : Nat} (h1 : i ≠ 20) (h2 : i ≠ 22) : CG B F k vS vF v0 v1 v2 v3 fs w3 W5 (listed.setIfInBounds i true) W' := by
  refine ⟨h.low.trans (hb.mono (by omega)), Nat.le_trans h.size hb.size, ?_, ?_, ?_, ?_⟩
  · rw [hb.block F (Array.getElem?_eq_some_iff.1 h.fbox).1]; exact h.fbox
  · rw [getD_far h1]; exact fun e => (h.early e).trans (hb.mono h.size)
  · rw [getD_far h2]; exact fun e => by rw [hb.block B hB]; exact h.obox e
  · rw [getD_far h2]
    intro e
    obtain ⟨u, q1, q2⟩ := h.fin e
    exact ⟨u, by rw [hb.block B hB]; exact q1, q2.below hb⟩
theorem CP.below {B F base k : Nat} {vF v0 v1 v2 v3 : Value} {f : Fn} {fs : List Fn} {listed : Array Bool} {W W' : World} (hb : Below W.heap.size W W') {i : Nat} (h1 : i ≠ 20) (h2 : i ≠ 22) : ∀ j u, listed.getD j false = true → CP B F base k vF v0 v1 v2 v3 f fs listed j u W → CP B F base k vF v0 v1 v2 v3 f fs (listed.setIfInBounds i true) j u W' := by
  intro j u _ h
  unfold CP at h ⊢
  rw [getD_far h1, getD_far h2]
  split at h
  · rename_i e
    rw [if_pos e]
    exact h.imp id fun h => h.below hb
  · rename_i e
    rw [if_neg e]
    exact h.imp id fun h => h.below hb
theorem ownsRow_setCell_other' {w : World} {base n size B o : Nat} {e : TypeId} {v : Value} {xs : List Value} (h : w.ownsRow base e size v n xs) (hB : B < base) (u : Value) : (w.setCell ⟨B, o, none⟩ u).ownsRow base e size v n xs := by
  refine ⟨h.1, ?_⟩
  rcases h.2 with h2 | ⟨g, cap, cur, rfl, hg, hh, r⟩
  · exact .inl h2
  · exact .inr ⟨g, cap, cur, rfl, hg, by rw [Below.heap_setCell _ _ _ _ (by show g ≠ B; omega)]; exact hh, r⟩
/-- A step that only makes memory. -/
theorem clone_step {B F base k : Nat} {vS vF v0 v1 v2 v3 : Value} {f : Fn} {fs : List Fn} {w3 W5 : World} {listed : Array Bool} {W W' : World} {a : Act} {dst : Option Tmp} {i : Nat} {v : Value} (hG : CG B F k vS vF v0 v1 v2 v3 fs w3 W5 listed W) (hB : B < W.heap.size) (hb : Below W.heap.size W W') (h1 : i ≠ 20) (h2 : i ≠ 22) (hv : PrAt B F base vF v0 v1 v2 v3 f i v W') :
    ∃ u, a.put dst v = a.put dst u ∧ CP B F base k vF v0 v1 v2 v3 f fs (listed.setIfInBounds i true) i u W' ∧ CG B F k vS vF v0 v1 v2 v3 fs w3 W5 (listed.setIfInBounds i true) W' ∧ ∀ j u, listed.getD j false = true → CP B F base k vF v0 v1 v2 v3 f fs listed j u W → CP B F base k vF v0 v1 v2 v3 f fs (listed.setIfInBounds i true) j u W' :=
  ⟨v, rfl, by unfold CP; rw [if_neg h1]; exact .inr hv, hG.below hB hb h1 h2, CP.below hb h1 h2⟩
end Go.Proofs.YtfnpngbcnmglfaaGreat
