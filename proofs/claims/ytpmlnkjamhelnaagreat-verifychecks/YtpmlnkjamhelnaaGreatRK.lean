/- As wp_region_each (RI), with a ghost that each operation may turn. A copy of a script all of whose rows of numbers are its own, and apart: what the region of Clone leaves (with a ghost: whose row a block is). -/
import Derived.Test.YtpmlnkjamhelnaaGreatAN
import Derived.Test.YtpmlnkjamhelnaaGreatCB
namespace Go.Proofs.YtpmlnkjamhelnaaGreat
open Go.RowKit
section
variable {P : Program} {ops : Array Oper} {Q : Exit → Act → World → Prop} {Γ : Type}
/-- One operation more: what its own fact and the others' become. -/
theorem each_put {a0 : Act} (n : Nat) (hn : a0.tmps.size = n) (hB : apartB .any ops n = true) {G G' : Array Bool → World → Prop} {Pr Pr' : Array Bool → Nat → Value → World → Prop} {listed : Array Bool} {a : Act} {W W' : World} {i : Nat} {o : Oper} {v : Value} (ho : ops[i]? = some o) (hI : Each ops a0 G Pr listed a W) (h1 : listed.getD i true = false) (haf : ∀ e ∈ o.after, Region.binds .any e = true → listed.getD e.on false = true)
    (hPr : Pr' (listed.setIfInBounds i true) i v W') (hG : G' (listed.setIfInBounds i true) W') (hst : ∀ j u, listed.getD j false = true → Pr listed j u W → Pr' (listed.setIfInBounds i true) j u W') : Each ops a0 G' Pr' (listed.setIfInBounds i true) (a.put o.dst v) W' := by
  have spec := apartB_spec hB
  obtain ⟨hg, hlt, _, hdist⟩ := spec i o ho
  have hil := getD_lt h1
  have hput : ∀ t : Nat, (a.put o.dst v).tmps[t]?.getD undef = if o.dst = some t ∧ t < a.tmps.size then v else a.tmps[t]?.getD undef := by
    intro t
    cases hd : o.dst with
    | none => simp [Act.put]
    | some d =>
      simp only [Act.put, Array.getElem?_setIfInBounds, Option.some.injEq]
      by_cases hdt : d = t
      · subst hdt
        by_cases h2 : d < a.tmps.size
        · simp [h2]
        · simp [h2]
      · simp [hdt]
  refine ⟨by simp [hI.size], ?_, ?_, fun t ht => ?_, hG, fun j oj hj hl e he hb => ?_, fun j oj t hj hl hd => ?_⟩
  · cases hd : o.dst <;> simp [Act.put, hI.tsize]
  · cases hd : o.dst <;> simp [Act.put, hI.defers]
  · rw [hput, if_neg (fun h => ht i o ho h.1)]
    exact hI.rest t ht
  · have hold : listed.getD e.on false = true := by
      rw [getD_set] at hl
      by_cases hji : i = j
      · subst hji
        rw [ho] at hj
        cases hj
        exact haf e he hb
      · rw [if_neg (fun h => hji h.1)] at hl
        exact hI.closed j oj hj hl e he hb
    rw [getD_set]
    split
    · rfl
    · exact hold
  · rw [getD_set] at hl
    by_cases hji : i = j
    · subst hji
      rw [ho] at hj
      cases hj
      rw [hput, if_pos ⟨hd, by rw [hI.tsize, hn]; exact hlt t hd⟩]
      exact hPr
    · rw [if_neg (fun h => hji h.1)] at hl
      rw [hput, if_neg (fun h => hji (hdist j oj t hj h.1 hd))]
      exact hst j _ hl (hI.vals j oj t hj hl hd)
/-- **The law.** -/
theorem wp_region_ghost {id : Nat} {a0 : Act} {w : World} (hm : P.follows .mixedOrders = true) (n : Nat) (hn : a0.tmps.size = n) (hB : apartB .any ops n = true) (G : Γ → Array Bool → World → Prop) (Pr : Γ → Array Bool → Nat → Value → World → Prop) (γ0 : Γ)
    (h0 : G γ0 (Array.replicate ops.size false) w.drew)
    (hop : ∀ (i : Nat) (o : Oper), ops[i]? = some o → ∀ (γ : Γ) (listed : Array Bool) (a : Act) (W : World), Each ops a0 (G γ) (Pr γ) listed a W → listed.getD i true = false → (∀ e ∈ o.after, Region.binds .any e = true → listed.getD e.on false = true) →
      o.wp P a W (fun a' W' => ∃ γ' v, a' = a.put o.dst v ∧ Pr γ' (listed.setIfInBounds i true) i v W' ∧ G γ' (listed.setIfInBounds i true) W' ∧ ∀ j u, listed.getD j false = true → Pr γ listed j u W → Pr γ' (listed.setIfInBounds i true) j u W') Q)
    (hend : ∀ γ a W, Each ops a0 (G γ) (Pr γ) (Array.replicate ops.size true) a W → Q .normal a W) : (Code.region id ops true).wp P Q a0 w := by
  refine wp_region_any hm (wpAny_inv (fun listed a W => ∃ γ, Each ops a0 (G γ) (Pr γ) listed a W) ?_ ?_ _ _ _ _ ?_ ⟨γ0, each_start h0⟩)
  · intro listed a W i ⟨γ, hI⟩ hi
    obtain ⟨h1, o, ho, haf⟩ := mem_ready.1 hi
    have hw : Region.wanted o (yielded ops a.tmps) = true := by simp [Region.wanted, (apartB_spec hB i o ho).1]
    unfold wpOp
    rw [ho]
    simp only [hw, if_true]
    refine .inl (Oper.wp_mono ?_ (hop i o ho γ listed a W hI h1 haf))
    rintro a' W' ⟨γ', v, rfl, hPr, hG, hst⟩
    exact ⟨γ', each_put n hn hB ho hI h1 haf hPr hG hst⟩
  · intro listed a W ⟨γ, hI⟩ hr
    exact hend γ a W (each_end n hB hI hr)
  · unfold leftIn
    exact Nat.le_trans (List.length_filter_le _ _) (by simp)
end
end Go.Proofs.YtpmlnkjamhelnaaGreat
namespace Go.Proofs.YtpmlnkjamhelnaaGreat
open Go.RowKit
def offH (w : World) (v : Value) (B : Nat) : Nat → Option Obj := fun g => if v.ownBlock = some g ∨ g ≤ B then none else w.heap[g]?
/-- Whatever lies there stays, and stays whose it is. -/
structure Kp (H H' : Nat → Option Obj) (γ γ' : Nat → Nat) : Prop where
  h : ∀ g b, H g = some b → H' g = some b
  t : ∀ g b, H g = some b → γ' g = γ g
theorem offH_le {w : World} {v : Value} {B : Nat} : ∀ g b, offH w v B g = some b → w.heap[g]? = some b := fun g b h => by
  unfold offH at h
  split at h
  · cases h
  · exact h
theorem offH_lt {w : World} {v : Value} {B : Nat} : ∀ g b, offH w v B g = some b → g < w.heap.size := fun g b h => (Array.getElem?_eq_some_iff.1 (offH_le g b h)).1
theorem offH_new {w : World} {v : Value} {B base g : Nat} (hv : ∀ k, v.ownBlock = some k → k < base) (hB : B < base) (hg : base ≤ g) : offH w v B g = w.heap[g]? := by
  unfold offH
  rw [if_neg]
  rintro (e | e)
  · have := hv _ e; omega
  · omega
theorem kp_below {w w' : World} {v : Value} {B : Nat} {γ γ' : Nat → Nat} (hb : Below w.heap.size w w') (hγ : ∀ g, g < w.heap.size → γ' g = γ g) : Kp (offH w v B) (offH w' v B) γ γ' := by
  refine ⟨fun g b h => ?_, fun g b h => hγ g (offH_lt g b h)⟩
  have hl := offH_lt g b h
  unfold offH at h ⊢
  split at h
  · cases h
  · rename_i hne
    rw [if_neg hne, hb.block g hl]
    exact h
theorem kp_step {w w' : World} {v v' : Value} {B : Nat} {γ : Nat → Nat} (hs : Step w v w' v') : Kp (offH w v B) (offH w' v' B) γ γ := by
  refine ⟨fun g b h => ?_, fun _ _ _ => rfl⟩
  have hl := offH_lt g b h
  unfold offH at h
  split at h
  · cases h
  rename_i hne
  have hb := hs.1.block g hl (fun e => hne (.inl (by rw [← e])))
  unfold offH
  rw [if_neg, hb]
  · exact h
  rintro (e | e)
  · rcases hs.2 with e2 | ⟨g2, e2, hg⟩
    · rw [e2] at e; exact hne (.inl e)
    · rw [e2] at e
      injection e with e
      omega
  · exact hne (.inr e)
theorem kp_set {w : World} {v u : Value} {B b o : Nat} {γ : Nat → Nat} (hb : b ≤ B) : Kp (offH w v B) (offH (w.setCell ⟨b, o, none⟩ u) v B) γ γ := by
  refine ⟨fun g x h => ?_, fun _ _ _ => rfl⟩
  unfold offH at h ⊢
  split at h
  · cases h
  · rename_i hne
    rw [if_neg hne, Below.heap_setCell w ⟨b, o, none⟩ u g (fun e => hne (.inr (by have : g = b := e; omega)))]
    exact h
/-- A row of numbers that is the j-th one's own. -/
def NsO (H : Nat → Option Obj) (γ : Nat → Nat) (j : Nat) (a : Option Addr) (c : Nat) (ns : List Int) : Prop :=
  (a = none ∧ c = 0 ∧ ns = []) ∨ ∃ g cur, a = some ⟨g, 0, none⟩ ∧ H g = some (.cells cur 3 (0, 0)) ∧ ns.length ≤ c ∧ c ≤ maxLen ∧ cur.size = c * 1 ∧ cur.toList.take ns.length = cellsN ns ∧ (c = 0 ∨ γ g = j)
def NsOwn (H : Nat → Option Obj) (γ : Nat → Nat) (j : Nat) (v : Value) (ns : List Int) : Prop := ∃ a c, v = .slice a ns.length c ∧ NsO H γ j a c ns
/-- A row of instructions. -/
def IsO (H : Nat → Option Obj) (a : Option Addr) (cs : List (Int × Int)) : Prop := cs = [] ∨ ∃ g cur, a = some ⟨g, 0, none⟩ ∧ H g = some (.cells cur 74 (0, 0)) ∧ cur.toList.take (cs.length * 2) = cellsI cs
def IsOwn (H : Nat → Option Obj) (v : Value) (cs : List (Int × Int)) : Prop := ∃ a c, v = .slice a cs.length c ∧ IsO H a cs
def FnO (H : Nat → Option Obj) (γ : Nat → Nat) (k : Nat) (f : Fn) (v0 v1 v2 v3 : Value) : Prop :=
  NsOwn H γ (3 * k) v0 f.p ∧ NsOwn H γ (3 * k + 1) v1 f.r ∧ NsOwn H γ (3 * k + 2) v2 f.l ∧ IsOwn H v3 f.code
theorem NsO.keep {H H' : Nat → Option Obj} {γ γ' : Nat → Nat} {j : Nat} {a : Option Addr} {c : Nat} {ns : List Int} (h : NsO H γ j a c ns) (hk : Kp H H' γ γ') : NsO H' γ' j a c ns := by
  rcases h with h | ⟨g, cur, h1, h2, h3, h4, h5, h6, h7⟩
  · exact .inl h
  · exact .inr ⟨g, cur, h1, hk.h _ _ h2, h3, h4, h5, h6, h7.imp id fun e => (hk.t _ _ h2).trans e⟩
theorem NsOwn.keep {H H' : Nat → Option Obj} {γ γ' : Nat → Nat} {j : Nat} {v : Value} {ns : List Int} (h : NsOwn H γ j v ns) (hk : Kp H H' γ γ') : NsOwn H' γ' j v ns := by
  obtain ⟨a, c, e, h⟩ := h
  exact ⟨a, c, e, h.keep hk⟩
theorem IsOwn.keep {H H' : Nat → Option Obj} {γ γ' : Nat → Nat} {v : Value} {cs : List (Int × Int)} (h : IsOwn H v cs) (hk : Kp H H' γ γ') : IsOwn H' v cs := by
  obtain ⟨a, c, e, h⟩ := h
  refine ⟨a, c, e, ?_⟩
  rcases h with h | ⟨g, cur, h1, h2, h3⟩
  · exact .inl h
  · exact .inr ⟨g, cur, h1, hk.h _ _ h2, h3⟩
theorem is_own {W : World} {vF v' : Value} {B base n : Nat} {cs : List (Int × Int)} (hv : ∀ k, vF.ownBlock = some k → k < base) (hB : B < base) (h : W.ownsRow base 74 2 v' n (cellsI cs)) : IsOwn (offH W vF B) v' cs := by
  have hn : n = cs.length := by have := h.1; rw [cellsI_len] at this; omega
  subst hn
  rcases h.2 with ⟨rfl, h0⟩ | ⟨g2, cap, cur, rfl, hg2, hh, hnc, hcm, hcs, htk⟩
  · exact ⟨none, 0, by rw [h0], .inl (List.eq_nil_of_length_eq_zero h0)⟩
  · exact ⟨_, cap, rfl, .inr ⟨g2, cur, rfl, by rw [offH_new hv hB hg2]; exact hh, htk⟩⟩
theorem FnO.keep {H H' : Nat → Option Obj} {γ γ' : Nat → Nat} {k : Nat} {f : Fn} {v0 v1 v2 v3 : Value} (h : FnO H γ k f v0 v1 v2 v3) (hk : Kp H H' γ γ') : FnO H' γ' k f v0 v1 v2 v3 := by
  obtain ⟨h0, h1, h2, h3⟩ := h
  exact ⟨h0.keep hk, h1.keep hk, h2.keep hk, h3.keep hk⟩
/-- What each operation leaves: out's box is B, the function's is F; k: the function's number. -/
def PrO (B F base k : Nat) (vF v0 v1 v2 v3 : Value) (f : Fn) (γ : Nat → Nat) (i : Nat) (u : Value) (W : World) : Prop :=
  match i with
  | 0 => u = .pointer (some ⟨B, 1, none⟩)
  | 1 => u = vF
  | 2 => ∃ g, u = .slice (some ⟨g, 0, none⟩) 0 0 ∧ base ≤ g ∧ W.heap[g]? = some (.cells #[] 3 (0, 0))
  | 3 => u = .pointer (some ⟨F, 0, none⟩)
  | 4 => u = v0
  | 5 => NsOwn (offH W vF B) γ (3 * k) u f.p
  | 6 => ∃ g, u = .slice (some ⟨g, 0, none⟩) 0 0 ∧ base ≤ g ∧ W.heap[g]? = some (.cells #[] 3 (0, 0))
  | 7 => u = .pointer (some ⟨F, 1, none⟩)
  | 8 => u = v1
  | 9 => NsOwn (offH W vF B) γ (3 * k + 1) u f.r
  | 10 => ∃ g, u = .slice (some ⟨g, 0, none⟩) 0 0 ∧ base ≤ g ∧ W.heap[g]? = some (.cells #[] 3 (0, 0))
  | 11 => u = .pointer (some ⟨F, 2, none⟩)
  | 12 => u = v2
  | 13 => NsOwn (offH W vF B) γ (3 * k + 2) u f.l
  | 14 => ∃ g, u = .slice (some ⟨g, 0, none⟩) 0 0 ∧ base ≤ g ∧ W.heap[g]? = some (.cells #[] 74 (0, 0))
  | 15 => u = .pointer (some ⟨F, 3, none⟩)
  | 16 => u = v3
  | 17 => IsOwn (offH W vF B) u f.code
  | 18 => ∃ u0 u1 u2 u3, u = .agg #[u0, u1, u2, u3] ∧ FnO (offH W vF B) γ k f u0 u1 u2 u3
  | 19 => ∃ g u0 u1 u2 u3, u = .slice (some ⟨g, 0, none⟩) 1 1 ∧ W.heap[g]? = some (.cells #[u0, u1, u2, u3] 49 (0, 0)) ∧ FnO (offH W vF B) γ k f u0 u1 u2 u3
  | 21 => u = .pointer (some ⟨B, 1, none⟩)
  | _ => True
theorem PrO.below {B F base k : Nat} {vF v0 v1 v2 v3 : Value} {f : Fn} {γ γ' : Nat → Nat} {i : Nat} {u : Value} {W W' : World} (h : PrO B F base k vF v0 v1 v2 v3 f γ i u W) (hb : Below W.heap.size W W') (hγ : ∀ g, g < W.heap.size → γ' g = γ g) : PrO B F base k vF v0 v1 v2 v3 f γ' i u W' := by
  have hk := kp_below (v := vF) (B := B) hb hγ
  unfold PrO at h ⊢
  split at h
  all_goals first
    | exact h
    | exact NsOwn.keep h hk
    | exact IsOwn.keep h hk
    | (obtain ⟨g, rfl, h1, hg⟩ := h; exact ⟨g, rfl, h1, by rw [hb.block g (Array.getElem?_eq_some_iff.1 hg).1]; exact hg⟩)
    | (obtain ⟨u0, u1, u2, u3, rfl, hn⟩ := h; exact ⟨u0, u1, u2, u3, rfl, hn.keep hk⟩)
    | (obtain ⟨g, u0, u1, u2, u3, rfl, hg, hn⟩ := h; exact ⟨g, u0, u1, u2, u3, rfl, by rw [hb.block g (Array.getElem?_eq_some_iff.1 hg).1]; exact hg, hn.keep hk⟩)
def FRo (H : Nat → Option Obj) (γ : Nat → Nat) (fs : List Fn) (xs : List Value) : Prop := xs.length = fs.length * 4 ∧ ∀ j (h : j < fs.length), ∃ v0 v1 v2 v3, xs[j * 4]? = some v0 ∧ xs[j * 4 + 1]? = some v1 ∧ xs[j * 4 + 2]? = some v2 ∧ xs[j * 4 + 3]? = some v3 ∧ FnO H γ j fs[j] v0 v1 v2 v3
theorem FRo.nil (H : Nat → Option Obj) (γ : Nat → Nat) : FRo H γ [] [] := ⟨rfl, fun j h => by simp at h⟩
theorem FRo.keep {H H' : Nat → Option Obj} {γ γ' : Nat → Nat} {fs : List Fn} {xs : List Value} (h : FRo H γ fs xs) (hk : Kp H H' γ γ') : FRo H' γ' fs xs := by
  refine ⟨h.1, fun j hj => ?_⟩
  obtain ⟨v0, v1, v2, v3, q0, q1, q2, q3, hf⟩ := h.2 j hj
  exact ⟨v0, v1, v2, v3, q0, q1, q2, q3, hf.keep hk⟩
theorem FRo.snoc {H : Nat → Option Obj} {γ : Nat → Nat} {fs : List Fn} {xs : List Value} {f : Fn} {v0 v1 v2 v3 : Value} (h : FRo H γ fs xs) (hf : FnO H γ fs.length f v0 v1 v2 v3) : FRo H γ (fs ++ [f]) (xs ++ [v0, v1, v2, v3]) := by
  refine ⟨by simp [h.1]; omega, fun j hj => ?_⟩
  rcases Nat.lt_or_ge j fs.length with hlt | hge
  · obtain ⟨u0, u1, u2, u3, q0, q1, q2, q3, hg⟩ := h.2 j hlt
    have hx := h.1
    refine ⟨u0, u1, u2, u3, ?_, ?_, ?_, ?_, by rw [List.getElem_append_left hlt]; exact hg⟩
    all_goals (rw [List.getElem?_append_left (by omega)]; assumption)
  · have hx := h.1
    obtain rfl : j = fs.length := by simp at hj; omega
    refine ⟨v0, v1, v2, v3, ?_, ?_, ?_, ?_, by simpa using hf⟩
    all_goals
      rw [List.getElem?_append_right (by omega), hx]
      simp
/-- The row with one function more. -/
def NewRo (B k : Nat) (fs : List Fn) (γ : Nat → Nat) (u : Value) (W : World) : Prop := ∃ xs, W.ownsRow (B + 1) 49 4 u (k + 1) xs ∧ FRo (offH W u B) γ fs xs
theorem NewRo.below {B k : Nat} {fs : List Fn} {γ γ' : Nat → Nat} {u : Value} {W W' : World} (h : NewRo B k fs γ u W) (hb : Below W.heap.size W W') (hγ : ∀ g, g < W.heap.size → γ' g = γ g) : NewRo B k fs γ' u W' := by
  obtain ⟨xs, h1, h2⟩ := h
  exact ⟨xs, row_below2 h1 hb, h2.keep (kp_below hb hγ)⟩
def CPo (B F base k : Nat) (vF v0 v1 v2 v3 : Value) (f : Fn) (fs : List Fn) (γ : Nat → Nat) (listed : Array Bool) (i : Nat) (u : Value) (W : World) : Prop :=
  if i = 20 then listed.getD 22 false = true ∨ NewRo B k fs γ u W else (listed.getD 20 false = true ∧ i ≠ 21) ∨ PrO B F base k vF v0 v1 v2 v3 f γ i u W
structure CGo (B F k : Nat) (vS vF v0 v1 v2 v3 : Value) (fs : List Fn) (xs0 : List Value) (fs0 : List Fn) (w3 W5 : World) (γ : Nat → Nat) (listed : Array Bool) (W : World) : Prop where
  low : Below B w3 W
  size : W5.heap.size ≤ W.heap.size
  fbox : W.heap[F]? = some (.cells #[v0, v1, v2, v3] 49 (0, 0))
  early : listed.getD 20 false = false → Below W5.heap.size W5 W ∧ FRo (offH W vF B) γ fs0 xs0
  obox : listed.getD 22 false = false → W.heap[B]? = some (.cells #[vS, vF] 27 (0, 0))
  fin : listed.getD 22 false = true → ∃ u, W.heap[B]? = some (.cells #[vS, u] 27 (0, 0)) ∧ NewRo B k fs γ u W
theorem CGo.below {B F k : Nat} {vS vF v0 v1 v2 v3 : Value} {fs : List Fn} {xs0 : List Value} {fs0 : List Fn} {w3 W5 : World} {γ γ' : Nat → Nat} {listed : Array Bool} {W W' : World} (h : CGo B F k vS vF v0 v1 v2 v3 fs xs0 fs0 w3 W5 γ listed W) (hB : B < W.heap.size) (hb : Below W.heap.size W W') (hγ : ∀ g, g < W.heap.size → γ' g = γ g) {i : Nat} (h1 : i ≠ 20) (h2 : i ≠ 22) : CGo B F k vS vF v0 v1 v2 v3 fs xs0 fs0 w3 W5 γ' (listed.setIfInBounds i true) W' := by
  refine ⟨h.low.trans (hb.mono (by omega)), Nat.le_trans h.size hb.size, ?_, ?_, ?_, ?_⟩
  · rw [hb.block F (Array.getElem?_eq_some_iff.1 h.fbox).1]; exact h.fbox
  · rw [getD_far h1]; exact fun e => ⟨(h.early e).1.trans (hb.mono h.size), (h.early e).2.keep (kp_below hb hγ)⟩
  · rw [getD_far h2]; exact fun e => by rw [hb.block B hB]; exact h.obox e
  · rw [getD_far h2]
    intro e
    obtain ⟨u, q1, q2⟩ := h.fin e
    exact ⟨u, by rw [hb.block B hB]; exact q1, q2.below hb hγ⟩
theorem CPo.below {B F base k : Nat} {vF v0 v1 v2 v3 : Value} {f : Fn} {fs : List Fn} {γ γ' : Nat → Nat} {listed : Array Bool} {W W' : World} (hb : Below W.heap.size W W') (hγ : ∀ g, g < W.heap.size → γ' g = γ g) {i : Nat} (h1 : i ≠ 20) (h2 : i ≠ 22) : ∀ j u, listed.getD j false = true → CPo B F base k vF v0 v1 v2 v3 f fs γ listed j u W → CPo B F base k vF v0 v1 v2 v3 f fs γ' (listed.setIfInBounds i true) j u W' := by
  intro j u _ h
  unfold CPo at h ⊢
  rw [getD_far h1, getD_far h2]
  split at h
  · rename_i e
    rw [if_pos e]
    exact h.imp id fun h => h.below hb hγ
  · rename_i e
    rw [if_neg e]
    exact h.imp id fun h => h.below hb hγ
/-- A step that only makes memory. -/
theorem clone_go {B F base k : Nat} {vS vF v0 v1 v2 v3 : Value} {f : Fn} {fs : List Fn} {xs0 : List Value} {fs0 : List Fn} {w3 W5 : World} {γ γ' : Nat → Nat} {listed : Array Bool} {W W' : World} {a : Act} {dst : Option Tmp} {i : Nat} {v : Value} (hG : CGo B F k vS vF v0 v1 v2 v3 fs xs0 fs0 w3 W5 γ listed W) (hB : B < W.heap.size) (hb : Below W.heap.size W W') (hγ : ∀ g, g < W.heap.size → γ' g = γ g) (h1 : i ≠ 20) (h2 : i ≠ 22) (hv : PrO B F base k vF v0 v1 v2 v3 f γ' i v W') :
    ∃ γ' u, a.put dst v = a.put dst u ∧ CPo B F base k vF v0 v1 v2 v3 f fs γ' (listed.setIfInBounds i true) i u W' ∧ CGo B F k vS vF v0 v1 v2 v3 fs xs0 fs0 w3 W5 γ' (listed.setIfInBounds i true) W' ∧ ∀ j u, listed.getD j false = true → CPo B F base k vF v0 v1 v2 v3 f fs γ listed j u W → CPo B F base k vF v0 v1 v2 v3 f fs γ' (listed.setIfInBounds i true) j u W' :=
  ⟨γ', v, rfl, by unfold CPo; rw [if_neg h1]; exact .inr hv, hG.below hB hb hγ h1 h2, CPo.below hb hγ h1 h2⟩
/-- What append onto an empty literal gives: the literal itself, or a row of a new block. -/
theorem run_app1 {P : Program} (w : World) {t ty e : TypeId} {size bytes : Nat} (E : ElemN P t e size bytes) (g : Nat) (y : Value) (m : Nat) (news : List Value) (hy : Lies w y m news) (hl : news.length = m * size) (h1 : ∀ u ∈ news, u.oneCell' = true)
    (h63 : m ≤ maxLen) (hbytes : m * bytes ≤ 140737488355328) :
    ∃ v' w', (Builtin.append_ #[t, t] ty #[.slice (some ⟨g, 0, none⟩) 0 0, y]).run P w = .ok v' w' ∧ ((m = 0 ∧ v' = .slice (some ⟨g, 0, none⟩) 0 0 ∧ w' = w) ∨ w'.ownsRow w.heap.size e size v' m news) ∧ Below w.heap.size w w' := by
  obtain ⟨ht, ⟨i, z, hi, hz, hsize, hby, hzs⟩, hpos⟩ := E
  by_cases hm : m = 0
  · subst hm
    obtain rfl : news = [] := List.eq_nil_of_length_eq_zero (by simpa using hl)
    have hs : Src P i.size t y 0 [] w := by
      rcases hy with ⟨c, rfl, _, _⟩ | ⟨ad, c, rfl, hn⟩
      · exact Src.ofNil w ht c
      · exact Src.ofSlice w ht ad 0 c [] (by simp) (fun j u h => by simp at h) (fun u h => by cases h)
    have := run_append_room_src (P := P) w t t ty e i ht hi g 0 0 0 y 0 [] hs (Nat.le_refl _) (fun j hj => by simp at hj) (fun j hj => by simp at hj)
    exact ⟨_, w, by rw [this]; rfl, .inl ⟨rfl, rfl, rfl⟩, Below.refl _ _⟩
  · rcases hy with ⟨c, rfl, rfl, rfl⟩ | ⟨ad, c, rfl, hn⟩
    · exact absurd rfl hm
    have hs : Src P i.size t (.slice (some ad) m c) m news w := Src.ofSlice w ht ad m c news (by rw [hsize]; exact hl) hn h1
    have hr := run_append_grow_src (P := P) w t t ty e i z ht hi hz (some ⟨g, 0, none⟩) 0 0 [] (run_firstCells_some w.drew i.size 0 ⟨g, 0, none⟩ 0 0 [] (by simp) (fun j u h => by simp at h)) (.slice (some ad) m c) m news hs (by omega) (by simp only [maxLen] at h63; omega) (growslice_fits (by simp only [maxLen] at h63; omega) (by rw [hby]; simpa using hbytes))
    simp only [Nat.zero_add, List.nil_append] at hr
    have hge := grownCap_ge w m 0 e
    have hcm : grownCap w m 0 e ≤ maxLen := grownCap_le_maxLen w m 0 e h63
    refine ⟨_, _, hr, .inr ⟨hl, .inr ⟨w.heap.size, _, _, rfl, Nat.le_refl _, heap_alloc_new w.drew _, hge, hcm, ?_, ?_⟩⟩, (Below.refl _ w).drew.alloc (Nat.le_refl _) _⟩
    · simp only [Array.size_append, List.size_toArray, size_zeroCells, hzs, hl]
      rw [← Nat.add_mul]
      congr 1
      omega
    · rw [Array.toList_append]
      simp only [← hl]
      exact List.take_left
theorem wp_app1 {P : Program} (w : World) {o : Oper} {a : Act} {K : Act → World → Prop} {Q : Exit → Act → World → Prop} (s x : Operand) (t : TypeId) (ho : o.op = .call { callee := .builtin .append, args := #[s, x], argTypes := #[t, t] })
    {e : TypeId} {size bytes : Nat} (E : ElemN P t e size bytes) (g : Nat) (hv : a.eval s = .slice (some ⟨g, 0, none⟩) 0 0) (y : Value) (hyv : a.eval x = y) (m : Nat) (news : List Value) (hy : Lies w y m news) (hl : news.length = m * size) (h1 : ∀ u ∈ news, u.oneCell' = true)
    (h63 : m ≤ maxLen) (hbytes : m * bytes ≤ 140737488355328)
    (h : ∀ v' w', ((m = 0 ∧ v' = .slice (some ⟨g, 0, none⟩) 0 0 ∧ w' = w) ∨ w'.ownsRow w.heap.size e size v' m news) → Below w.heap.size w w' → K (a.put o.dst v') w') : o.wp P a w K Q := by
  obtain ⟨v', w', hr, h2, h3⟩ := run_app1 (P := P) w (ty := o.type) E g y m news hy hl h1 h63 hbytes
  unfold Oper.wp execOp
  simp only [ho, resolve, invoke, builtin, Sem.run_bind, Sem.run_pure, Result.andThen_ok, List.map_toArray, List.map_cons, List.map_nil, hv, hyv, hr]
  exact h v' w' h2 h3
theorem row_down {w : World} {base base' n size : Nat} {e : TypeId} {v : Value} {xs : List Value} (h : w.ownsRow base e size v n xs) (hb : base' ≤ base) : w.ownsRow base' e size v n xs := by
  refine ⟨h.1, ?_⟩
  rcases h.2 with h2 | ⟨g, cap, cur, e, hg, r⟩
  · exact .inl h2
  · exact .inr ⟨g, cap, cur, e, Nat.le_trans hb hg, r⟩
/-- The new blocks are the j-th one's. -/
def tagAt (n : Nat) (γ : Nat → Nat) (j : Nat) : Nat → Nat := fun g => if g < n then γ g else j
theorem tag_old {n : Nat} {γ : Nat → Nat} {j : Nat} : ∀ g, g < n → tagAt n γ j g = γ g := fun g h => by unfold tagAt; rw [if_pos h]
theorem own_tag {W W' : World} {vF v' : Value} {B base g m j : Nat} {γ : Nat → Nat} {ns : List Int} (hm : m = ns.length) (hv : ∀ k, vF.ownBlock = some k → k < base) (hB : B < base) (hg : base ≤ g) (hgl : W.heap[g]? = some (.cells #[] 3 (0, 0))) (hbase : base ≤ W.heap.size) (h : (m = 0 ∧ v' = .slice (some ⟨g, 0, none⟩) 0 0 ∧ W' = W) ∨ W'.ownsRow W.heap.size 3 1 v' m (cellsN ns)) : NsOwn (offH W' vF B) (tagAt W.heap.size γ j) j v' ns := by
  subst hm
  rcases h with ⟨h0, rfl, rfl⟩ | h
  · have hn : ns = [] := List.eq_nil_of_length_eq_zero h0
    subst hn
    exact ⟨_, 0, rfl, .inr ⟨g, #[], rfl, by rw [offH_new hv hB hg]; exact hgl, Nat.le_refl _, Nat.zero_le _, rfl, rfl, .inl rfl⟩⟩
  · rcases h.2 with ⟨rfl, h0⟩ | ⟨g2, cap, cur, rfl, hg2, hh, hnc, hcm, hcs, htk⟩
    · exact ⟨none, 0, by rw [h0], .inl ⟨rfl, rfl, List.eq_nil_of_length_eq_zero h0⟩⟩
    · refine ⟨_, cap, rfl, .inr ⟨g2, cur, rfl, by rw [offH_new hv hB (by omega)]; exact hh, hnc, hcm, hcs, ?_, .inr ?_⟩⟩
      · simpa using htk
      · unfold tagAt; rw [if_neg (by omega)]
end Go.Proofs.YtpmlnkjamhelnaaGreat
