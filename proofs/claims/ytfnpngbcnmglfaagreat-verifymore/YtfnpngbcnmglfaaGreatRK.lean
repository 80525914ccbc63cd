/- As wp_region_each (RI), with a ghost that each operation may turn. -/
import Derived.Test.YtfnpngbcnmglfaaGreatRI
namespace Go.Proofs.YtfnpngbcnmglfaaGreat
open Go.RowKit
section
variable {P : Program} {ops : Array Oper} {Q : Exit → Act → World → Prop} {Γ : Type}
/-- One operation more: what its own fact and the others' become. -/
theorem each_put {a0 : Act} (n : Nat) (hn : a0.tmps.size = n) (hB : apartB .any ops n = true) {G G' : Array Bool → World → Prop} {Pr Pr' : Array Bool → Nat → Value → World → Prop} {listed : Array Bool} {a : Act} {W W' : World} {i : Nat} {o : Oper} {v : Value} (ho : ops[i]? = some o) (hI : Each ops a0 G Pr listed a W) (h1 : listed.getD i true = false) (haf : ∀ e ∈ o.after, Region.binds .any e = true → listed.getD e.on false = true)
    (hPr : Pr' (listed.setIfInBounds i true) i v W') (hG : G' (listed.setIfInBounds i true) W') (hst : ∀ j u, listed.getD j false = true → Pr listed j u W → Pr' (listed.setIfInBounds i true) j u W') : Each ops a0 G' Pr' (listed.setIfInBounds i true) (a.put o.dst v) W' := by
  have spec := apartB_spec hB
  obtain ⟨hg, hlt, _, hdist⟩ := spec i o ho
  have hil := getD_lt h1
  have hput : ∀ t : Nat, (a.put o.dst v).tmps[t]?.getD undef = if o.dst = some t ∧ t < a.tmps.size then v else a.tmps[t]?.getD undef := by
    intro t
    cases hd : o.dst with
    | none => simp [Act.put]
    | some d =>
      simp only [Act.put, Array.getElem?_setIfInBounds, Option.some.injEq]
      by_cases hdt : d = t
      · subst hdt
        by_cases h2 : d < a.tmps.size
        · simp [h2]
        · simp [h2]
      · simp [hdt]
  refine ⟨by simp [hI.size], ?_, ?_, fun t ht => ?_, hG, fun j oj hj hl e he hb => ?_, fun j oj t hj hl hd => ?_⟩
  · cases hd : o.dst <;> simp [Act.put, hI.tsize]
  · cases hd : o.dst <;> simp [Act.put, hI.defers]
  · rw [hput, if_neg (fun h => ht i o ho h.1)]
    exact hI.rest t ht
  · have hold : listed.getD e.on false = true := by
      rw [getD_set] at hl
      by_cases hji : i = j
      · subst hji
        rw [ho] at hj
        cases hj
        exact haf e he hb
      · rw [if_neg (fun h => hji h.1)] at hl
        exact hI.closed j oj hj hl e he hb
    rw [getD_set]
    split
    · rfl
    · exact hold
  · rw [getD_set] at hl
    by_cases hji : i = j
    · subst hji
      rw [ho] at hj
      cases hj
      rw [hput, if_pos ⟨hd, by rw [hI.tsize, hn]; exact hlt t hd⟩]
      exact hPr
    · rw [if_neg (fun h => hji h.1)] at hl
      rw [hput, if_neg (fun h => hji (hdist j oj t hj h.1 hd))]
      exact hst j _ hl (hI.vals j oj t hj hl hd)
/-- **The law.** -/
theorem wp_region_ghost {id : Nat} {a0 : Act} {w : World} (hm : P.follows .mixedOrders = true) (n : Nat) (hn : a0.tmps.size = n) (hB : apartB .any ops n = true) (G : Γ → Array Bool → World → Prop) (Pr : Γ → Array Bool → Nat → Value → World → Prop) (γ0 : Γ)
    (h0 : G γ0 (Array.replicate ops.size false) w.drew)
    (hop : ∀ (i : Nat) (o : Oper), ops[i]? = some o → ∀ (γ : Γ) (listed : Array Bool) (a : Act) (W : World), Each ops a0 (G γ) (Pr γ) listed a W → listed.getD i true = false → (∀ e ∈ o.after, Region.binds .any e = true → listed.getD e.on false = true) →
      o.wp P a W (fun a' W' => ∃ γ' v, a' = a.put o.dst v ∧ Pr γ' (listed.setIfInBounds i true) i v W' ∧ G γ' (listed.setIfInBounds i true) W' ∧ ∀ j u, listed.getD j false = true → Pr γ listed j u W → Pr γ' (listed.setIfInBounds i true) j u W') Q)
    (hend : ∀ γ a W, Each ops a0 (G γ) (Pr γ) (Array.replicate ops.size true) a W → Q .normal a W) : (Code.region id ops true).wp P Q a0 w := by
  refine wp_region_any hm (wpAny_inv (fun listed a W => ∃ γ, Each ops a0 (G γ) (Pr γ) listed a W) ?_ ?_ _ _ _ _ ?_ ⟨γ0, each_start h0⟩)
  · intro listed a W i ⟨γ, hI⟩ hi
    obtain ⟨h1, o, ho, haf⟩ := mem_ready.1 hi
    have hw : Region.wanted o (yielded ops a.tmps) = true := by simp [Region.wanted, (apartB_spec hB i o ho).1]
    unfold wpOp
    rw [ho]
    simp only [hw, if_true]
    refine .inl (Oper.wp_mono ?_ (hop i o ho γ listed a W hI h1 haf))
    rintro a' W' ⟨γ', v, rfl, hPr, hG, hst⟩
    exact ⟨γ', each_put n hn hB ho hI h1 haf hPr hG hst⟩
  · intro listed a W ⟨γ, hI⟩ hr
    exact hend γ a W (each_end n hB hI hr)
  · unfold leftIn
    exact Nat.le_trans (List.length_filter_le _ _) (by simp)
end
end Go.Proofs.YtfnpngbcnmglfaaGreat
