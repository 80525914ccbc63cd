/- Layer 16: JournalLasts: the run's box is written. -/
import Derived.Test.YthmjejmignangaaGreatDoorJLb
namespace Go.Proofs.YthmjejmignangaaGreatDoor
open Go.RowKit
theorem lies_rowS {W : World} {B n : Nat} {v : Value} {L : List Bt} (hn : L.length = n) (hr : W.ownsRow B 9 1 v L.length (svl L)) : Lies W v n (svl L) := by
  obtain ⟨a, c, e, _, _, h⟩ := row_form hr
  rcases h with ⟨h1, h2, _⟩ | ⟨g, h1, _, _, h4⟩
  · rw [h2] at e hn
    rw [h1] at e
    subst e
    exact .inl ⟨c, rfl, hn.symm, by rw [List.eq_nil_of_length_eq_zero h2]; rfl⟩
  · rw [hn, h1] at e
    subst e
    exact .inr ⟨_, c, rfl, fun j u hu => by rw [Addr.add_lit]; simpa using h4 j u hu⟩
theorem svl_one (L : List Bt) : ∀ u ∈ svl L, u.oneCell' = true := fun u hu => by
  obtain ⟨x, _, rfl⟩ := List.mem_map.1 hu
  rfl
theorem svl_len (L : List Bt) : (svl L).length = L.length * 1 := by simp
/-- The box of a run whose journal is open, written anew. -/
theorem rj_make {w : World} {px : Option (Nat × Obj)} {rb db jb lb E : Nat} {K : Nat → Prop} {g : Jn} {d : Dk} {V F : World} (hJ : Jst w K jb lb db g d V) (hkb : K rb ∧ rb ≠ lb ∧ rb ≠ jb ∧ w.heap.size ≤ rb) (T : Nat → Prop) (hT : ∀ i, T i → K i ∧ i ≠ lb ∧ i ≠ jb ∧ w.heap.size ≤ i) (hk : Kt T V F)
    {vs vm : Value} {sure may lm : List Bt} (hbox : F.heap[rb]? = some (.cells #[.pointer (some ⟨db, 0, none⟩), .pointer (some ⟨jb, 0, none⟩), vs, vm] 56 (0, 0)))
    (hs : F.ownsRow w.heap.size 9 1 vs sure.length (svl sure)) (hm : F.ownsRow w.heap.size 9 1 vm lm.length (svl lm))
    (os : ∀ b, vs.ownBlock = some b → ((K b ∧ b ≠ lb ∧ b ≠ jb) ∨ V.heap.size ≤ b) ∧ b ≠ rb) (om : ∀ b, vm.ownBlock = some b → ((K b ∧ b ≠ lb ∧ b ≠ jb) ∨ V.heap.size ≤ b) ∧ b ≠ rb) (ne : ∀ b, vs.ownBlock = some b → vm.ownBlock ≠ some b) (hp : ∀ p o, px = some (p, o) → ((K p ∧ p ≠ lb ∧ p ≠ jb) ∨ V.heap.size ≤ p) ∧ F.heap[p]? = some o ∧ p ≠ rb ∧ vs.ownBlock ≠ some p ∧ vm.ownBlock ≠ some p)
    {off : Bool} {fu : Int} (ho : d.off = off) (hf : d.fuse = fu) (hD : JD d g sure may) (hE : g.ep ≤ E) : RJ w px rb db jb E off fu vs vm sure may lm F := by
  obtain ⟨⟨_, l1⟩, _, _, l2⟩ := hJ.2.1.rd
  have nl : ∀ b, V.heap.size ≤ b → b ≠ lb ∧ b ≠ jb := fun b hb => ⟨by omega, by omega⟩
  refine ⟨fun k => K k ∨ (V.heap.size ≤ k ∧ k < F.heap.size), lb, g, d, ⟨fun k hk => ⟨.inl (hJ.1 k hk).1, (hJ.1 k hk).2⟩, ⟨?_, ?_, ?_, .inl hJ.2.1.kj, .inl hJ.2.1.kl, hJ.2.1.jl⟩, ?_⟩, ⟨hbox, ⟨.inl hkb.1, fun x => x.elim hkb.2.1 hkb.2.2.1, hkb.2.2.2⟩, ⟨hs, fun b hb => ?_⟩, ⟨hm, fun b hb => ?_⟩, fun e => (os rb e).2 rfl, fun e => (om rb e).2 rfl, ne, fun p o e => ?_⟩, ho, hf, hD, hE⟩
  · exact hJ.2.1.dk.turn16 hk.size (fun k h1 h2 => hk.block k h1 fun q => h2 (hT k q).1) fun k h => h
  · exact (hk.block lb l2 fun q => (hT lb q).2.1 rfl).trans hJ.2.1.lg
  · exact (hk.block jb l1 fun q => (hT jb q).2.2.1 rfl).trans hJ.2.1.jn
  · refine hJ.2.2.trans (Kt.low hk hJ.2.2.size fun i hi q => ?_)
    have := (hT i q).2.2.2
    omega
  · rcases (os b hb).1 with x | x
    · exact ⟨.inl x.1, fun y => y.elim x.2.1 x.2.2⟩
    · exact ⟨.inr ⟨x, (hs.lt b hb).2⟩, fun y => y.elim (nl b x).1 (nl b x).2⟩
  · rcases (om b hb).1 with x | x
    · exact ⟨.inl x.1, fun y => y.elim x.2.1 x.2.2⟩
    · exact ⟨.inr ⟨x, (hm.lt b hb).2⟩, fun y => y.elim (nl b x).1 (nl b x).2⟩
  · obtain ⟨x, x2, x3⟩ := hp p o e
    rcases x with x | x
    · exact ⟨.inl x.1, fun y => y.elim x.2.1 x.2.2, x2, x3⟩
    · exact ⟨.inr ⟨x, lt_of_block x2⟩, fun y => y.elim (nl p x).1 (nl p x).2, x2, x3⟩
theorem Kt.step16 {S : Nat → Prop} {V U W : World} {v v' : Value} (h : Kt S V U) (hs : Step U v W v') (hv : ∀ b, v.ownBlock = some b → S b ∨ V.heap.size ≤ b) : Kt S V W :=
  ⟨hs.1.os.trans h.os, hs.1.tape.trans h.tape, hs.1.output.trans h.output, Nat.le_trans h.size hs.1.size, fun i hi hn => (hs.1.block i (Nat.lt_of_lt_of_le hi h.size) fun e => (hv i e.symm).elim hn fun q => by omega).trans (h.block i hi hn)⟩
theorem Kt.setc {S : Nat → Prop} {V U : World} (h : Kt S V U) {rb k : Nat} (hr : S rb) (v : Value) : Kt S V (U.setCell ⟨rb, k, none⟩ v) := by
  exact h.set fun _ => hr
/-- Behind opened: the sure row is new, the other one empty. -/
theorem rj_final {w : World} {px : Option (Nat × Obj)} {rb db jb lb E : Nat} {K : Nat → Prop} {g : Jn} {d : Dk} {jv vs vm : Value} {sure lm rs : List Bt} {V wr : World} (hJ : Jst w K jb lb db g d V) (hR : RB w px rb db K (fun k => k = lb ∨ k = jb) jv vs vm sure lm V) (ho : d.off = false) (hf : d.fuse = -1) (hD : JD d g rs []) (hE : g.ep ≤ E) (hw : Below V.heap.size V wr) {v5 : Value} {W5 : World}
    (h5 : W5.ownsRow w.heap.size 9 1 v5 rs.length (svl rs)) (hs : Step ((wr.setCell ⟨rb, 1, none⟩ (.pointer (some ⟨jb, 0, none⟩))).alloc (.cells #[] 9)) (.slice (some ⟨wr.heap.size, 0, none⟩) 0 0) W5 v5) :
    (W5.heap[rb]? = some (.cells #[.pointer (some ⟨db, 0, none⟩), .pointer (some ⟨jb, 0, none⟩), vs, vm] 56 (0, 0))) ∧ RJ w none rb db jb E false (-1) v5 (.slice none 0 0) rs [] [] ((W5.setCell ⟨rb, 2, none⟩ v5).setCell ⟨rb, 3, none⟩ (.slice none 0 0)) := by
  have hbV := lt_of_block hR.box
  have hz := hw.size
  have b0 : wr.heap[rb]? = some (.cells #[.pointer (some ⟨db, 0, none⟩), jv, vs, vm] 56 (0, 0)) := (hw.block rb hbV).trans hR.box
  have b1 := box_set b0 1 (.pointer (some ⟨jb, 0, none⟩))
  have b2 : ((wr.setCell ⟨rb, 1, none⟩ (.pointer (some ⟨jb, 0, none⟩))).alloc (.cells #[] 9)).heap[rb]? = some (.cells #[.pointer (some ⟨db, 0, none⟩), .pointer (some ⟨jb, 0, none⟩), vs, vm] 56 (0, 0)) := (Below.heap_alloc _ _ _ (by rw [World.size_setCell]; omega)).trans b1
  have b3 : W5.heap[rb]? = some (.cells #[.pointer (some ⟨db, 0, none⟩), .pointer (some ⟨jb, 0, none⟩), vs, vm] 56 (0, 0)) := (hs.1.block rb (lt_of_block b2) fun e => by simp [Value.ownBlock] at e; omega).trans b2
  refine ⟨b3, ?_⟩
  have b4 := box_set b3 2 v5
  have b5 := box_set b4 3 (.slice none 0 0)
  have k0 : Kt (fun i => i = rb) V wr := Kt.below hw
  have k1 : Kt (fun i => i = rb) V ((wr.setCell ⟨rb, 1, none⟩ (.pointer (some ⟨jb, 0, none⟩))).alloc (.cells #[] 9)) := (k0.setc rfl _).trans (Kt.below (S := fun i => i = rb) ((Below.refl _ _).alloc (Nat.le_refl _) _)) fun _ _ h => h
  have k2 : Kt (fun i => i = rb) V W5 := k1.step16 hs fun b hb => .inr (by simp [Value.ownBlock] at hb; omega)
  have k3 := (k2.setc rfl v5 (k := 2)).setc rfl (.slice none 0 0) (k := 3)
  have own5 : ∀ b, v5.ownBlock = some b → V.heap.size ≤ b := fun b hb => by
    rcases hs.2 with e | ⟨q, e, hq⟩
    · rw [hb] at e
      simp [Value.ownBlock] at e
      omega
    · rw [hb] at e
      injection e with e
      subst e
      simp at hq
      omega
  exact rj_make hJ ⟨hR.kb.1, fun e => hR.kb.2.1 (.inl e), fun e => hR.kb.2.1 (.inr e), hR.kb.2.2⟩ _ (fun i hi => by subst hi; exact ⟨hR.kb.1, fun e => hR.kb.2.1 (.inl e), fun e => hR.kb.2.1 (.inr e), hR.kb.2.2⟩) k3 b5 (row_keep h5 fun b hb => by
    have := own5 b hb
    rw [Below.heap_setCell _ _ _ _ (by show b ≠ rb; omega), Below.heap_setCell _ _ _ _ (by show b ≠ rb; omega)]) (World.ownsRow_nil _ _ _ _) (fun b hb => ⟨.inr (own5 b hb), by have := own5 b hb; omega⟩) (fun b hb => by simp [Value.ownBlock] at hb) (fun b _ e => by simp [Value.ownBlock] at e) (fun p o e => by cases e) ho hf hD hE
/-- A text put behind the second row. -/
theorem rj_push {w : World} {px : Option (Nat × Obj)} {rb db jb E : Nat} {off : Bool} {fu : Int} {vs vm : Value} {sure may lm : List Bt} {V U : World} (h : RJ w px rb db jb E off fu vs vm sure may lm V) (hU : Below V.heap.size V U) {b : Bt} {v5 : Value} {W5 : World}
    (h5 : W5.ownsRow w.heap.size 9 1 v5 (lm.length + 1) (svl lm ++ [sv b])) (hs : Step U vm W5 v5) :
    BoxAt rb (.pointer (some ⟨db, 0, none⟩)) (.pointer (some ⟨jb, 0, none⟩)) vs vm W5 ∧ RJ w px rb db jb E off fu vs v5 sure may (lm ++ [b]) (W5.setCell ⟨rb, 3, none⟩ v5) := by
  obtain ⟨K, lb, g, d, hJ, hR, ho, hf, hD, hE⟩ := h.ex
  have hbV := lt_of_block hR.box
  have hz := hU.size
  have b2 : U.heap[rb]? = some (.cells #[.pointer (some ⟨db, 0, none⟩), .pointer (some ⟨jb, 0, none⟩), vs, vm] 56 (0, 0)) := (hU.block rb hbV).trans hR.box
  have b3 : W5.heap[rb]? = some (.cells #[.pointer (some ⟨db, 0, none⟩), .pointer (some ⟨jb, 0, none⟩), vs, vm] 56 (0, 0)) := (hs.1.block rb (lt_of_block b2) fun e => hR.nm e.symm).trans b2
  have b4 := box_set b3 3 v5
  have k0 : Kt (fun i => i = rb ∨ vm.ownBlock = some i) V U := Kt.below hU
  have k2 : Kt (fun i => i = rb ∨ vm.ownBlock = some i) V W5 := k0.step16 hs fun b hb => .inl (.inr hb)
  have k3 := k2.setc (.inl rfl) v5 (k := 3)
  have own5 : ∀ q, v5.ownBlock = some q → vm.ownBlock = some q ∨ V.heap.size ≤ q := fun q hq => by
    rcases hs.2 with e | ⟨x, e, hx⟩
    · exact .inl (e ▸ hq)
    · rw [hq] at e
      injection e with e
      subst e
      exact .inr (Nat.le_trans hz hx)
  have kr : ∀ v : Value, (∀ b, v.ownBlock = some b → K b ∧ ¬ (b = lb ∨ b = jb)) → ∀ b, v.ownBlock = some b → K b ∧ b ≠ lb ∧ b ≠ jb := fun v hv b hb => ⟨(hv b hb).1, fun e => (hv b hb).2 (.inl e), fun e => (hv b hb).2 (.inr e)⟩
  refine ⟨⟨⟨Lib.cell_of_heap b3 0, Lib.cell_of_heap b3 1, Lib.cell_of_heap b3 2, Lib.cell_of_heap b3 3⟩, fun k => Lib.frozen_of_heap b3 k, lt_of_block b3⟩, ?_⟩
  have hrow : (W5.setCell ⟨rb, 3, none⟩ v5).ownsRow w.heap.size 9 1 v5 (lm ++ [b]).length (svl (lm ++ [b])) := by
    rw [List.length_append, show svl (lm ++ [b]) = svl lm ++ [sv b] from List.map_append ..]
    refine row_keep h5 fun q hq => Below.heap_setCell _ _ _ _ ?_
    show q ≠ rb
    rcases own5 q hq with x | x
    · exact fun e => hR.nm (e ▸ x)
    · omega
  refine rj_make hJ ⟨hR.kb.1, fun e => hR.kb.2.1 (.inl e), fun e => hR.kb.2.1 (.inr e), hR.kb.2.2⟩ _ (fun i hi => ?_) k3 b4 ?_ hrow (fun b hb => ⟨.inl (kr vs hR.s.2 b hb), fun e => hR.ns (e ▸ hb)⟩) (fun q hq => ?_) (fun q hq e => ?_) (fun p o e => ?_) ho hf hD hE
  · rcases hi with rfl | hi
    · exact ⟨hR.kb.1, fun e => hR.kb.2.1 (.inl e), fun e => hR.kb.2.1 (.inr e), hR.kb.2.2⟩
    · obtain ⟨x1, x2, x3⟩ := kr vm hR.m.2 i hi
      exact ⟨x1, x2, x3, (hR.m.1.lt i hi).1⟩
  · refine row_keep hR.s.1 fun q hq => k3.block q (hR.s.1.lt q hq).2 fun e => e.elim (fun e => hR.ns (e ▸ hq)) fun e => hR.ne q hq e
  · rcases own5 q hq with x | x
    · exact ⟨.inl (kr vm hR.m.2 q x), fun e => hR.nm (e ▸ x)⟩
    · exact ⟨.inr x, by omega⟩
  · rcases own5 q e with x | x
    · exact hR.ne q hq x
    · have := (hR.s.1.lt q hq).2
      omega
  · obtain ⟨y1, y2, y3, y4, y5, y6⟩ := hR.pk p o e
    have hpl := lt_of_block y3
    refine ⟨.inl ⟨y1, fun e => y2 (.inl e), fun e => y2 (.inr e)⟩, (k3.block p hpl fun q => q.elim y4 y6).trans y3, y4, y5, fun q => ?_⟩
    rcases own5 p q with x | x
    · exact y6 x
    · omega
/-- A box that is kept aside. -/
theorem rj_box {w : World} {rb db jb E : Nat} {off : Bool} {fu : Int} {vs vm : Value} {sure may lm : List Bt} {V : World} (h : RJ w none rb db jb E off fu vs vm sure may lm V) (o : Obj) : RJ w (some (V.heap.size, o)) rb db jb E off fu vs vm sure may lm (V.alloc o) := by
  obtain ⟨K, lb, g, d, hJ, hR, ho, hf, hD, hE⟩ := h.ex
  have hbV := lt_of_block hR.box
  have hb : Below V.heap.size V (V.alloc o) := (Below.refl _ V).alloc (Nat.le_refl _) _
  have hR2 := hR.below hb
  have kr : ∀ v : Value, (∀ b, v.ownBlock = some b → K b ∧ ¬ (b = lb ∨ b = jb)) → ∀ b, v.ownBlock = some b → K b ∧ b ≠ lb ∧ b ≠ jb := fun v hv b hb => ⟨(hv b hb).1, fun e => (hv b hb).2 (.inl e), fun e => (hv b hb).2 (.inr e)⟩
  refine rj_make hJ ⟨hR.kb.1, fun e => hR.kb.2.1 (.inl e), fun e => hR.kb.2.1 (.inr e), hR.kb.2.2⟩ (fun _ => False) (fun i hi => hi.elim) (Kt.below hb) hR2.box hR2.s.1 hR2.m.1 (fun b hb => ⟨.inl (kr vs hR.s.2 b hb), fun e => hR.ns (e ▸ hb)⟩) (fun b hb => ⟨.inl (kr vm hR.m.2 b hb), fun e => hR.nm (e ▸ hb)⟩) hR.ne (fun p o' e => ?_) ho hf hD hE
  injection e with e
  injection e with e1 e2
  subst e1 e2
  refine ⟨.inr (Nat.le_refl _), heap_alloc_new V _, by omega, fun q => ?_, fun q => ?_⟩
  · have := (hR.s.1.lt _ q).2; omega
  · have := (hR.m.1.lt _ q).2; omega
/-- What was synced: the second row goes behind the first. -/
theorem rj_join {w : World} {px : Option (Nat × Obj)} {rb db jb lb E : Nat} {K : Nat → Prop} {g : Jn} {d : Dk} {vs vm : Value} {sure may : List Bt} {V U : World} (hJ : Jst w K jb lb db g d V) (hR : RB w px rb db K (fun k => k = lb ∨ k = jb) (.pointer (some ⟨jb, 0, none⟩)) vs vm sure may V) (ho : d.off = false) (hD : JD d g (sure ++ may) []) (hE : g.ep ≤ E) (hU : Below V.heap.size V U) {v5 : Value} {W5 : World}
    (h5 : W5.ownsRow w.heap.size 9 1 v5 (sure.length + may.length) (svl sure ++ svl may)) (hs : Step U vs W5 v5) :
    (W5.heap[rb]? = some (.cells #[.pointer (some ⟨db, 0, none⟩), .pointer (some ⟨jb, 0, none⟩), vs, vm] 56 (0, 0))) ∧ RJ w px rb db jb E false d.fuse v5 (.slice none 0 0) (sure ++ may) [] [] ((W5.setCell ⟨rb, 2, none⟩ v5).setCell ⟨rb, 3, none⟩ (.slice none 0 0)) := by
  have hbV := lt_of_block hR.box
  have hz := hU.size
  have b2 : U.heap[rb]? = some (.cells #[.pointer (some ⟨db, 0, none⟩), .pointer (some ⟨jb, 0, none⟩), vs, vm] 56 (0, 0)) := (hU.block rb hbV).trans hR.box
  have b3 : W5.heap[rb]? = some (.cells #[.pointer (some ⟨db, 0, none⟩), .pointer (some ⟨jb, 0, none⟩), vs, vm] 56 (0, 0)) := (hs.1.block rb (lt_of_block b2) fun e => hR.ns e.symm).trans b2
  refine ⟨b3, ?_⟩
  have b4 := box_set b3 2 v5
  have b5 := box_set b4 3 (.slice none 0 0)
  have k0 : Kt (fun i => i = rb ∨ vs.ownBlock = some i) V U := Kt.below hU
  have k2 : Kt (fun i => i = rb ∨ vs.ownBlock = some i) V W5 := k0.step16 hs fun b hb => .inl (.inr hb)
  have k3 := (k2.setc (.inl rfl) v5 (k := 2)).setc (.inl rfl) (.slice none 0 0) (k := 3)
  have own5 : ∀ q, v5.ownBlock = some q → vs.ownBlock = some q ∨ V.heap.size ≤ q := fun q hq => by
    rcases hs.2 with e | ⟨x, e, hx⟩
    · exact .inl (e ▸ hq)
    · rw [hq] at e
      injection e with e
      subst e
      exact .inr (Nat.le_trans hz hx)
  have kr : ∀ v : Value, (∀ b, v.ownBlock = some b → K b ∧ ¬ (b = lb ∨ b = jb)) → ∀ b, v.ownBlock = some b → K b ∧ b ≠ lb ∧ b ≠ jb := fun v hv b hb => ⟨(hv b hb).1, fun e => (hv b hb).2 (.inl e), fun e => (hv b hb).2 (.inr e)⟩
  have nrb : ∀ q, v5.ownBlock = some q → q ≠ rb := fun q hq => by
    rcases own5 q hq with x | x
    · exact fun e => hR.ns (e ▸ x)
    · omega
  refine rj_make hJ ⟨hR.kb.1, fun e => hR.kb.2.1 (.inl e), fun e => hR.kb.2.1 (.inr e), hR.kb.2.2⟩ _ (fun i hi => ?_) k3 b5 ?_ (World.ownsRow_nil _ _ _ _) (fun q hq => ⟨?_, nrb q hq⟩) (fun b hb => by simp [Value.ownBlock] at hb) (fun b _ e => by simp [Value.ownBlock] at e) (fun p o e => ?_) ho rfl hD hE
  · rcases hi with rfl | hi
    · exact ⟨hR.kb.1, fun e => hR.kb.2.1 (.inl e), fun e => hR.kb.2.1 (.inr e), hR.kb.2.2⟩
    · obtain ⟨x1, x2, x3⟩ := kr vs hR.s.2 i hi
      exact ⟨x1, x2, x3, (hR.s.1.lt i hi).1⟩
  · rw [List.length_append, show svl (sure ++ may) = svl sure ++ svl may from List.map_append ..]
    refine row_keep h5 fun q hq => ?_
    rw [Below.heap_setCell _ _ _ _ (by show q ≠ rb; exact nrb q hq), Below.heap_setCell _ _ _ _ (by show q ≠ rb; exact nrb q hq)]
  · rcases own5 q hq with x | x
    · exact .inl (kr vs hR.s.2 q x)
    · exact .inr x
  · obtain ⟨y1, y2, y3, y4, y5, y6⟩ := hR.pk p o e
    have hpl := lt_of_block y3
    refine ⟨.inl ⟨y1, fun e => y2 (.inl e), fun e => y2 (.inr e)⟩, (k3.block p hpl fun q => q.elim y4 y5).trans y3, y4, fun q => ?_, by simp [Value.ownBlock]⟩
    rcases own5 p q with x | x
    · exact y5 x
    · omega
theorem RC.at_ {w : World} {p : Nat} {o : Obj} {rb db E : Nat} {vs vm : Value} {sure lm rs : List Bt} {V : World} (h : RC w (some (p, o)) rb db E vs vm sure lm rs V) : V.cell? ⟨rb, 0, none⟩ = some (.pointer (some ⟨db, 0, none⟩)) ∧ rb < V.heap.size ∧ V.heap[p]? = some o := by
  obtain ⟨K, d, jv, h1, h2, h3, h4, h5⟩ := h.ex
  exact ⟨h5.at_.1.1, h5.at_.2.2, (h5.pk p o rfl).2.2.1⟩
theorem fuse_int (n : Int) : ∃ k : Int, IntKind.i64.wrap ((IntKind.i64.wrap (n.tmod 20 + 20)).tmod 20 - 1) = k ∧ -1 ≤ k ∧ k ≤ 18 := by
  have a1 : -20 < n.tmod 20 := by have := Int.lt_tmod_of_pos n (b := 20) (by decide); omega
  have a2 : n.tmod 20 < 20 := Int.tmod_lt_of_pos n (by decide)
  have a3 := Int.tmod_nonneg (a := n.tmod 20 + 20) 20 (by omega)
  have a4 := Int.tmod_lt_of_pos (n.tmod 20 + 20) (show (0 : Int) < 20 by omega)
  have e1 : IntKind.i64.wrap (n.tmod 20 + 20) = n.tmod 20 + 20 := by rw [IntKind.wrap_i64]; omega
  rw [e1]
  have e2 : IntKind.i64.wrap ((n.tmod 20 + 20).tmod 20 - 1) = (n.tmod 20 + 20).tmod 20 - 1 := by rw [IntKind.wrap_i64]; omega
  rw [e2]
  exact ⟨_, rfl, by omega, by omega⟩
theorem RJ.up {w : World} {px : Option (Nat × Obj)} {rb db jb E E' : Nat} {off : Bool} {fu : Int} {vs vm : Value} {sure may lm : List Bt} {V : World} (h : RJ w px rb db jb E off fu vs vm sure may lm V) (e : E ≤ E') : RJ w px rb db jb E' off fu vs vm sure may lm V := by
  obtain ⟨K, lb, g, d, h1, h2, h3, h4, h5, h6⟩ := h.ex
  exact ⟨K, lb, g, d, h1, h2, h3, h4, h5, by omega⟩
/-- What the walk of a push asks. -/
theorem push_facts {w : World} {px : Option (Nat × Obj)} {rb db jb E : Nat} {off : Bool} {fu : Int} {vs : Value} {ma : Option Addr} {mn mc : Nat} {sure may lm : List Bt} {V : World} (h : RJ w px rb db jb E off fu vs (.slice ma mn mc) sure may lm V) (hm : mn = lm.length) (b : Bt) :
    (V.drew.alloc (.cells #[sv b] 9)).ownsRow w.heap.size 9 1 (.slice ma mn mc) mn (svl lm) ∧ Lies (V.drew.alloc (.cells #[sv b] 9)) (.slice (some ⟨V.heap.size, 0, none⟩) 1 1) 1 [sv b] ∧ w.heap.size ≤ (V.drew.alloc (.cells #[sv b] 9)).heap.size ∧
    Hid (∀ v5 W5, W5.ownsRow w.heap.size 9 1 v5 (mn + 1) (svl lm ++ [sv b]) → Step (V.drew.alloc (.cells #[sv b] 9)) (.slice ma mn mc) W5 v5 → ∃ a5 c5, v5 = .slice a5 (mn + 1) c5 ∧ W5.cell? ⟨rb, 3, none⟩ = some (.slice ma mn mc) ∧ W5.frozen? ⟨rb, 3, none⟩ = false ∧ rb < W5.heap.size ∧ Hid (RJ w px rb db jb E off fu vs (.slice a5 (mn + 1) c5) sure may (lm ++ [b]) (W5.setCell ⟨rb, 3, none⟩ (.slice a5 (mn + 1) c5)))) := by
  subst hm
  have hb : Below V.heap.size V (V.drew.alloc (.cells #[sv b] 9)) := ((Below.refl _ V).drew).alloc (Nat.le_refl _) _
  refine ⟨row_below2 h.rows.2 hb, .inr ⟨_, _, rfl, fun j u hu => ?_⟩, Nat.le_trans h.bl.size hb.size, hidb fun v5 W5 h5 hs => ?_⟩
  · rw [Addr.add_lit, Lib.cell_of_heap (show (V.drew.alloc (.cells #[sv b] 9)).heap[V.heap.size]? = _ from heap_alloc_new V.drew _)]
    cases j with
    | zero => simpa using hu
    | succ j => simp at hu
  · obtain ⟨a5, c5, e5, _⟩ := row_form h5
    subst e5
    obtain ⟨⟨⟨_, _, _, q4⟩, q5, q6⟩, q7⟩ := rj_push h hb h5 hs
    exact ⟨a5, c5, rfl, q4, q5 3, q6, hidb q7⟩
/-- What the walk of Sync's join asks. -/
theorem join_facts {w : World} {px : Option (Nat × Obj)} {rb db jb lb E : Nat} {K : Nat → Prop} {g : Jn} {d : Dk} {sa ma : Option Addr} {sn sc mn mc : Nat} {sure may : List Bt} {V : World} (hJ : Jst w K jb lb db g d V) (hR : RB w px rb db K (fun k => k = lb ∨ k = jb) (.pointer (some ⟨jb, 0, none⟩)) (.slice sa sn sc) (.slice ma mn mc) sure may V) (hs : sn = sure.length) (hm : mn = may.length) (ho : d.off = false) (hD : JD d g (sure ++ may) []) (hE : g.ep ≤ E) :
    (V.drew.ownsRow w.heap.size 9 1 (.slice sa sn sc) sn (svl sure) ∧ Lies V.drew (.slice ma mn mc) mn (svl may) ∧ w.heap.size ≤ V.drew.heap.size ∧ (svl may).length = mn * 1 ∧ sn ≤ 65536) ∧
    Hid (∀ v5 W5, W5.ownsRow w.heap.size 9 1 v5 (sn + mn) (svl sure ++ svl may) → Step V.drew (.slice sa sn sc) W5 v5 → ∃ a5 c5, v5 = .slice a5 (sn + mn) c5 ∧ W5.cell? ⟨rb, 2, none⟩ = some (.slice sa sn sc) ∧ W5.frozen? ⟨rb, 2, none⟩ = false ∧ rb < W5.heap.size ∧ (W5.setCell ⟨rb, 2, none⟩ (.slice a5 (sn + mn) c5)).cell? ⟨rb, 3, none⟩ = some (.slice ma mn mc) ∧ (W5.setCell ⟨rb, 2, none⟩ (.slice a5 (sn + mn) c5)).frozen? ⟨rb, 3, none⟩ = false ∧ rb < (W5.setCell ⟨rb, 2, none⟩ (.slice a5 (sn + mn) c5)).heap.size ∧ Hid (∃ fu, RJ w px rb db jb E false fu (.slice a5 (sn + mn) c5) (.slice none 0 0) (sure ++ may) [] [] ((W5.setCell ⟨rb, 2, none⟩ (.slice a5 (sn + mn) c5)).setCell ⟨rb, 3, none⟩ (.slice none 0 0)))) := by
  subst hs hm
  have hb : Below V.heap.size V V.drew := (Below.refl _ V).drew
  refine ⟨⟨row_below2 hR.s.1 hb, lies_rowS rfl (row_below2 hR.m.1 hb), hJ.2.2.size, svl_len _, ?_⟩, hidb fun v5 W5 h5 hst => ?_⟩
  · have hep := hE
    obtain ⟨⟨cs, k0, el, j1, j2, j3, j4⟩, j5⟩ := hD
    have hl := readL_len hJ.2.1.dk fL
    obtain ⟨_, hfo⟩ := OneF.has j1
    unfold readL at hl
    rw [ho, hfo] at hl
    have hcs : cs.length ≤ 65536 := by
      by_cases q : cs = []
      · rw [q]; simp
      · rw [if_neg q] at hl
        simpa using hl
    have ht := tRun_len (pN cs) tStart
    rw [j3.told] at ht
    have hpl : (pN cs).length = cs.length := by simp [pN]
    have h0 : tStart.rs.length = 0 := rfl
    simp only [List.append_nil, List.length_append] at ht
    omega
  · obtain ⟨a5, c5, e5, _⟩ := row_form h5
    subst e5
    obtain ⟨q1, q2⟩ := rj_join hJ hR ho hD hE hb h5 hst
    have q3 := box_set q1 2 (.slice a5 (sure.length + may.length) c5)
    exact ⟨a5, c5, rfl, Lib.cell_of_heap q1 2, Lib.frozen_of_heap q1 2, lt_of_block q1, Lib.cell_of_heap q3 3, Lib.frozen_of_heap q3 3, lt_of_block q3, hidb ⟨_, q2⟩⟩
end Go.Proofs.YthmjejmignangaaGreatDoor
