/- A copy that grows: a constant more, a function more, a local more (TypesMore). -/
import Derived.Test.YtfnpngbcnmglfaaGreatCBq
namespace Go.Proofs.YtfnpngbcnmglfaaGreat
open Go.RowKit
/-- Blocks of numbers and of instructions stay, and stay whose they are. -/
def KpT (H H' : Nat → Option Obj) (γ γ' : Nat → Nat) : Prop := ∀ g cur t z, t = 3 ∨ t = 83 → H g = some (.cells cur t z) → H' g = some (.cells cur t z) ∧ γ' g = γ g
theorem Kp.t' {H H' : Nat → Option Obj} {γ γ' : Nat → Nat} (h : Kp H H' γ γ') : KpT H H' γ γ' := fun g _ _ _ _ hg => ⟨h.h g _ hg, h.t g _ hg⟩
theorem NsOwn.keepT {H H' : Nat → Option Obj} {γ γ' : Nat → Nat} {j : Nat} {v : Value} {ns : List Int} (h : NsOwn H γ j v ns) (hk : KpT H H' γ γ') : NsOwn H' γ' j v ns := by
  obtain ⟨a, c, e, h⟩ := h
  refine ⟨a, c, e, ?_⟩
  rcases h with h | ⟨g, cur, h1, h2, h3, h4, h5, h6, h7⟩
  · exact .inl h
  · obtain ⟨q1, q2⟩ := hk g cur _ _ (.inl rfl) h2
    exact .inr ⟨g, cur, h1, q1, h3, h4, h5, h6, h7.imp id fun e => q2.trans e⟩
theorem IsOwn.keepT {H H' : Nat → Option Obj} {γ γ' : Nat → Nat} {v : Value} {cs : List (Int × Int)} (h : IsOwn H v cs) (hk : KpT H H' γ γ') : IsOwn H' v cs := by
  obtain ⟨a, c, e, h⟩ := h
  refine ⟨a, c, e, ?_⟩
  rcases h with h | ⟨g, cur, h1, h2, h3⟩
  · exact .inl h
  · exact .inr ⟨g, cur, h1, (hk g cur _ _ (.inr rfl) h2).1, h3⟩
theorem FRo.keepT {H H' : Nat → Option Obj} {γ γ' : Nat → Nat} {fs : List Fn} {xs : List Value} (h : FRo H γ fs xs) (hk : KpT H H' γ γ') : FRo H' γ' fs xs := by
  refine ⟨h.1, fun j hj => ?_⟩
  obtain ⟨v0, v1, v2, v3, q0, q1, q2, q3, ⟨f0, f1, f2, f3⟩⟩ := h.2 j hj
  exact ⟨v0, v1, v2, v3, q0, q1, q2, q3, f0.keepT hk, f1.keepT hk, f2.keepT hk, f3.keepT hk⟩
/-- A row of another type grows: those of numbers and instructions stay. -/
theorem kpT_step {w w' : World} {v u u' : Value} {B base n size : Nat} {e : TypeId} {xs : List Value} {γ : Nat → Nat} (hr : w.ownsRow base e size u n xs) (hs : Step w u w' u') (h1 : e ≠ 3) (h2 : e ≠ 83) : KpT (offH w v B) (offH w' v B) γ γ := fun g cur t z ht hg => by
  refine ⟨?_, rfl⟩
  have hl := offH_lt g _ hg
  unfold offH at hg ⊢
  split at hg
  · cases hg
  · rename_i hne
    rw [if_neg hne, hs.1.block g hl fun q => ?_]
    · exact hg
    · rcases hr.2 with ⟨rfl, _⟩ | ⟨g', cap', cur', rfl, _, hh', _⟩
      · cases q
      · cases q
        rw [hg] at hh'
        cases hh'
        rcases ht with ht | ht
        · exact h1 ht
        · exact h2 ht
theorem row_stepM {w w' : World} {base base' n n' size size' : Nat} {e e' : TypeId} {v v' u : Value} {xs ys : List Value} (h : w.ownsRow base e size v n xs) (hr : w.ownsRow base' e' size' u n' ys) (hs : Step w u w' v') (hne : e ≠ e') : w'.ownsRow base e size v n xs := by
  refine ⟨h.1, ?_⟩
  rcases h.2 with h2 | ⟨g, cap, cur, rfl, hg, hh, r⟩
  · exact .inl h2
  · refine .inr ⟨g, cap, cur, rfl, hg, ?_, r⟩
    rw [hs.1.block g (Array.getElem?_eq_some_iff.1 hh).1 fun q => ?_]
    · exact hh
    · rcases hr.2 with ⟨rfl, _⟩ | ⟨g', cap', cur', rfl, _, hh', _⟩
      · cases q
      · cases q
        rw [hh] at hh'
        cases hh'
        exact hne rfl
theorem box_step {w w' : World} {base n size b : Nat} {e t : TypeId} {u u' : Value} {xs : List Value} {cs : Array Value} {z : Nat × Nat} (h : w.heap[b]? = some (.cells cs t z)) (hr : w.ownsRow base e size u n xs) (hs : Step w u w' u') (hne : t ≠ e) : w'.heap[b]? = some (.cells cs t z) := by
  rw [hs.1.block b (Array.getElem?_eq_some_iff.1 h).1 fun q => ?_]
  · exact h
  · rcases hr.2 with ⟨rfl, _⟩ | ⟨g', cap', cur', rfl, _, hh', _⟩
    · cases q
    · cases q
      rw [h] at hh'
      cases hh'
      exact hne rfl
/-- The copy in its box. -/
structure Mo (sb : Nat) (sc : Array Value) (cs : List (List UInt8)) (fs : List Fn) (base B tb : Nat) (u0 u1 : Value) (xs : List Value) (γ : Nat → Nat) (w0 W : World) : Prop where
  bel : Below w0.heap.size w0 W
  low : w0.heap.size ≤ base
  tbl : w0.heap.size ≤ tb
  siz : base ≤ W.heap.size
  Bs : B < W.heap.size
  Bl : w0.heap.size ≤ B
  box : W.heap[tb]? = some (.cells #[u0, u1] 27 (0, 0))
  sbx : W.heap[sb]? = some (.cells sc 27 (0, 0))
  sne : sb ≠ tb
  c : W.ownsRow base 9 1 u0 cs.length (cellsS cs)
  f : W.ownsRow base 49 4 u1 fs.length xs
  r : FRo (offH W u1 B) γ fs xs
theorem Mo.below {sb : Nat} {sc : Array Value} {cs : List (List UInt8)} {fs : List Fn} {base B tb : Nat} {u0 u1 : Value} {xs : List Value} {γ γ' : Nat → Nat} {w0 W W' : World} (h : Mo sb sc cs fs base B tb u0 u1 xs γ w0 W) (hb : Below W.heap.size W W') (hγ : ∀ g, g < W.heap.size → γ' g = γ g) : Mo sb sc cs fs base B tb u0 u1 xs γ' w0 W' :=
  ⟨h.bel.trans (hb.mono h.bel.size), h.low, h.tbl, Nat.le_trans h.siz hb.size, Nat.lt_of_lt_of_le h.Bs hb.size, h.Bl, (hb.block _ (Array.getElem?_eq_some_iff.1 h.box).1).trans h.box, (hb.block _ (Array.getElem?_eq_some_iff.1 h.sbx).1).trans h.sbx, h.sne, row_below2 h.c hb, row_below2 h.f hb, h.r.keep (kp_below hb hγ)⟩
/-- A constant more. -/
theorem Mo.const {sb : Nat} {sc : Array Value} {cs : List (List UInt8)} {fs : List Fn} {base B tb : Nat} {u0 u1 v' : Value} {xs : List Value} {γ : Nat → Nat} {w0 W W' : World} {x : List UInt8} (h : Mo sb sc cs fs base B tb u0 u1 xs γ w0 W) (hr : W'.ownsRow base 9 1 v' (cs.length + 1) (cellsS cs ++ [.string ⟨x.toArray⟩])) (hs : Step W u0 W' v') : Mo sb sc (cs ++ [x]) fs base B tb v' u1 xs γ w0 (W'.setCell ⟨tb, 0, none⟩ v') := by
  have b1 : Below base W W' := hs.below h.siz fun g e => (h.c.lt g e).1
  have hbx := box_step h.box h.c hs (by decide)
  have hne : ∀ {e : TypeId} {size n : Nat} {v : Value} {ys : List Value}, W'.ownsRow base e size v n ys → e ≠ 27 → (W'.setCell ⟨tb, 0, none⟩ v').ownsRow base e size v n ys := fun {e size n v ys} hh hne => by
    refine ⟨hh.1, ?_⟩
    rcases hh.2 with h2 | ⟨g, cap, cur, rfl, hg, hg2, r⟩
    · exact .inl h2
    · refine .inr ⟨g, cap, cur, rfl, hg, ?_, r⟩
      rw [Below.heap_setCell _ _ _ _ (fun q => ?_)]
      · exact hg2
      · have q : g = tb := q
        rw [q, hbx] at hg2
        cases hg2
        exact hne rfl
  refine ⟨((h.bel.trans (b1.mono h.low))).setCell (p := ⟨tb, 0, none⟩) h.tbl _, h.low, h.tbl, ?_, ?_, h.Bl, ?_, ?_, h.sne, ?_, ?_, ?_⟩
  · have := hs.1.size; have := h.siz; simp; omega
  · have := hs.1.size; have := h.Bs; simp; omega
  · simp [World.setCell, Array.getElem?_modify, hbx]
  · rw [Below.heap_setCell _ _ _ _ h.sne]; exact box_step h.sbx h.c hs (by decide)
  · rw [List.length_append, List.length_singleton, show cellsS (cs ++ [x]) = cellsS cs ++ [.string ⟨x.toArray⟩] by simp [cellsS]]
    exact hne hr (by decide)
  · exact hne (row_stepM h.f h.c hs (by decide)) (by decide)
  · refine (h.r.keepT (kpT_step h.c hs (by decide) (by decide))).keepT fun g cur t z ht hg => ⟨?_, rfl⟩
    unfold offH at hg ⊢
    split at hg
    · cases hg
    · rename_i hn
      rw [if_neg hn, Below.heap_setCell _ _ _ _ (fun q => ?_)]
      · exact hg
      · have q : g = tb := q
        rw [q, hbx] at hg
        cases hg
        rcases ht with ht | ht <;> exact absurd ht (by decide)
/-- A function more: its numbers lie in block g. -/
theorem Mo.func {sb : Nat} {sc : Array Value} {cs : List (List UInt8)} {fs : List Fn} {base B tb g : Nat} {u0 u1 v' : Value} {xs : List Value} {γ : Nat → Nat} {w0 W W' : World} {x : Int} (h : Mo sb sc cs fs base B tb u0 u1 xs γ w0 W) (hg : W.heap[g]? = some (.cells #[.int .i64 x] 3 (0, 0))) (hgB : B < g) (hγ : γ g = 3 * fs.length) (hr : W'.ownsRow base 49 4 v' (fs.length + 1) (xs ++ [.slice (some ⟨g, 0, none⟩) 1 1, .slice none 0 0, .slice none 0 0, .slice none 0 0])) (hs : Step W u1 W' v') : Mo sb sc cs (fs ++ [⟨[x], [], [], []⟩]) base B tb u0 v' (xs ++ [.slice (some ⟨g, 0, none⟩) 1 1, .slice none 0 0, .slice none 0 0, .slice none 0 0]) γ w0 (W'.setCell ⟨tb, 1, none⟩ v') := by
  have b1 : Below base W W' := hs.below h.siz fun g e => (h.f.lt g e).1
  have hbx := box_step h.box h.f hs (by decide)
  have hne : ∀ {e : TypeId} {size n : Nat} {v : Value} {ys : List Value}, W'.ownsRow base e size v n ys → e ≠ 27 → (W'.setCell ⟨tb, 1, none⟩ v').ownsRow base e size v n ys := fun {e size n v ys} hh hne => by
    refine ⟨hh.1, ?_⟩
    rcases hh.2 with h2 | ⟨g, cap, cur, rfl, hg, hg2, r⟩
    · exact .inl h2
    · refine .inr ⟨g, cap, cur, rfl, hg, ?_, r⟩
      rw [Below.heap_setCell _ _ _ _ (fun q => ?_)]
      · exact hg2
      · have q : g = tb := q
        rw [q, hbx] at hg2
        cases hg2
        exact hne rfl
  have hgu : u1.ownBlock ≠ some g := fun q => by
    rcases h.f.2 with ⟨rfl, _⟩ | ⟨g', cap', cur', rfl, _, hh', _⟩
    · cases q
    · cases q
      rw [hg] at hh'
      cases hh'
  have hF : FRo (offH W u1 B) γ (fs ++ [⟨[x], [], [], []⟩]) (xs ++ [.slice (some ⟨g, 0, none⟩) 1 1, .slice none 0 0, .slice none 0 0, .slice none 0 0]) := by
    refine h.r.snoc ⟨⟨_, 1, rfl, .inr ⟨g, #[.int .i64 x], rfl, ?_, Nat.le_refl _, by unfold maxLen; omega, rfl, rfl, .inr hγ⟩⟩, ⟨none, 0, rfl, .inl ⟨rfl, rfl, rfl⟩⟩, ⟨none, 0, rfl, .inl ⟨rfl, rfl, rfl⟩⟩, ⟨none, 0, rfl, .inl rfl⟩⟩
    unfold offH
    rw [if_neg]
    · exact hg
    · rintro (q | q)
      · exact hgu q
      · omega
  refine ⟨((h.bel.trans (b1.mono h.low))).setCell (p := ⟨tb, 1, none⟩) h.tbl _, h.low, h.tbl, ?_, ?_, h.Bl, ?_, ?_, h.sne, ?_, ?_, ?_⟩
  · have := hs.1.size; have := h.siz; simp; omega
  · have := hs.1.size; have := h.Bs; simp; omega
  · simp [World.setCell, Array.getElem?_modify, hbx]
  · rw [Below.heap_setCell _ _ _ _ h.sne]; exact box_step h.sbx h.f hs (by decide)
  · exact hne (row_stepM h.c h.f hs (by decide)) (by decide)
  · rw [List.length_append, List.length_singleton]
    exact hne hr (by decide)
  · refine (hF.keep (kp_step hs)).keepT fun g cur t z ht hg => ⟨?_, rfl⟩
    unfold offH at hg ⊢
    split at hg
    · cases hg
    · rename_i hn
      rw [if_neg hn, Below.heap_setCell _ _ _ _ (fun q => ?_)]
      · exact hg
      · have q : g = tb := q
        rw [q, hbx] at hg
        cases hg
        rcases ht with ht | ht <;> exact absurd ht (by decide)
theorem own_row {W : World} {v u : Value} {B j : Nat} {γ : Nat → Nat} {ns : List Int} (h : NsOwn (offH W v B) γ j u ns) : W.ownsRow (B + 1) 3 1 u ns.length (cellsN ns) := by
  obtain ⟨a, c, rfl, h⟩ := h
  rcases h with ⟨rfl, rfl, rfl⟩ | ⟨g, cur, rfl, h2, h3, h4, h5, h6, _⟩
  · exact World.ownsRow_nil _ _ _ _
  · refine ⟨cellsN_len _, .inr ⟨g, c, cur, rfl, ?_, offH_le _ _ h2, h3, h4, h5, by simpa using h6⟩⟩
    unfold offH at h2
    split at h2
    · cases h2
    · rename_i hne
      rcases Nat.lt_or_ge B g with q | q
      · exact q
      · exact absurd (.inr q) hne
theorem own_at {W W' : World} {v u : Value} {B j : Nat} {γ : Nat → Nat} {ns : List Int} (h : NsOwn (offH W v B) γ j u ns) (hk : ∀ g cur, W.heap[g]? = some (.cells cur 3 (0, 0)) → γ g = j → cur.size ≠ 0 → W'.heap[g]? = some (.cells cur 3 (0, 0))) : ∃ a c, u = .slice a ns.length c ∧ NsAt W'.cell? a ns := by
  obtain ⟨a, c, rfl, h⟩ := h
  refine ⟨a, c, rfl, ?_⟩
  rcases h with ⟨rfl, rfl, rfl⟩ | ⟨g, cur, rfl, h2, h3, h4, h5, h6, h7⟩
  · exact .inl rfl
  · by_cases hc : c = 0
    · exact .inl (List.eq_nil_of_length_eq_zero (by omega))
    · have hb := hk g cur (offH_le _ _ h2) (h7.resolve_left hc) (by omega)
      refine .inr ⟨g, 0, rfl, fun j hj => ?_⟩
      rw [Nat.zero_add, Lib.cell_of_heap hb, ← Array.getElem?_toList, ← List.getElem?_take_of_lt hj, h6]
      simp [cellsN, hj]
theorem ins_at {W W' : World} {v u : Value} {B : Nat} {cs : List (Int × Int)} (h : IsOwn (offH W v B) u cs) (hk : ∀ (g : Nat) (cur : Array Value), W.heap[g]? = some (.cells cur 83 (0, 0)) → W'.heap[g]? = some (.cells cur 83 (0, 0))) : ∃ a c, u = .slice a cs.length c ∧ IsAt W'.cell? a cs := by
  obtain ⟨a, c, rfl, h⟩ := h
  refine ⟨a, c, rfl, ?_⟩
  rcases h with rfl | ⟨g, cur, rfl, h2, h3⟩
  · exact .inl rfl
  · have hb := hk g cur (offH_le _ _ h2)
    refine .inr ⟨g, 0, rfl, fun j hj => ?_⟩
    obtain ⟨g0, g1⟩ := cellsI_at cs j hj
    rw [Nat.zero_add, Lib.cell_of_heap hb, Lib.cell_of_heap hb, ← Array.getElem?_toList, ← Array.getElem?_toList, ← List.getElem?_take_of_lt (show j * 2 < cs.length * 2 by omega), ← List.getElem?_take_of_lt (show j * 2 + 1 < cs.length * 2 by omega), h3]
    exact ⟨g0, g1⟩
theorem Mo.scr {sb : Nat} {sc : Array Value} {cs : List (List UInt8)} {fs : List Fn} {base B tb : Nat} {u0 u1 : Value} {xs : List Value} {γ : Nat → Nat} {w0 W : World} (h : Mo sb sc cs fs base B tb u0 u1 xs γ w0 W) : ScIs W.cell? ⟨cs, fs⟩ u0 u1 := by
  obtain ⟨_, a0, c0, rfl, _, n0⟩ := ss_of_row h.c (C := W.cell?) fun _ _ _ q => q
  have hF : FRow W.cell? fs xs := ⟨h.r.1, fun j hj => by
    obtain ⟨v0, v1, v2, v3, q0, q1, q2, q3, ⟨f0, f1, f2, f3⟩⟩ := h.r.2 j hj
    exact ⟨v0, v1, v2, v3, q0, q1, q2, q3, own_at f0 fun _ _ q _ _ => q, own_at f1 fun _ _ q _ _ => q, own_at f2 fun _ _ q _ _ => q, ins_at f3 fun _ _ q => q⟩⟩
  obtain ⟨_, a1, c1, rfl, _, n1⟩ := fs_of_row h.f hF
  exact ⟨⟨a0, c0, rfl, n0⟩, ⟨a1, c1, rfl, n1⟩⟩
theorem row_otherM {w : World} {base n size b o : Nat} {e e' : TypeId} {v u : Value} {xs : List Value} {cs : Array Value} {z : Nat × Nat} (h : w.ownsRow base e size v n xs) (hb : w.heap[b]? = some (.cells cs e' z)) (hne : e ≠ e') : (w.setCell ⟨b, o, none⟩ u).ownsRow base e size v n xs := by
  refine ⟨h.1, ?_⟩
  rcases h.2 with h2 | ⟨g, cap, cur, rfl, hg, hh, r⟩
  · exact .inl h2
  · refine .inr ⟨g, cap, cur, rfl, hg, ?_, r⟩
    rw [Below.heap_setCell _ _ _ _ (fun q => ?_)]
    · exact hh
    · have q : g = b := q
      rw [q, hb] at hh
      cases hh
      exact hne rfl
theorem row_setM {w : World} {base n size g cap : Nat} {e : TypeId} {xs : List Value} (h : w.ownsRow base e size (.slice (some ⟨g, 0, none⟩) n cap) n xs) (o : Nat) (u : Value) : (w.setCell ⟨g, o, none⟩ u).ownsRow base e size (.slice (some ⟨g, 0, none⟩) n cap) n (xs.set o u) := by
  refine ⟨by rw [List.length_set]; exact h.1, ?_⟩
  rcases h.2 with ⟨e, _⟩ | ⟨g', cap', cur, e, hg, hh, h1, h2, h3, h4⟩
  · cases e
  · cases e
    refine .inr ⟨g, cap, cur.setIfInBounds o u, rfl, hg, ?_, h1, h2, by simpa using h3, ?_⟩
    · simp [World.setCell, Array.getElem?_modify, hh]
    · rw [Array.toList_setIfInBounds, List.take_set, h4]
/-- A local more. -/
theorem Mo.local {sb : Nat} {sc : Array Value} {cs : List (List UInt8)} {fs : List Fn} {base B tb fb fc n : Nat} {u0 v2 v' : Value} {xs : List Value} {γ : Nat → Nat} {w0 W W' : World} {x : Int} (h : Mo sb sc cs fs base B tb u0 (.slice (some ⟨fb, 0, none⟩) fs.length fc) xs γ w0 W) (hn : n < fs.length) (h2 : xs[n * 4 + 2]? = some v2) (hr : W'.ownsRow (B + 1) 3 1 v' (fs[n].l.length + 1) (cellsN fs[n].l ++ [.int .i64 x])) (hs : Step W v2 W' v') :
    ScIs (W'.setCell ⟨fb, n * 4 + 2, none⟩ v').cell? ⟨cs, fs.set n ⟨fs[n].p, fs[n].r, fs[n].l ++ [x], fs[n].code⟩⟩ u0 (.slice (some ⟨fb, 0, none⟩) fs.length fc) ∧ Below w0.heap.size w0 (W'.setCell ⟨fb, n * 4 + 2, none⟩ v') ∧ (W'.setCell ⟨fb, n * 4 + 2, none⟩ v').heap[sb]? = some (.cells sc 27 (0, 0)) := by
  obtain ⟨_, _, w2, _, _, _, z2, _, ⟨_, _, g2, _⟩⟩ := h.r.2 n hn
  rw [h2] at z2
  cases z2
  have hrow2 := own_row g2
  have hfb : base ≤ fb ∧ ∃ cur, W.heap[fb]? = some (.cells cur 49 (0, 0)) := by
    rcases h.f.2 with ⟨e, _⟩ | ⟨g', cap', cur, e, hg, hh, _⟩
    · cases e
    · cases e
      exact ⟨hg, cur, hh⟩
  obtain ⟨hfbl, curf, hfbb⟩ := hfb
  have hfb' := box_step hfbb hrow2 hs (by decide)
  have b1 : Below w0.heap.size W W' := hs.below h.bel.size fun g e => by have := (hrow2.lt g e).1; have := h.Bl; omega
  have hsb := box_step h.sbx hrow2 hs (by decide)
  refine ⟨?_, (h.bel.trans b1).setCell (p := ⟨fb, n * 4 + 2, none⟩) (Nat.le_trans h.low hfbl) _, ?_⟩
  rotate_left
  · rw [Below.heap_setCell _ _ _ _ (fun q => ?_)]
    · exact hsb
    · have q : sb = fb := q
      rw [q, hfb'] at hsb
      cases hsb
  -- blocks of numbers of others
  have hN : ∀ j g cur, j ≠ 3 * n + 2 → W.heap[g]? = some (.cells cur 3 (0, 0)) → γ g = j → cur.size ≠ 0 → (W'.setCell ⟨fb, n * 4 + 2, none⟩ v').heap[g]? = some (.cells cur 3 (0, 0)) := fun j g cur hj hg hγ hc => by
    have e1 : W'.heap[g]? = some (.cells cur 3 (0, 0)) := by
      rw [hs.1.block g (Array.getElem?_eq_some_iff.1 hg).1 fun q => ?_]
      · exact hg
      · obtain ⟨a, c, rfl, g2⟩ := g2
        rcases g2 with ⟨rfl, _⟩ | ⟨g', cur', rfl, k2, k3, k4, k5, k6, k7⟩
        · cases q
        · cases q
          have := offH_le _ _ k2
          rw [hg] at this
          cases this
          rcases k7 with k7 | k7
          · omega
          · exact hj (hγ.symm.trans k7)
    rw [Below.heap_setCell _ _ _ _ (fun q => ?_)]
    · exact e1
    · have q : g = fb := q
      rw [q, hfb'] at e1
      cases e1
  have hI : ∀ (g : Nat) (cur : Array Value), W.heap[g]? = some (.cells cur 83 (0, 0)) → (W'.setCell ⟨fb, n * 4 + 2, none⟩ v').heap[g]? = some (.cells cur 83 (0, 0)) := fun g cur hg => by
    have e1 := box_step hg hrow2 hs (by decide)
    rw [Below.heap_setCell _ _ _ _ (fun q => ?_)]
    · exact e1
    · have q : g = fb := q
      rw [q, hfb'] at e1
      cases e1
  have hrc := row_otherM (o := n * 4 + 2) (u := v') (row_stepM h.c hrow2 hs (by decide)) hfb' (by decide)
  have hrl := row_otherM (o := n * 4 + 2) (u := v') hr hfb' (by decide)
  have hrf := row_setM (row_stepM h.f hrow2 hs (by decide)) (n * 4 + 2) v'
  obtain ⟨_, a0, c0, rfl, _, n0⟩ := ss_of_row hrc (C := (W'.setCell ⟨fb, n * 4 + 2, none⟩ v').cell?) fun _ _ _ q => q
  have hx := h.r.1
  have hF : FRow (W'.setCell ⟨fb, n * 4 + 2, none⟩ v').cell? (fs.set n ⟨fs[n].p, fs[n].r, fs[n].l ++ [x], fs[n].code⟩) (xs.set (n * 4 + 2) v') := by
    refine ⟨by simp [hx], fun j hj => ?_⟩
    rw [List.length_set] at hj
    obtain ⟨v0, v1, v2', v3, q0, q1, q2, q3, ⟨f0, f1, f2, f3⟩⟩ := h.r.2 j hj
    by_cases hjn : n = j
    · subst hjn
      rw [List.getElem_set_self]
      refine ⟨v0, v1, v', v3, ?_, ?_, ?_, ?_, own_at f0 fun g cur q1 q2 q3 => hN _ g cur (by omega) q1 q2 q3, own_at f1 fun g cur q1 q2 q3 => hN _ g cur (by omega) q1 q2 q3, ?_, ins_at f3 hI⟩
      · rw [List.getElem?_set_ne (by omega)]; exact q0
      · rw [List.getElem?_set_ne (by omega)]; exact q1
      · rw [List.getElem?_set_self (by omega)]
      · rw [List.getElem?_set_ne (by omega)]; exact q3
      · rw [show cellsN fs[n].l ++ [.int .i64 x] = cellsN (fs[n].l ++ [x]) by simp [cellsN]] at hrl
        obtain ⟨_, a, c, rfl, _, nl⟩ := ns_of_row hrl (C := (W'.setCell ⟨fb, n * 4 + 2, none⟩ v').cell?) fun _ _ _ q => q
        exact ⟨a, c, by simp, nl⟩
    · rw [List.getElem_set_ne hjn]
      refine ⟨v0, v1, v2', v3, ?_, ?_, ?_, ?_, own_at f0 fun g cur q1 q2 q3 => hN _ g cur (by omega) q1 q2 q3, own_at f1 fun g cur q1 q2 q3 => hN _ g cur (by omega) q1 q2 q3, own_at f2 fun g cur q1 q2 q3 => hN _ g cur (by omega) q1 q2 q3, ins_at f3 hI⟩
      all_goals (rw [List.getElem?_set_ne (by omega)]; assumption)
  obtain ⟨_, a1, c1, e1, _, n1⟩ := fs_of_row hrf hF
  cases e1
  exact ⟨⟨a0, c0, rfl, n0⟩, ⟨some ⟨fb, 0, none⟩, fc, by simp, n1⟩⟩
end Go.Proofs.YtfnpngbcnmglfaaGreat
