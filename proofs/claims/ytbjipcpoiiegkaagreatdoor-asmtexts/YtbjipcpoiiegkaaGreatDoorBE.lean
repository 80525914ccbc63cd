/- The document's ReadHead: what it keeps on its way. -/
import Derived.Test.YtbjipcpoiiegkaaGreatDoorBB
import Derived.Test.YtbjipcpoiiegkaaGreatDoorVZ
namespace Go.Proofs.YtbjipcpoiiegkaaGreatDoor
open Go.RowKit Go.Shelf
theorem dRun_snoc : ∀ (xs : List (List UInt8)) (h : HS) (x : List UInt8), dRun h (xs ++ [x]) = (dRun h xs).bind fun g => dStep g x
  | [], h, x => by
    simp only [List.nil_append, dRun, Option.bind_some]
    cases dStep h x <;> rfl
  | y :: xs, h, x => by
    simp only [List.cons_append, dRun]
    cases dStep h y with
    | none => rfl
    | some g => exact dRun_snoc xs g x
theorem dRun_none {xs ys : List (List UInt8)} {h : HS} (hn : dRun h xs = none) (hp : xs <+: ys) : dRun h ys = none := by
  obtain ⟨zs, rfl⟩ := hp
  induction xs generalizing h with
  | nil => cases hn
  | cons x xs ih =>
    simp only [List.cons_append, dRun] at hn ⊢
    cases hs : dStep h x with
    | none => rfl
    | some g =>
      rw [hs] at hn
      exact ih hn
/-- What the numbers come to. -/
structure HS.DGood (h : HS) : Prop where
  m1 : 1 ≤ h.m
  m : h.m ≤ 3
  len : ∀ i, i < 3 → (h.at i).length ≤ h.n
theorem dgood_step {h g : HS} {x : List UInt8} (hg : h.DGood) (e : dStep h x = some g) : g.DGood := by
  have hm1 := hg.m1
  have hm := hg.m
  unfold dStep at e
  split at e
  · cases e
    exact ⟨by simp only; omega, by simp only; omega, fun i hi => by have := hg.len i hi; exact this⟩
  · split at e
    · cases e
    · cases e
      have pm := push_m h (kindOf x)
      refine ⟨by omega, by omega, fun i hi => ?_⟩
      rw [pm.2, push_at (j := h.m - 1) (by omega) (by omega) _ _ hi]
      split
      · have := hg.len (h.m - 1) (by omega)
        simp only [List.length_append, List.length_cons, List.length_nil]
        omega
      · have := hg.len i hi
        omega
theorem dgood_run : ∀ {xs : List (List UInt8)} {h g : HS}, h.DGood → dRun h xs = some g → g.DGood
  | [], h, g, hg, e => by cases e; exact hg
  | x :: xs, h, g, hg, e => by
    simp only [dRun] at e
    cases hs : dStep h x with
    | none => rw [hs] at e; cases e
    | some k =>
      rw [hs] at e
      exact dgood_run (dgood_step hg hs) e
theorem dgood_beg : hFun.DGood := ⟨by decide, by decide, fun i _ => by
  match i with
  | 0 => exact Nat.le_refl _
  | 1 => exact Nat.le_refl _
  | _ + 2 => exact Nat.le_refl _⟩
/-- The three rows, each in a block of its own. -/
structure Rows3 (base : Nat) (h : HS) (vs : Nat → Value) (W : World) : Prop where
  row : ∀ i, i < 3 → W.ownsRow base 3 1 (vs i) (h.at i).length (cellsN (h.at i))
  far : ∀ i j, i < 3 → j < 3 → i ≠ j → (vs i).ownBlock = (vs j).ownBlock → (vs i).ownBlock = none
theorem Rows3.chg {base : Nat} {h : HS} {vs : Nat → Value} {W W' : World} {t0 : TypeId} (hr : Rows3 base h vs W) (hc : ChgT t0 W W') (hne : 3 ≠ t0) : Rows3 base h vs W' := ⟨fun i hi => hc.row (hr.row i hi) hne, hr.far⟩
/-- One type more. -/
theorem Rows3.more {base : Nat} {h : HS} {W W2 : World} {j : Nat} {k : Int} {vs : Nat → Value} {v' : Value} (hr : Rows3 base h vs W) (hj : j < 3) (hm : h.m = j + 1)
    (hrow : W2.ownsRow base 3 1 v' ((h.at j).length + 1) (cellsN (h.at j) ++ [.int .i64 k])) (hst : Step W (vs j) W2 v') : Rows3 base (h.push k) (fun i => if i = j then v' else vs i) W2 := by
  refine ⟨fun i hi => ?_, fun a b ha hb hab he => ?_⟩
  · rw [push_at hj hm k i hi]
    by_cases hij : i = j
    · subst hij
      rw [if_pos rfl, if_pos rfl]
      have : cellsN (h.at i ++ [k]) = cellsN (h.at i) ++ [.int .i64 k] := by simp [cellsN]
      rw [this, List.length_append]
      exact hrow
    · rw [if_neg hij, if_neg hij]
      refine (hr.row i hi).kept hst.1 ?_
      by_cases e : (vs i).ownBlock = (vs j).ownBlock
      · exact .inl (hr.far i j hi hj hij e)
      · exact .inr e
  · have key : ∀ i, i < 3 → i ≠ j → v'.ownBlock = (vs i).ownBlock → v'.ownBlock = none := fun i hi hij e => by
      rcases hst.2 with h2 | ⟨g, h2, hg⟩
      · rw [h2] at e ⊢
        exact hr.far j i hj hi (fun q => hij q.symm) e
      · rw [h2] at e
        have := ((hr.row i hi).lt g e.symm).2
        omega
    by_cases haj : a = j
    · rw [if_pos haj] at he ⊢
      rw [if_neg (fun q => hab (haj.trans q.symm))] at he
      exact key b hb (fun q => hab (haj.trans q.symm)) he
    · rw [if_neg haj] at he ⊢
      by_cases hbj : b = j
      · rw [if_pos hbj] at he
        rw [he]
        exact key a ha haj he.symm
      · rw [if_neg hbj] at he
        exact hr.far a b ha hb hab he
/-- How the document's ReadHead ends. -/
def HeadEndD (r : Option Fn) (w : World) (e : Ending) (w' : World) : Prop := ∃ y0 m0 d0 y1 m1 d1 y2 m2 d2, e = .returned (.tuple #[.agg #[.slice y0 m0 d0, .slice y1 m1 d1, .slice y2 m2 d2, .slice none 0 0], .bool r.isSome]) ∧ (∀ f, r = some f → HeadRows w.heap.size f (.slice y0 m0 d0) (.slice y1 m1 d1) (.slice y2 m2 d2) w') ∧ Below w.heap.size w w'
/-- Where it stands: the box of the result at B, the words' row, the array at A. -/
structure DHead (w : World) (A : Nat) (ws : List (List UInt8)) (g cap : Nat) (h : HS) (vs : Nat → Value) (W : World) : Prop where
  f : W.heap[w.heap.size]? = some (.cells #[.slice none 0 0, .slice none 0 0, .slice none 0 0, .slice none 0 0] 32 (0, 0))
  wr : W.ownsRow w.heap.size 9 1 (.slice (some ⟨g, 0, none⟩) ws.length cap) ws.length (cellsS ws)
  a : W.heap[A]? = some (.cells #[vs 0, vs 1, vs 2] 62 (0, 0))
  aw : w.heap.size ≤ A
  rs : Rows3 w.heap.size h vs W
  b : Below w.heap.size w W
theorem DHead.keep {w : World} {A : Nat} {ws : List (List UInt8)} {g cap : Nat} {h : HS} {vs : Nat → Value} {W W' : World} (d : DHead w A ws g cap h vs W) (hb : Below W.heap.size W W') : DHead w A ws g cap h vs W' :=
  ⟨(hb.block _ (lt_of_block d.f)).trans d.f, row_below2 d.wr hb, (hb.block _ (lt_of_block d.a)).trans d.a, d.aw, d.rs.chg (ChgT.below hb 9) (by decide), d.b.trans (hb.mono d.b.size)⟩
theorem DHead.mark {w : World} {A : Nat} {ws : List (List UInt8)} {g cap : Nat} {h : HS} {vs : Nat → Value} {W : World} (d : DHead w A ws g cap h vs W) : DHead w A ws g cap { h with m := h.m + 1 } vs W :=
  ⟨d.f, d.wr, d.a, d.aw, ⟨fun i hi => d.rs.row i hi, d.rs.far⟩, d.b⟩
theorem DHead.word {w : World} {A : Nat} {ws : List (List UInt8)} {g cap : Nat} {h : HS} {vs : Nat → Value} {W : World} (d : DHead w A ws g cap h vs W) (i : Nat) (hi : i < ws.length) : W.cell? ⟨g, i, none⟩ = some (.string ⟨ws[i].toArray⟩) := by
  obtain ⟨a, c, e, _, _, hc⟩ := row_form d.wr
  rcases hc with ⟨rfl, _⟩ | ⟨g', rfl, _, _, hcell⟩
  · cases e
  · simp only [Value.slice.injEq, Option.some.injEq, Addr.mk.injEq] at e
    obtain ⟨⟨rfl, _⟩, _⟩ := e
    exact hcell i _ (by simp [cellsS, hi])
theorem DHead.more {w : World} {A : Nat} {ws : List (List UInt8)} {g cap : Nat} {h : HS} {vs : Nat → Value} {W W2 : World} {j : Nat} {k : Int} {v' : Value} (d : DHead w A ws g cap h vs W) (hj : j < 3) (hm : h.m = j + 1)
    (hrow : W2.ownsRow w.heap.size 3 1 v' ((h.at j).length + 1) (cellsN (h.at j) ++ [.int .i64 k])) (hst : Step W (vs j) W2 v') : DHead w A ws g cap (h.push k) (fun i => if i = j then v' else vs i) (W2.setCell ⟨A, j, none⟩ v') := by
  have c1 := ChgT.step (d.rs.row j hj) hst
  have a2 := c1 A _ _ _ (by decide) d.a
  have c2 : ChgT 62 W2 (W2.setCell ⟨A, j, none⟩ v') := ChgT.set a2
  refine ⟨c2 _ _ _ _ (by decide) (c1 _ _ _ _ (by decide) d.f), c2.row (c1.row d.wr (by decide)) (by decide), ?_, d.aw, (d.rs.more hj hm hrow hst).chg c2 (by decide), ?_⟩
  · have h1 : j = 0 ∨ j = 1 ∨ j = 2 := by omega
    rcases h1 with rfl | rfl | rfl <;> simp [World.setCell, Array.getElem?_modify, a2]
  · exact (d.b.trans ((hst.below d.b.size fun g e => ((d.rs.row j hj).lt g e).1))).setCell (p := ⟨A, j, none⟩) d.aw _
theorem DHead.moreA {w : World} {A : Nat} {ws : List (List UInt8)} {g cap : Nat} {h : HS} {vs : Nat → Value} {W W2 : World} {j : Nat} {v' : Value} (d : DHead w A ws g cap h vs W) (hj : j < 3) (hst : Step W (vs j) W2 v') : W2.cell? ⟨A, j, none⟩ = some (vs j) ∧ W2.frozen? ⟨A, j, none⟩ = false := by
  have c1 := ChgT.step (d.rs.row j hj) hst
  have a2 := c1 A _ _ _ (by decide) d.a
  have h1 : j = 0 ∨ j = 1 ∨ j = 2 := by omega
  rcases h1 with rfl | rfl | rfl <;> simp [World.cell?, World.frozen?, a2]
theorem pieces_ne (s : List UInt8) : ∃ x xs, pieces s = x :: xs := by
  rcases idx_cases s with hi | ⟨o, hi⟩
  · exact ⟨_, _, pieces_none hi⟩
  · exact ⟨_, _, pieces_some hi⟩
theorem kindOf_no {x : List UInt8} (h1 : x ≠ [105, 110, 116]) (h2 : x ≠ [98, 121, 116, 101, 115]) (h3 : x ≠ [98, 111, 111, 108]) : kindOf x = 0 := by
  unfold kindOf
  rw [if_neg h1, if_neg h2, if_neg h3]
end Go.Proofs.YtbjipcpoiiegkaaGreatDoor
