/- asm.ReadHead: what it keeps on its way. -/
import Derived.Test.YtbjipcpoiiegkaaGreatDoorAY
import Derived.Test.YtbjipcpoiiegkaaGreatDoorAH
import Derived.Test.YtbjipcpoiiegkaaGreatDoorVParse
namespace Go.Proofs.YtbjipcpoiiegkaaGreatDoor
open Go.RowKit Go.Shelf
theorem heap_alloc_at (w : World) (o : Obj) (k : Nat) : (w.alloc o).heap[k]? = if k = w.heap.size then some o else w.heap[k]? := by
  by_cases h : k = w.heap.size
  · subst h
    rw [if_pos rfl]
    exact heap_alloc_new w o
  · rw [if_neg h]
    by_cases h2 : k < w.heap.size
    · exact Below.heap_alloc _ _ _ h2
    · rw [Array.getElem?_eq_none (by simp; omega), Array.getElem?_eq_none (by omega)]
theorem hRun_snoc : ∀ (xs : List (List UInt8)) (h : HS) (x : List UInt8), hRun h (xs ++ [x]) = (hRun h xs).bind fun g => hStep g x
  | [], h, x => by
    simp only [List.nil_append, hRun, Option.bind_some]
    cases hStep h x <;> rfl
  | y :: xs, h, x => by
    simp only [List.cons_append, hRun]
    cases hStep h y with
    | none => rfl
    | some g => exact hRun_snoc xs g x
theorem hRun_none {xs ys : List (List UInt8)} {h : HS} (hn : hRun h xs = none) (hp : xs <+: ys) : hRun h ys = none := by
  obtain ⟨zs, rfl⟩ := hp
  induction xs generalizing h with
  | nil => cases hn
  | cons x xs ih =>
    simp only [List.cons_append, hRun] at hn ⊢
    cases hs : hStep h x with
    | none => rfl
    | some g =>
      rw [hs] at hn
      exact ih hn
def HS.at (h : HS) : Nat → List Int
  | 0 => h.p
  | 1 => h.r
  | _ => h.l
theorem push_at {h : HS} {j : Nat} (hj : j < 3) (hm : h.m = j + 1) (k : Int) (i : Nat) (hi : i < 3) : (h.push k).at i = if i = j then h.at j ++ [k] else h.at i := by
  unfold HS.push
  have h1 : j = 0 ∨ j = 1 ∨ j = 2 := by omega
  have h2 : i = 0 ∨ i = 1 ∨ i = 2 := by omega
  rcases h1 with rfl | rfl | rfl <;> rcases h2 with rfl | rfl | rfl <;> simp [hm, HS.at]
/-- What the numbers come to. -/
structure HS.Good (h : HS) : Prop where
  m : h.m ≤ 3
  n : h.n ≤ 64
  len : ∀ i, i < 3 → (h.at i).length ≤ h.n
theorem good_step {h g : HS} {x : List UInt8} (hg : h.Good) (e : hStep h x = some g) : g.Good := by
  unfold hStep at e
  split at e
  · cases e
    exact ⟨by simp only; omega, hg.n, fun i hi => by have := hg.len i hi; exact this⟩
  · split at e
    · cases e
    · rename_i h1 h2
      cases e
      have pm := push_m h (kindOf x)
      have hm := hg.m
      have hn := hg.n
      refine ⟨by omega, by omega, fun i hi => ?_⟩
      rw [pm.2, push_at (j := h.m - 1) (by omega) (by omega) _ _ hi]
      split
      · have := hg.len (h.m - 1) (by omega)
        simp only [List.length_append, List.length_cons, List.length_nil]
        omega
      · have := hg.len i hi
        omega
theorem good_run : ∀ {xs : List (List UInt8)} {h g : HS}, h.Good → hRun h xs = some g → g.Good
  | [], h, g, hg, e => by cases e; exact hg
  | x :: xs, h, g, hg, e => by
    simp only [hRun] at e
    cases hs : hStep h x with
    | none => rw [hs] at e; cases e
    | some k =>
      rw [hs] at e
      exact good_run (good_step hg hs) e
theorem good_beg : hBeg.Good := ⟨by decide, by decide, fun i _ => by
  match i with
  | 0 => exact Nat.le_refl _
  | 1 => exact Nat.le_refl _
  | _ + 2 => exact Nat.le_refl _⟩
/-- The three rows, each in a block of its own. -/
structure HRows (B : Nat) (h : HS) (vs : Nat → Value) (W : World) : Prop where
  row : ∀ i, i < 3 → W.ownsRow (B + 8) 3 1 (vs i) (h.at i).length (cellsN (h.at i))
  far : ∀ i j, i < 3 → j < 3 → i ≠ j → (vs i).ownBlock = (vs j).ownBlock → (vs i).ownBlock = none
structure HeadSt (B : Nat) (h : HS) (W : World) : Prop where
  f : W.heap[B]? = some (.cells #[.slice none 0 0, .slice none 0 0, .slice none 0 0, .slice none 0 0] 32 (0, 0))
  b : W.heap[B + 1]? = some (.cells #[.bool false] 4 (0, 0))
  ls : ∃ vs, W.heap[B + 2]? = some (.cells #[vs 0, vs 1, vs 2] 62 (0, 0)) ∧ HRows B h vs W
  m : W.heap[B + 3]? = some (.cells #[.int .i64 h.m] 3 (0, 0))
  n : W.heap[B + 4]? = some (.cells #[.int .i64 h.n] 3 (0, 0))
  sz : B + 8 ≤ W.heap.size
theorem row_keepc {W W' : World} {base k size : Nat} {e : TypeId} {v : Value} {xs : List Value} (h : W.ownsRow base e size v k xs) (hk : ∀ g o, base ≤ g → W.heap[g]? = some o → o.isCells = true → some g = v.ownBlock → W'.heap[g]? = some o) : W'.ownsRow base e size v k xs := by
  refine ⟨h.1, ?_⟩
  rcases h.2 with h2 | ⟨g, cap, cur, rfl, hg, hh, r⟩
  · exact .inl h2
  · exact .inr ⟨g, cap, cur, rfl, hg, hk g _ hg hh rfl rfl, r⟩
theorem HeadSt.keep {B : Nat} {h : HS} {W W' : World} (hs : HeadSt B h W) (hk : ∀ (k : Nat) (o : Obj), k ≠ B + 5 → W.heap[k]? = some o → o.isCells = true → W'.heap[k]? = some o) (hz : W.heap.size ≤ W'.heap.size) : HeadSt B h W' := by
  obtain ⟨f, b, ⟨vs, hl, hr⟩, m, n, sz⟩ := hs
  exact ⟨hk _ _ (by omega) f rfl, hk _ _ (by omega) b rfl, ⟨vs, hk _ _ (by omega) hl rfl, ⟨fun i hi => row_keepc (hr.row i hi) fun g o hg ho hc _ => hk g o (by omega) ho hc, hr.far⟩⟩, hk _ _ (by omega) m rfl, hk _ _ (by omega) n rfl, by omega⟩
theorem HeadSt.below {B : Nat} {h : HS} {W W' : World} (hs : HeadSt B h W) (hb : Below W.heap.size W W') : HeadSt B h W' :=
  hs.keep (fun k _o _ ho _ => (hb.block k (Array.getElem?_eq_some_iff.1 ho).1).trans ho) hb.size
theorem own_headSt (B : Nat) (J : List (List UInt8) → HS → Prop) : OwnFrom (β := List (List UInt8)) (B + 8) (fun pre W => ∃ h, J pre h ∧ HeadSt B h W) := by
  rintro pre X Y row ⟨h, hj, hs⟩ hg hr
  refine ⟨h, hj, hs.keep (fun k o _ ho hc => ?_) hg.size⟩
  refine (hg.block k (Array.getElem?_eq_some_iff.1 ho).1 fun e => ?_).trans ho
  obtain ⟨_, o', ho', hc'⟩ := hr k e.symm
  rw [ho] at ho'
  cases ho'
  rw [hc] at hc'
  cases hc'
theorem set_one' {w : World} {b : Nat} {x u : Value} {t : TypeId} (h : w.heap[b]? = some (.cells #[x] t (0, 0))) : (w.setCell ⟨b, 0, none⟩ u).heap[b]? = some (.cells #[u] t (0, 0)) := set_one h
/-- One mark more was passed. -/
theorem HeadSt.mark {B : Nat} {h : HS} {W : World} (hs : HeadSt B h W) : HeadSt B { h with m := h.m + 1 } (W.setCell ⟨B + 3, 0, none⟩ (.int .i64 ((h.m + 1 : Nat) : Int))) := by
  have o : ∀ k, k ≠ B + 3 → (W.setCell ⟨B + 3, 0, none⟩ (.int .i64 ((h.m + 1 : Nat) : Int))).heap[k]? = W.heap[k]? := fun k hk => Below.heap_setCell _ _ _ k hk
  obtain ⟨f, b, ⟨vs, hl, hr⟩, m, n, sz⟩ := hs
  refine ⟨(o _ (by omega)).trans f, (o _ (by omega)).trans b, ⟨vs, (o _ (by omega)).trans hl, ⟨fun i hi => row_keepc (hr.row i hi) fun g o' hg ho hc _ => (o g (by omega)).trans ho, hr.far⟩⟩, set_one m, (o _ (by omega)).trans n, ?_⟩
  have := (grownBy_setCell' W (B + 3) (.int .i64 ((h.m + 1 : Nat) : Int))).size
  omega
/-- One type more. -/
theorem HeadSt.more {B : Nat} {h : HS} {W W2 : World} {j : Nat} {k : Int} {vs : Nat → Value} {v' : Value} (hs : HeadSt B h W) (hl : W.heap[B + 2]? = some (.cells #[vs 0, vs 1, vs 2] 62 (0, 0))) (hr : HRows B h vs W) (hj : j < 3) (hm : h.m = j + 1)
    (hrow : W2.ownsRow (B + 8) 3 1 v' ((h.at j).length + 1) (cellsN (h.at j) ++ [.int .i64 k])) (hst : Step (W.drew.alloc (.cells #[.int .i64 k] 3)) (vs j) W2 v') :
    HeadSt B (h.push k) (((W2.setCell ⟨B + 2, j, none⟩ v').setCell ⟨B + 4, 0, none⟩ (.int .i64 ((h.n + 1 : Nat) : Int)))) := by
  have pm := push_m h k
  have hjb : ∀ g, (vs j).ownBlock = some g → B + 8 ≤ g := fun g e => ((hr.row j hj).lt g e).1
  have blk : ∀ g, g < W.heap.size → some g ≠ (vs j).ownBlock → W2.heap[g]? = W.heap[g]? := fun g hg hne =>
    (hst.1.block g (by simp; omega) hne).trans ((Below.heap_alloc _ _ g (by simpa using hg)).trans rfl)
  have szW := hs.sz
  have low : ∀ g, g < B + 8 → W2.heap[g]? = W.heap[g]? := fun g hg => blk g (by omega) fun e => by have := hjb g e.symm; omega
  have o : ∀ g, g ≠ B + 2 → g ≠ B + 4 → ((W2.setCell ⟨B + 2, j, none⟩ v').setCell ⟨B + 4, 0, none⟩ (.int .i64 ((h.n + 1 : Nat) : Int))).heap[g]? = W2.heap[g]? := fun g h1 h2 => (Below.heap_setCell _ _ _ g h2).trans (Below.heap_setCell _ _ _ g h1)
  have szs : W2.heap.size ≤ ((W2.setCell ⟨B + 2, j, none⟩ v').setCell ⟨B + 4, 0, none⟩ (.int .i64 ((h.n + 1 : Nat) : Int))).heap.size := by simp [World.setCell]
  have sz2 : W.heap.size + 1 ≤ W2.heap.size := by have := hst.1.size; simpa using this
  have hl2 : W2.heap[B + 2]? = some (.cells #[vs 0, vs 1, vs 2] 62 (0, 0)) := (low _ (by omega)).trans hl
  have hn2 : W2.heap[B + 4]? = some (.cells #[.int .i64 h.n] 3 (0, 0)) := (low _ (by omega)).trans hs.n
  have hv'B : ∀ g, v'.ownBlock = some g → B + 8 ≤ g := fun g e => (hrow.lt g e).1
  refine ⟨(o _ (by omega) (by omega)).trans ((low _ (by omega)).trans hs.f), (o _ (by omega) (by omega)).trans ((low _ (by omega)).trans hs.b), ⟨fun i => if i = j then v' else vs i, ?_, ⟨fun i hi => ?_, fun a b ha hb hab he => ?_⟩⟩, ?_, ?_, by omega⟩
  · refine (Below.heap_setCell _ _ _ _ (by show B + 2 ≠ B + 4; omega)).trans ?_
    have : j = 0 ∨ j = 1 ∨ j = 2 := by omega
    rcases this with rfl | rfl | rfl <;> simp [World.setCell, Array.getElem?_modify, hl2]
  · rw [push_at hj hm k i hi]
    by_cases hij : i = j
    · subst hij
      rw [if_pos rfl, if_pos rfl]
      have : cellsN (h.at i ++ [k]) = cellsN (h.at i) ++ [.int .i64 k] := by simp [cellsN]
      rw [this, List.length_append]
      exact row_keepc hrow fun g o' hg ho hc _ => (o g (by omega) (by omega)).trans ho
    · rw [if_neg hij, if_neg hij]
      refine row_keepc (hr.row i hi) fun g o' hg ho hc he => (o g (by omega) (by omega)).trans ((blk g (Array.getElem?_eq_some_iff.1 ho).1 fun e => ?_).trans ho)
      have := hr.far i j hi hj hij (he.symm.trans e)
      rw [this] at he
      cases he
  · have key : ∀ i, i < 3 → i ≠ j → v'.ownBlock = (vs i).ownBlock → v'.ownBlock = none := fun i hi hij e => by
      rcases hst.2 with h2 | ⟨g, h2, hg⟩
      · rw [h2] at e ⊢
        exact hr.far j i hj hi (fun q => hij q.symm) e
      · rw [h2] at e
        have := ((hr.row i hi).lt g e.symm).2
        simp at hg
        omega
    by_cases haj : a = j
    · rw [if_pos haj] at he ⊢
      rw [if_neg (fun q => hab (haj.trans q.symm))] at he
      exact key b hb (fun q => hab (haj.trans q.symm)) he
    · rw [if_neg haj] at he ⊢
      by_cases hbj : b = j
      · rw [if_pos hbj] at he
        rw [he]
        exact key a ha haj he.symm
      · rw [if_neg hbj] at he
        exact hr.far a b ha hb hab he
  · rw [pm.1]
    exact (o _ (by omega) (by omega)).trans ((low _ (by omega)).trans hs.m)
  · rw [pm.2]
    refine set_one ((Below.heap_setCell _ _ _ _ (by show B + 4 ≠ B + 2; omega)).trans hn2)
end Go.Proofs.YtbjipcpoiiegkaaGreatDoor
