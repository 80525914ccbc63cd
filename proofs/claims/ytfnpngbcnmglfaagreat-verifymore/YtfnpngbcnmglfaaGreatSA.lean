/- shape's stack of blocks: its state, size, first, top, innermostLoop. shape's stack of blocks: push, drop. shape's stack of blocks: drop; mayStand, step. -/
import Derived.Test.YtfnpngbcnmglfaaGreatAN
import Derived.Test.YtfnpngbcnmglfaaGreatWC
import Derived.Deep.RegionLaw
import Derived.BigQuiet
import Derived.Shelf.Abstract
namespace Go.Proofs.YtfnpngbcnmglfaaGreat
open Go.RowKit
theorem hid6 {p : Prop} (h : p) : Hid p := h
/-- An open block: where it begins, its else, whether it is a loop. -/
structure Blk where
  s : Int
  o : Int
  l : Bool
  deriving DecidableEq
def Blk.v (b : Blk) : Value := .agg #[.int .i64 b.s, .int .i64 b.o, .bool b.l]
def Blk.cs (b : Blk) : List Value := [.int .i64 b.s, .int .i64 b.o, .bool b.l]
def cellsB (L : List Blk) : List Value := L.flatMap Blk.cs
theorem cellsB_len (L : List Blk) : (cellsB L).length = L.length * 3 := by
  induction L with
  | nil => rfl
  | cons x L ih => simp [cellsB, Blk.cs] at ih ⊢; omega
theorem cellsB_at : ∀ (L : List Blk) (j : Nat) (h : j < L.length), (cellsB L)[j * 3]? = some (.int .i64 L[j].s) ∧ (cellsB L)[j * 3 + 1]? = some (.int .i64 L[j].o) ∧ (cellsB L)[j * 3 + 2]? = some (.bool L[j].l)
  | [], j, h => by simp at h
  | x :: L, 0, _ => ⟨rfl, rfl, rfl⟩
  | x :: L, j + 1, h => by
    have := cellsB_at L j (by simpa using h)
    have e : cellsB (x :: L) = .int .i64 x.s :: .int .i64 x.o :: .bool x.l :: cellsB L := by simp [cellsB, Blk.cs]
    rw [e, show (j + 1) * 3 = j * 3 + 1 + 1 + 1 by omega, show j * 3 + 1 + 1 + 1 + 1 = (j * 3 + 1) + 1 + 1 + 1 by omega, show j * 3 + 1 + 1 + 1 + 2 = (j * 3 + 2) + 1 + 1 + 1 by omega]
    simpa using this
/-- The stack at p: its blocks lie in a row of its own. -/
structure Stk (base p : Nat) (L : List Blk) (a : Option Addr) (cap : Nat) (W : World) : Prop where
  box : W.heap[p]? = some (.cells #[.slice a L.length cap] 215 (0, 0))
  row : W.ownsRow base 181 3 (.slice a L.length cap) L.length (cellsB L)
theorem one_cell {w : World} {b : Nat} {x : Value} {t : TypeId} (h : w.heap[b]? = some (.cells #[x] t (0, 0))) : w.cell? ⟨b, 0, none⟩ = some x ∧ w.frozen? ⟨b, 0, none⟩ = false := by
  simp [World.cell?, World.frozen?, h]
theorem blk_lt {w : World} {b : Nat} {o : Obj} (h : w.heap[b]? = some o) : b < w.heap.size := (Array.getElem?_eq_some_iff.1 h).1
theorem Stk.keep {base p : Nat} {L : List Blk} {a : Option Addr} {cap : Nat} {W W' : World} (h : Stk base p L a cap W) (hb : Below W.heap.size W W') : Stk base p L a cap W' := ⟨(hb.block _ (blk_lt h.box)).trans h.box, row_below2 h.row hb⟩
theorem Stk.new (w : World) : Stk (w.heap.size + 1) w.heap.size [] none 0 (w.alloc (.cells #[.slice none 0 0] 215)) := ⟨heap_alloc_new w _, World.ownsRow_nil _ _ _ _⟩
/-- Where its blocks lie. -/
theorem Stk.at {base p : Nat} {L : List Blk} {a : Option Addr} {cap : Nat} {W : World} (h : Stk base p L a cap W) (hne : 0 < L.length) : ∃ g, a = some ⟨g, 0, none⟩ ∧ base ≤ g ∧ g < W.heap.size ∧ L.length ≤ cap ∧ ∀ j (hj : j < L.length), W.cell? ⟨g, j * 3, none⟩ = some (.int .i64 L[j].s) ∧ W.cell? ⟨g, j * 3 + 1, none⟩ = some (.int .i64 L[j].o) ∧ W.cell? ⟨g, j * 3 + 2, none⟩ = some (.bool L[j].l) := by
  obtain ⟨x, c, e, hc, _, hr⟩ := row_form h.row
  simp only [Value.slice.injEq] at e
  obtain ⟨rfl, _, rfl⟩ := e
  rcases hr with ⟨_, h0, _⟩ | ⟨g, rfl, hg, hl, hcell⟩
  · omega
  · refine ⟨g, rfl, hg, hl, hc, fun j hj => ?_⟩
    obtain ⟨k0, k1, k2⟩ := cellsB_at L j hj
    exact ⟨hcell _ _ k0, hcell _ _ k1, hcell _ _ k2⟩
theorem size6_any {base p : Nat} {L : List Blk} {a : Option Addr} {cap : Nat} (W : World) (h : Stk base p L a cap W) : Calls Tryz.prog 177 #[.pointer (some ⟨p, 0, none⟩)] W fun e w' => e = .returned (.int .i64 L.length) ∧ w' = W := by
  obtain ⟨p0, _⟩ := one_cell h.box
  go_enter Tryz.func177, Tryz.ntmps177
  go_wp2
  go_ret
  exact ⟨rfl, rfl⟩
theorem any1 (b : Blk) (W : World) : Calls Tryz.prog 179 #[b.v] W fun e w' => e = .returned (.bool true) ∧ Below W.heap.size W w' := by
  unfold Blk.v
  go_enter Tryz.func179, Tryz.ntmps179
  go_wp2
  go_ret
  exact ⟨rfl, (Below.refl _ W).alloc (Nat.le_refl _) _⟩
theorem isLoop_any (b : Blk) (W : World) : Calls Tryz.prog 180 #[b.v] W fun e w' => e = .returned (.bool b.l) ∧ Below W.heap.size W w' := by
  unfold Blk.v
  go_enter Tryz.func180, Tryz.ntmps180
  go_wp2
  go_ret
  exact ⟨rfl, (Below.refl _ W).alloc (Nat.le_refl _) _⟩
/-- The one nearest to the top, of the lowest k, that is wanted. -/
def firstIx (L : List Blk) (pr : Blk → Bool) : Nat → Option Nat
  | 0 => none
  | k + 1 => match L[k]? with
    | none => none
    | some b => if pr b = true then some k else firstIx L pr k
def ptrIx (g : Nat) : Option Nat → Value
  | none => .pointer none
  | some i => .pointer (some ⟨g, i * 3, none⟩)
theorem firstIx_lt {L : List Blk} {pr : Blk → Bool} : ∀ {k i : Nat}, firstIx L pr k = some i → i < k ∧ ∃ b, L[i]? = some b ∧ pr b = true
  | 0, i, h => by cases h
  | k + 1, i, h => by
    simp only [firstIx] at h
    cases hb : L[k]? with
    | none => rw [hb] at h; cases h
    | some b =>
      rw [hb] at h
      simp only at h
      split at h
      · cases h
        exact ⟨Nat.lt_succ_self _, b, hb, by assumption⟩
      · obtain ⟨h1, h2⟩ := firstIx_lt h
        exact ⟨by omega, h2⟩
set_option maxRecDepth 100000 in
set_option maxHeartbeats 1000000 in
theorem first_of {base p g : Nat} {L : List Blk} {a : Option Addr} {cap : Nat} (W : World) (h : Stk base p L a cap W) (hg : 0 < L.length → a = some ⟨g, 0, none⟩) (hl : L.length ≤ 1000000) (F : Nat) (pr : Blk → Bool) (hF : ∀ b W, Calls Tryz.prog F #[b.v] W fun e w' => e = .returned (.bool (pr b)) ∧ Below W.heap.size W w') (eF : ∀ args w, (callFunc F args).run Tryz.prog w = .ok (.enter F args) w) (r : Option Nat) (HR : Hid (firstIx L pr L.length = r)) :
    Calls Tryz.prog 178 #[.pointer (some ⟨p, 0, none⟩), .func (.func F) #[] #[]] W fun e w' => e = .returned (ptrIx g r) ∧ Below W.heap.size W w' := by
  obtain ⟨n, hn⟩ : ∃ n, n = L.length := ⟨_, rfl⟩
  have HN := hid6 hn
  have hcells : ∀ wr, Below W.heap.size W wr → wr.cell? ⟨p, 0, none⟩ = some (.slice a n cap) := fun wr hb => by rw [hn]; exact (one_cell (h.keep hb).box).1
  have hat : Hid (0 < n → ∀ wr, Below W.heap.size W wr → ∀ j (hj : j < L.length), wr.cell? ⟨g, j * 3, none⟩ = some (.int .i64 L[j].s) ∧ wr.cell? ⟨g, j * 3 + 1, none⟩ = some (.int .i64 L[j].o) ∧ wr.cell? ⟨g, j * 3 + 2, none⟩ = some (.bool L[j].l)) := hid6 fun h0 wr hb j hj => by
    rw [hn] at h0
    obtain ⟨g', e, _, _, _, hc⟩ := (h.keep hb).at h0
    rw [hg h0] at e
    cases e
    exact hc j hj
  have hcap : 0 < n → n ≤ cap ∧ a = some ⟨g, 0, none⟩ := fun h0 => by
    rw [hn] at h0 ⊢
    obtain ⟨_, _, _, _, hc, _⟩ := h.at h0
    exact ⟨hc, hg h0⟩
  have p0 := hcells W (Below.refl _ _)
  rw [← hn] at hl
  clear h hg hn
  go_enter Tryz.func178, Tryz.ntmps178
  go_wp2_with fail
  go_loopw [5] (fun i wr => ∃ k : Nat, k ≤ n ∧ i = .int .i64 ((k : Int) - 1) ∧ Hid (firstIx L pr k = r) ∧ Below W.heap.size W wr) (fun i _ => (intOf i + 1).toNat)
  case atStart => exact ⟨n, Nat.le_refl _, rfl, hid6 (by rw [HN.out]; exact HR.out), Below.refl _ _⟩
  case round =>
    obtain ⟨k, hk, rfl, HI, hb⟩ := hrel
    have q0 := hcells _ hb
    cases k with
    | zero =>
      have HE : Hid (r = none) := hid6 HI.out.symm
      clear HI
      go_wp2_with fail
      go_ret
      exact ⟨by rw [HE.out]; rfl, hb⟩
    | succ k =>
      have h0 : 0 < n := by omega
      have kl : k < L.length := by have := HN.out; omega
      obtain ⟨c0, c1, c2⟩ := hat.out h0 _ hb k kl
      obtain ⟨hc, ha⟩ := hcap h0
      have hFk := hF L[k]
      have HS : Hid (firstIx L pr (k + 1) = if pr L[k] = true then some k else firstIx L pr k) := hid6 (by rw [firstIx, List.getElem?_eq_getElem kl])
      clear hF hat
      generalize L[k] = b at c0 c1 c2 hFk HS
      obtain ⟨bs, bo, bl⟩ := b
      simp only [Blk.v] at c0 c1 c2 hFk
      subst ha
      have hi : ((k + 1 : Nat) : Int) - 1 = (k : Int) := by omega
      rw [hi]
      cases hp : pr ⟨bs, bo, bl⟩ with
      | true =>
        rw [hp] at hFk
        have HE : Hid (r = some k) := hid6 (by rw [← HI.out, HS.out, if_pos hp])
        clear HI HS hp
        go_wp2_with (first | (go_at_fn F; refine (hFk _).mono ?_; rintro e w2 ⟨rfl, hb2⟩; have hb3 := hb.trans (hb2.mono hb.size); have q1 := hcells _ hb3) | fail)
        go_ret
        exact ⟨by rw [HE.out]; rfl, hb3⟩
      | false =>
        rw [hp] at hFk
        have HE : Hid (firstIx L pr k = r) := hid6 (by rw [← HI.out, HS.out, if_neg (by rw [hp]; decide)])
        clear HI HS hp
        go_wp2_with (first | (go_at_fn F; refine (hFk _).mono ?_; rintro e w2 ⟨rfl, hb2⟩; have hb3 := hb.trans (hb2.mono hb.size)) | fail)
        exact ⟨⟨k, by omega, rfl, HE, hb3⟩, by simp [intOf]⟩
theorem top_any {base p g : Nat} {L : List Blk} {a : Option Addr} {cap : Nat} (W : World) (h : Stk base p L a cap W) (hg : 0 < L.length → a = some ⟨g, 0, none⟩) (hl : L.length ≤ 1000000) (r : Option Nat) (HR : Hid (firstIx L (fun _ => true) L.length = r)) :
    Calls Tryz.prog 135 #[.pointer (some ⟨p, 0, none⟩)] W fun e w' => e = .returned (ptrIx g r) ∧ Below W.heap.size W w' := by
  have hF := first_of W h hg hl 179 (fun _ => true) any1 (Go.Proofs.enters_of Tryz.func179 (by kernel_rfl) rfl) r HR
  go_enter Tryz.func135, Tryz.ntmps135
  go_wp2_with (go_at_call 178; refine hF.mono ?_; rintro e w2 ⟨rfl, hb2⟩)
  go_ret
  exact ⟨rfl, hb2⟩
theorem inner_any {base p g : Nat} {L : List Blk} {a : Option Addr} {cap : Nat} (W : World) (h : Stk base p L a cap W) (hg : 0 < L.length → a = some ⟨g, 0, none⟩) (hl : L.length ≤ 1000000) (r : Option Nat) (HR : Hid (firstIx L Blk.l L.length = r)) :
    Calls Tryz.prog 136 #[.pointer (some ⟨p, 0, none⟩)] W fun e w' => e = .returned (ptrIx g r) ∧ Below W.heap.size W w' := by
  have hF := first_of W h hg hl 180 Blk.l isLoop_any (Go.Proofs.enters_of Tryz.func180 (by kernel_rfl) rfl) r HR
  go_enter Tryz.func136, Tryz.ntmps136
  go_wp2_with (go_at_call 178; refine hF.mono ?_; rintro e w2 ⟨rfl, hb2⟩)
  go_ret
  exact ⟨rfl, hb2⟩
end Go.Proofs.YtfnpngbcnmglfaaGreat
namespace Go.Proofs.YtfnpngbcnmglfaaGreat
open Go.RowKit
theorem elemN_blk : ElemN Tryz.prog 213 181 3 24 := by
  refine ⟨Tryz.underlying213, ?_, by decide⟩
  obtain ⟨i, hi, h1, h2, h3⟩ := info_parts (show (Tryz.prog.info? 181).map (fun i => (i.zero, i.size, i.bytes)) = some (some (.agg #[.int .i64 0, .int .i64 0, .bool false]), 3, 24) by kernel_rfl)
  exact ⟨i, _, hi, h1, h2, h3, rfl⟩
theorem cells_new6 (W : World) (xs : List Value) (t : TypeId) (B : Nat) (hB : W.heap.size = B) : ∀ j u, xs[j]? = some u → (W.alloc (.cells xs.toArray t)).cell? ((⟨B, 0, none⟩ : Addr).add j) = some u := by
  subst hB
  intro j u hu
  rw [Addr.add_lit, Lib.cell_of_heap (heap_alloc_new W (.cells xs.toArray t))]
  simpa using hu
theorem cellsB_snoc (L : List Blk) (b : Blk) : cellsB (L ++ [b]) = cellsB L ++ b.cs := by simp [cellsB]
/-- Only stacks and their blocks have turned. -/
def Mv (W W' : World) : Prop := W.heap.size ≤ W'.heap.size ∧ ∀ (k : Nat) (cur : Array Value) (t : TypeId) (z : Nat × Nat), t ≠ 215 → t ≠ 181 → W.heap[k]? = some (.cells cur t z) → W'.heap[k]? = some (.cells cur t z)
theorem Mv.refl (W : World) : Mv W W := ⟨Nat.le_refl _, fun _ _ _ _ _ _ h => h⟩
theorem Mv.trans {A B C : World} (h : Mv A B) (g : Mv B C) : Mv A C := ⟨Nat.le_trans h.1 g.1, fun k cur t z h1 h2 hk => g.2 k cur t z h1 h2 (h.2 k cur t z h1 h2 hk)⟩
theorem Mv.below {W W' : World} (h : Below W.heap.size W W') : Mv W W' := ⟨h.size, fun k _ _ _ _ _ hk => (h.block k (blk_lt hk)).trans hk⟩
theorem Mv.set {W : World} {b o : Nat} {cs : Array Value} {t0 : TypeId} {z : Nat × Nat} {u : Value} (hb : W.heap[b]? = some (.cells cs t0 z)) (ht : t0 = 215 ∨ t0 = 181) : Mv W (W.setCell ⟨b, o, none⟩ u) := by
  refine ⟨by simp [World.setCell], fun k cur t z' h1 h2 hk => (Below.heap_setCell _ _ _ k fun e => ?_).trans hk⟩
  subst e
  rw [hb] at hk
  cases hk
  rcases ht with rfl | rfl
  · exact h1 rfl
  · exact h2 rfl
theorem Mv.step {W W' : World} {base n : Nat} {v v' : Value} {xs : List Value} (hr : W.ownsRow base 181 3 v n xs) (hs : Step W v W' v') : Mv W W' := by
  refine ⟨hs.1.size, fun k cur t z h1 h2 hk => (hs.1.block k (blk_lt hk) fun h => ?_).trans hk⟩
  rcases hr.2 with ⟨rfl, _⟩ | ⟨g, cap, cur', rfl, _, hh, _⟩
  · cases h
  · cases h
    rw [hk] at hh
    cases hh
    exact h2 rfl
/-- How push, drop and step leave it. -/
def StkEnd (p : Nat) (L : List Blk) (W : World) (e : Ending) (w' : World) : Prop := e = .returned (.tuple #[]) ∧ (∃ a cap, Stk (p + 1) p L a cap w') ∧ Below p W w' ∧ Mv W w'
theorem one_set {w : World} {b : Nat} {x u : Value} {t : TypeId} (h : w.heap[b]? = some (.cells #[x] t (0, 0))) : (w.setCell ⟨b, 0, none⟩ u).heap[b]? = some (.cells #[u] t (0, 0)) := by
  simp [World.setCell, Array.getElem?_modify, h]
theorem row_other6 {w : World} {base n size b o : Nat} {e e' : TypeId} {v u : Value} {xs : List Value} {cs : Array Value} (h : w.ownsRow base e size v n xs) (hb : w.heap[b]? = some (.cells cs e' (0, 0))) (hne : e ≠ e') : (w.setCell ⟨b, o, none⟩ u).ownsRow base e size v n xs := by
  refine ⟨h.1, ?_⟩
  rcases h.2 with h2 | ⟨g, cap, cur, rfl, hg, hh, r⟩
  · exact .inl h2
  · refine .inr ⟨g, cap, cur, rfl, hg, ?_, r⟩
    rw [Below.heap_setCell _ _ _ _ (fun e2 => ?_)]
    · exact hh
    · subst e2
      rw [hb] at hh
      cases hh
      exact hne rfl
set_option maxRecDepth 100000 in
set_option maxHeartbeats 1000000 in
theorem push_any {p : Nat} {L : List Blk} {a : Option Addr} {cap : Nat} (b : Blk) (W : World) (h : Stk (p + 1) p L a cap W) (hl : L.length ≤ 1000000) : Calls Tryz.prog 214 #[.pointer (some ⟨p, 0, none⟩), b.v] W (StkEnd p (L ++ [b]) W) := by
  obtain ⟨bs, bo, bl⟩ := b
  simp only [Blk.v]
  have bx4 := (Below.refl _ W).alloc (Nat.le_refl _) (.cells #[.int .i64 bs, .int .i64 bo, .bool bl] 181)
  have bx5 := bx4.drew.alloc (by simp) (.cells #[.int .i64 bs, .int .i64 bo, .bool bl] 181)
  have h5 := h.keep bx5
  obtain ⟨p0, z0⟩ := one_cell h.box
  have hlt := blk_lt h.box
  go_enter Tryz.func214, Tryz.ntmps214
  go_wp2_with fail
  go_region_law (first
    | (refine step_appN _ (by rfl) (.tmp 8) (.tmp 10) 213 (by rfl) elemN_blk (p + 1) _ L.length (cellsB L) (by rfl) h5.row _ (by rfl) 1 [.int .i64 bs, .int .i64 bo, .bool bl] (.inr ⟨⟨_, 0, none⟩, 1, rfl, cells_new6 _ [.int .i64 bs, .int .i64 bo, .bool bl] 181 _ (World.size_alloc _ _)⟩) rfl (by simp [Value.oneCell']) (by unfold maxLen; omega) (by omega) (by simp; omega) ?_; intro v' w6 hr6 hs6; have m6 := Mv.step h5.row hs6; have b6 : w6.heap[p]? = some (.cells #[.slice a L.length cap] 215 (0, 0)) := (hs6.1.block p (by simp; omega) (fun e => by have := (h5.row.lt p e.symm).1; omega)).trans h5.box; obtain ⟨j0, j1⟩ := one_cell b6; obtain ⟨vy, vd, rfl, _⟩ := row_form hr6))
  all_goals
    go_wp2_with fail
    go_end0
    have hb6 := (bx5.mono (show p ≤ W.heap.size by omega)).trans ((hs6.below (B := p + 1) (by simp; omega) fun g e => (h5.row.lt g e).1).mono (by omega))
    refine ⟨rfl, ⟨vy, vd, ⟨by rw [List.length_append]; exact one_set b6, ?_⟩⟩, hb6.setCell (p := ⟨p, 0, none⟩) (Nat.le_refl _) _, ((Mv.below bx5).trans m6).trans (Mv.set b6 (.inl rfl))⟩
    rw [cellsB_snoc, List.length_append]
    exact row_other6 hr6 b6 (by decide)
end Go.Proofs.YtfnpngbcnmglfaaGreat
namespace Go.Proofs.YtfnpngbcnmglfaaGreat
open Go.RowKit
theorem row_less {W : World} {base g cap n : Nat} {e : TypeId} {L : List Blk} {b : Blk} (h : W.ownsRow base e 3 (.slice (some ⟨g, 0, none⟩) (L ++ [b]).length cap) (L ++ [b]).length (cellsB (L ++ [b]))) (hn : n = L.length) : W.ownsRow base e 3 (.slice (some ⟨g, 0, none⟩) n cap) L.length (cellsB L) := by
  subst hn
  refine ⟨cellsB_len L, .inr ?_⟩
  rcases h.2 with ⟨h2, _⟩ | ⟨g', cap', cur, e1, hg, hh, h1, h2, h3, h4⟩
  · cases h2
  · cases e1
    refine ⟨g, cap, cur, rfl, hg, hh, by simp at h1; omega, h2, h3, ?_⟩
    rw [cellsB_snoc, List.length_append, List.length_singleton, Nat.add_mul, Nat.one_mul] at h4
    have := congrArg (List.take (L.length * 3)) h4
    rw [List.take_take, Nat.min_eq_left (by omega), List.take_append_of_le_length (by rw [cellsB_len]; exact Nat.le_refl _)] at this
    exact this.trans (List.take_of_length_le (by rw [cellsB_len]; exact Nat.le_refl _))
theorem Stk.dropped {p g cap n : Nat} {L : List Blk} {b : Blk} {W : World} (h : Stk (p + 1) p (L ++ [b]) (some ⟨g, 0, none⟩) cap W) (hn : n = L.length) : StkEnd p L W (.returned (.tuple #[])) (W.setCell ⟨p, 0, none⟩ (.slice (some ⟨g, 0, none⟩) n cap)).drew := by
  have hr := row_less h.row hn
  refine ⟨rfl, ⟨some ⟨g, 0, none⟩, cap, ⟨?_, ?_⟩⟩, ((Below.refl p W).setCell (p := ⟨p, 0, none⟩) (Nat.le_refl _) _).drew, Mv.set h.box (.inl rfl)⟩
  · rw [hn]; exact one_set h.box
  · rw [hn] at hr ⊢; exact row_other6 hr h.box (by decide)
set_option maxRecDepth 100000 in
set_option maxHeartbeats 1000000 in
theorem drop_any {p : Nat} {L : List Blk} {b : Blk} {a : Option Addr} {cap : Nat} (W : World) (h : Stk (p + 1) p (L ++ [b]) a cap W) (hl : L.length ≤ 1000000) : Calls Tryz.prog 215 #[.pointer (some ⟨p, 0, none⟩)] W (StkEnd p L W) := by
  have hx := h.box
  obtain ⟨g, rfl, hg1, hg2, hc, _⟩ := h.at (by simp)
  rw [List.length_append, List.length_singleton] at hx hc
  obtain ⟨p0, z0⟩ := one_cell hx
  have hlt := blk_lt h.box
  obtain ⟨n, hn⟩ : ∃ n, n = L.length := ⟨_, rfl⟩
  rw [← hn] at hx p0 hc hl
  have hw : IntKind.i64.wrap (n : Int) = (n : Int) := by rw [IntKind.wrap_i64]; omega
  have hcc : (n : Int) ≤ (cap : Int) := by omega
  have HN := hid6 hn
  have HS := hid6 h
  clear hn h
  go_enter Tryz.func215, Tryz.ntmps215
  go_wp2_with fail
  go_region_law fail
  all_goals
    go_end0
    exact HS.out.dropped HN.out
/-- May n stand where these blocks are open? -/
def standS (n : Int) (L : List Blk) : Bool :=
  if n = 48 ∨ n = 51 then decide (L.length < 8)
  else if n = 49 then (match L.getLast? with | none => false | some b => !b.l && decide (b.o = -1))
  else if n = 50 then decide (0 < L.length)
  else if n = 52 then (firstIx L Blk.l L.length).isSome
  else true
/-- What n at at does to them. -/
def stepS (n at' : Int) (L : List Blk) : List Blk :=
  if n = 48 ∨ n = 51 then L ++ [⟨at', -1, decide (n = 51)⟩]
  else if n = 49 then (match L.getLast? with | none => L | some b => L.dropLast ++ [⟨b.s, at', b.l⟩])
  else if n = 50 then L.dropLast
  else L
theorem first_snoc (M : List Blk) (b : Blk) : firstIx (M ++ [b]) (fun _ => true) (M ++ [b]).length = some M.length := by
  rw [List.length_append, List.length_singleton, firstIx]
  simp
theorem Stk.word {base p : Nat} {L : List Blk} {a : Option Addr} {cap : Nat} {W : World} (h : Stk base p L a cap W) : ∃ g, (0 < L.length → a = some ⟨g, 0, none⟩) := by
  rcases Nat.eq_zero_or_pos L.length with h0 | h0
  · exact ⟨0, fun h1 => by omega⟩
  · obtain ⟨g, e, _⟩ := h.at h0
    exact ⟨g, fun _ => e⟩
set_option maxRecDepth 100000 in
set_option maxHeartbeats 1000000 in
theorem may_any {p : Nat} {L : List Blk} {a : Option Addr} {cap : Nat} (n : Int) (W : World) (h : Stk (p + 1) p L a cap W) (hl : L.length ≤ 1000000) (r : Bool) (HR : Hid (standS n L = r)) : Calls Tryz.prog 175 #[.int .i64 n, .pointer (some ⟨p, 0, none⟩)] W fun e w' => e = .returned (.bool r) ∧ Below W.heap.size W w' := by
  have hS := fun w => size6_any (base := p + 1) (p := p) (L := L) (a := a) (cap := cap) w
  have hS := hS _ h
  obtain ⟨g, hg⟩ := h.word
  have HR2 := HR.out
  clear HR
  by_cases n1 : n = 48
  · subst n1
    have HE : Hid (decide (L.length < 8) = r) := hid6 (by rw [← HR2]; simp [standS])
    generalize L.length = k at hS HE hl
    clear HR2 h hg
    go_enter Tryz.func175, Tryz.ntmps175
    go_wp2_with (first | (go_at_call 177; refine hS.mono ?_; rintro e w2 ⟨rfl, rfl⟩) | fail)
    go_ret
    exact ⟨by rw [← HE.out]; congr 2; simp; omega, Below.refl _ _⟩
  by_cases n2 : n = 51
  · subst n2
    have HE : Hid (decide (L.length < 8) = r) := hid6 (by rw [← HR2]; simp [standS])
    generalize L.length = k at hS HE hl
    clear HR2 h hg
    go_enter Tryz.func175, Tryz.ntmps175
    go_wp2_with (first | (go_at_call 177; refine hS.mono ?_; rintro e w2 ⟨rfl, rfl⟩) | fail)
    go_ret
    exact ⟨by rw [← HE.out]; congr 2; simp; omega, Below.refl _ _⟩
  by_cases n3 : n = 50
  · subst n3
    have HE : Hid (decide (0 < L.length) = r) := hid6 (by rw [← HR2]; simp [standS])
    generalize L.length = k at hS HE hl
    clear HR2 h hg
    go_enter Tryz.func175, Tryz.ntmps175
    go_wp2_with (first | (go_at_call 177; refine hS.mono ?_; rintro e w2 ⟨rfl, rfl⟩) | fail)
    go_ret
    exact ⟨by rw [← HE.out]; first | rfl | (congr 2; simp), Below.refl _ _⟩
  by_cases n4 : n = 52
  · subst n4
    have hI := inner_any W h hg hl _ (hid6 rfl)
    have HE : Hid ((firstIx L Blk.l L.length).isSome = r) := hid6 (by rw [← HR2]; simp [standS])
    generalize firstIx L Blk.l L.length = k at hI HE
    clear HR2 h hg hS
    cases k with
    | none =>
      simp only [ptrIx] at hI
      go_enter Tryz.func175, Tryz.ntmps175
      go_wp2_with (first | (go_at_call 136; refine hI.mono ?_; rintro e w2 ⟨rfl, hb2⟩) | fail)
      go_ret
      exact ⟨by rw [← HE.out]; rfl, hb2⟩
    | some k =>
      simp only [ptrIx] at hI
      go_enter Tryz.func175, Tryz.ntmps175
      go_wp2_with (first | (go_at_call 136; refine hI.mono ?_; rintro e w2 ⟨rfl, hb2⟩) | fail)
      go_ret
      exact ⟨by rw [← HE.out]; rfl, hb2⟩
  by_cases n5 : n = 49
  · subst n5
    rcases List.eq_nil_or_concat L with rfl | ⟨M, b, rfl⟩
    · have hT := top_any W h hg hl none (hid6 rfl)
      have HE : Hid (false = r) := hid6 (by rw [← HR2]; rfl)
      simp only [ptrIx] at hT
      clear HR2 h hg hS
      go_enter Tryz.func175, Tryz.ntmps175
      go_wp2_with (first | (go_at_call 135; refine hT.mono ?_; rintro e w2 ⟨rfl, hb2⟩) | fail)
      go_ret
      exact ⟨by rw [← HE.out]; rfl, hb2⟩
    · rw [List.concat_eq_append] at h hg hl HR2
      have hT := top_any W h hg hl (some M.length) (hid6 (first_snoc M b))
      have HE : Hid ((!b.l && decide (b.o = -1)) = r) := hid6 (by rw [← HR2]; simp [standS])
      have hat : ∀ wr, Below W.heap.size W wr → wr.cell? ⟨g, M.length * 3 + 1, none⟩ = some (.int .i64 b.o) ∧ wr.cell? ⟨g, M.length * 3 + 2, none⟩ = some (.bool b.l) := fun wr hb => by
        obtain ⟨g', e, _, _, _, hc⟩ := (h.keep hb).at (by simp)
        rw [hg (by simp)] at e
        cases e
        have := hc M.length (by simp)
        simpa using this.2
      simp only [ptrIx] at hT
      generalize M.length = k at hT hat
      obtain ⟨bs, bo, bl⟩ := b
      simp only at hat HE
      clear HR2 h hg hS hl
      cases bl with
      | true =>
        go_enter Tryz.func175, Tryz.ntmps175
        go_wp2_with (first | (go_at_call 135; refine hT.mono ?_; rintro e w2 ⟨rfl, hb2⟩; obtain ⟨d1, d2⟩ := hat _ hb2) | fail)
        go_ret
        exact ⟨by rw [← HE.out]; simp, hb2⟩
      | false =>
        go_enter Tryz.func175, Tryz.ntmps175
        go_wp2_with (first | (go_at_call 135; refine hT.mono ?_; rintro e w2 ⟨rfl, hb2⟩; obtain ⟨d1, d2⟩ := hat _ hb2) | fail)
        go_ret
        exact ⟨by rw [← HE.out]; by_cases hbo : bo = -1 <;> simp [hbo], hb2⟩
  · have HE : Hid (true = r) := hid6 (by rw [← HR2]; simp [standS, n1, n2, n3, n4, n5])
    clear HR2 h hg hS
    go_enter Tryz.func175, Tryz.ntmps175
    go_wp2_with fail
    go_ret
    exact ⟨by rw [← HE.out]; rfl, Below.refl _ _⟩
/-- The top's else is written down. -/
theorem Stk.elsed {p g cap k : Nat} {M : List Blk} {b : Blk} {x : Int} {W0 W : World} (h : Stk (p + 1) p (M ++ [b]) (some ⟨g, 0, none⟩) cap W) (hk : k = M.length) (hb : Below W0.heap.size W0 W) (hp : p < W0.heap.size) : StkEnd p (M ++ [⟨b.s, x, b.l⟩]) W0 (.returned (.tuple #[])) (W.setCell ⟨g, k * 3 + 1, none⟩ (.int .i64 x)) := by
  subst hk
  have hlen : (M ++ [(⟨b.s, x, b.l⟩ : Blk)]).length = (M ++ [b]).length := by simp
  have hst := h.row.stored (M.length * 3 + 1) (.int .i64 x)
  have hg := (h.row.lt g rfl).1
  obtain ⟨cur, hcur⟩ : ∃ cur, W.heap[g]? = some (.cells cur 181 (0, 0)) := by
    rcases h.row.2 with ⟨h2, _⟩ | ⟨g', cap', cur, e1, _, hh, _⟩
    · cases h2
    · cases e1
      exact ⟨cur, hh⟩
  refine ⟨rfl, ⟨some ⟨g, 0, none⟩, cap, ⟨?_, ?_⟩⟩, (hb.mono (Nat.le_of_lt hp)).setCell (p := ⟨g, M.length * 3 + 1, none⟩) (by show p ≤ g; omega) _, (Mv.below hb).trans (Mv.set hcur (.inr rfl))⟩
  · rw [hlen, Below.heap_setCell _ _ _ _ (by show p ≠ g; omega)]
    exact h.box
  · rw [hlen]
    have e : (cellsB (M ++ [b])).set (M.length * 3 + 1) (.int .i64 x) = cellsB (M ++ [(⟨b.s, x, b.l⟩ : Blk)]) := by
      rw [cellsB_snoc, cellsB_snoc, ← cellsB_len M, List.set_append_right _ _ (by omega), Nat.add_sub_cancel_left]
      rfl
    rw [← e]
    exact hst.1
set_option maxRecDepth 100000 in
set_option maxHeartbeats 1000000 in
theorem step_any {p : Nat} {L : List Blk} {a : Option Addr} {cap : Nat} (n x : Int) (W : World) (h : Stk (p + 1) p L a cap W) (hl : L.length ≤ 1000) (hs : standS n L = true) : Calls Tryz.prog 176 #[.int .i64 n, .int .i64 x, .pointer (some ⟨p, 0, none⟩)] W (StkEnd p (stepS n x L) W) := by
  by_cases n1 : n = 48
  · subst n1
    have hP := push_any ⟨x, -1, false⟩ W h (by omega)
    have HE : Hid (stepS 48 x L = L ++ [⟨x, -1, false⟩]) := hid6 (by simp [stepS])
    simp only [Blk.v] at hP
    clear hs h
    go_enter Tryz.func176, Tryz.ntmps176
    go_wp2_with (first | (go_at_call 214; refine hP.mono ?_; rintro e w2 hE; obtain ⟨rfl, hE2⟩ := hE) | fail)
    go_end0
    rw [HE.out]
    exact ⟨rfl, hE2⟩
  by_cases n2 : n = 51
  · subst n2
    have hP := push_any ⟨x, -1, true⟩ W h (by omega)
    have HE : Hid (stepS 51 x L = L ++ [⟨x, -1, true⟩]) := hid6 (by simp [stepS])
    simp only [Blk.v] at hP
    clear hs h
    go_enter Tryz.func176, Tryz.ntmps176
    go_wp2_with (first | (go_at_call 214; refine hP.mono ?_; rintro e w2 hE; obtain ⟨rfl, hE2⟩ := hE) | fail)
    go_end0
    rw [HE.out]
    exact ⟨rfl, hE2⟩
  by_cases n3 : n = 50
  · subst n3
    rcases List.eq_nil_or_concat L with rfl | ⟨M, b, rfl⟩
    · simp [standS] at hs
    rw [List.concat_eq_append] at h hl ⊢
    have hP := drop_any W h (by simp at hl; omega)
    have HE : Hid (stepS 50 x (M ++ [b]) = M) := hid6 (by simp [stepS])
    clear hs h
    go_enter Tryz.func176, Tryz.ntmps176
    go_wp2_with (first | (go_at_call 215; refine hP.mono ?_; rintro e w2 hE; obtain ⟨rfl, hE2⟩ := hE) | fail)
    go_end0
    rw [HE.out]
    exact ⟨rfl, hE2⟩
  by_cases n5 : n = 49
  · subst n5
    rcases List.eq_nil_or_concat L with rfl | ⟨M, b, rfl⟩
    · simp [standS] at hs
    rw [List.concat_eq_append] at h hl ⊢
    obtain ⟨g, rfl, _⟩ := h.at (by simp)
    have hT := top_any W h (fun _ => rfl) (by omega) (some M.length) (hid6 (first_snoc M b))
    have HE : Hid (stepS 49 x (M ++ [b]) = M ++ [⟨b.s, x, b.l⟩]) := hid6 (by simp [stepS])
    have hat : ∀ wr, Below W.heap.size W wr → wr.cell? ⟨g, M.length * 3 + 1, none⟩ = some (.int .i64 b.o) ∧ wr.frozen? ⟨g, M.length * 3 + 1, none⟩ = false := fun wr hb => by
      obtain ⟨g', e, _, _, _, hc⟩ := (h.keep hb).at (by simp)
      cases e
      have := hc M.length (by simp)
      exact ⟨by simpa using this.2.1, (h.keep hb).row.frozenAt _⟩
    simp only [ptrIx] at hT
    have HS := hid6 h
    obtain ⟨k, hk⟩ : ∃ k, k = M.length := ⟨_, rfl⟩
    rw [← hk] at hT hat
    have HK := hid6 hk
    clear hs h hk
    go_enter Tryz.func176, Tryz.ntmps176
    go_wp2_with (first | (go_at_call 135; refine hT.mono ?_; rintro e w2 ⟨rfl, hb2⟩; obtain ⟨d1, d2⟩ := hat _ hb2) | fail)
    go_end0
    rw [HE.out]
    exact (HS.out.keep hb2).elsed HK.out hb2 (blk_lt HS.out.box)
  · have HE : Hid (stepS n x L = L) := hid6 (by simp [stepS, n1, n2, n3, n5])
    have HS := hid6 h
    clear hs h
    go_enter Tryz.func176, Tryz.ntmps176
    go_wp2_with fail
    go_end0
    rw [HE.out]
    exact ⟨rfl, ⟨_, _, HS.out⟩, Below.refl _ _, Mv.refl _⟩
end Go.Proofs.YtfnpngbcnmglfaaGreat
