/- shape's stack of blocks: its state, size, first, top, innermostLoop. shape's stack of blocks: push, drop. shape's stack of blocks: drop; mayStand, step. shape.walk, for any visitor. shape.pair. shape.leadToEnds. -/
import Derived.Test.YtpmlnkjamhelnaaGreatAN
import Derived.Test.YtpmlnkjamhelnaaGreatWC
import Derived.Deep.RegionLaw
import Derived.BigQuiet
import Derived.Shelf.Abstract
namespace Go.Proofs.YtpmlnkjamhelnaaGreat
open Go.RowKit
theorem hid6 {p : Prop} (h : p) : Hid p := h
/-- An open block: where it begins, its else, whether it is a loop. -/
structure Blk where
  s : Int
  o : Int
  l : Bool
  deriving DecidableEq
def Blk.v (b : Blk) : Value := .agg #[.int .i64 b.s, .int .i64 b.o, .bool b.l]
def Blk.cs (b : Blk) : List Value := [.int .i64 b.s, .int .i64 b.o, .bool b.l]
def cellsB (L : List Blk) : List Value := L.flatMap Blk.cs
theorem cellsB_len (L : List Blk) : (cellsB L).length = L.length * 3 := by
  induction L with
  | nil => rfl
  | cons x L ih => simp [cellsB, Blk.cs] at ih ⊢; omega
theorem cellsB_at : ∀ (L : List Blk) (j : Nat) (h : j < L.length), (cellsB L)[j * 3]? = some (.int .i64 L[j].s) ∧ (cellsB L)[j * 3 + 1]? = some (.int .i64 L[j].o) ∧ (cellsB L)[j * 3 + 2]? = some (.bool L[j].l)
  | [], j, h => by simp at h
  | x :: L, 0, _ => ⟨rfl, rfl, rfl⟩
  | x :: L, j + 1, h => by
    have := cellsB_at L j (by simpa using h)
    have e : cellsB (x :: L) = .int .i64 x.s :: .int .i64 x.o :: .bool x.l :: cellsB L := by simp [cellsB, Blk.cs]
    rw [e, show (j + 1) * 3 = j * 3 + 1 + 1 + 1 by omega, show j * 3 + 1 + 1 + 1 + 1 = (j * 3 + 1) + 1 + 1 + 1 by omega, show j * 3 + 1 + 1 + 1 + 2 = (j * 3 + 2) + 1 + 1 + 1 by omega]
    simpa using this
/-- The stack at p: its blocks lie in a row of its own. -/
structure Stk (base p : Nat) (L : List Blk) (a : Option Addr) (cap : Nat) (W : World) : Prop where
  box : W.heap[p]? = some (.cells #[.slice a L.length cap] 203 (0, 0))
  row : W.ownsRow base 186 3 (.slice a L.length cap) L.length (cellsB L)
theorem one_cell {w : World} {b : Nat} {x : Value} {t : TypeId} (h : w.heap[b]? = some (.cells #[x] t (0, 0))) : w.cell? ⟨b, 0, none⟩ = some x ∧ w.frozen? ⟨b, 0, none⟩ = false := by
  simp [World.cell?, World.frozen?, h]
theorem blk_lt {w : World} {b : Nat} {o : Obj} (h : w.heap[b]? = some o) : b < w.heap.size := (Array.getElem?_eq_some_iff.1 h).1
theorem Stk.keep {base p : Nat} {L : List Blk} {a : Option Addr} {cap : Nat} {W W' : World} (h : Stk base p L a cap W) (hb : Below W.heap.size W W') : Stk base p L a cap W' := ⟨(hb.block _ (blk_lt h.box)).trans h.box, row_below2 h.row hb⟩
theorem Stk.new (w : World) : Stk (w.heap.size + 1) w.heap.size [] none 0 (w.alloc (.cells #[.slice none 0 0] 203)) := ⟨heap_alloc_new w _, World.ownsRow_nil _ _ _ _⟩
/-- Where its blocks lie. -/
theorem Stk.at {base p : Nat} {L : List Blk} {a : Option Addr} {cap : Nat} {W : World} (h : Stk base p L a cap W) (hne : 0 < L.length) : ∃ g, a = some ⟨g, 0, none⟩ ∧ base ≤ g ∧ g < W.heap.size ∧ L.length ≤ cap ∧ ∀ j (hj : j < L.length), W.cell? ⟨g, j * 3, none⟩ = some (.int .i64 L[j].s) ∧ W.cell? ⟨g, j * 3 + 1, none⟩ = some (.int .i64 L[j].o) ∧ W.cell? ⟨g, j * 3 + 2, none⟩ = some (.bool L[j].l) := by
  obtain ⟨x, c, e, hc, _, hr⟩ := row_form h.row
  simp only [Value.slice.injEq] at e
  obtain ⟨rfl, _, rfl⟩ := e
  rcases hr with ⟨_, h0, _⟩ | ⟨g, rfl, hg, hl, hcell⟩
  · omega
  · refine ⟨g, rfl, hg, hl, hc, fun j hj => ?_⟩
    obtain ⟨k0, k1, k2⟩ := cellsB_at L j hj
    exact ⟨hcell _ _ k0, hcell _ _ k1, hcell _ _ k2⟩
theorem size6_any {base p : Nat} {L : List Blk} {a : Option Addr} {cap : Nat} (W : World) (h : Stk base p L a cap W) : Calls Tryz.prog 166 #[.pointer (some ⟨p, 0, none⟩)] W fun e w' => e = .returned (.int .i64 L.length) ∧ w' = W := by
  obtain ⟨p0, _⟩ := one_cell h.box
  go_enter Tryz.func166, Tryz.ntmps166
  go_wp2
  go_ret
  exact ⟨rfl, rfl⟩
theorem any1 (b : Blk) (W : World) : Calls Tryz.prog 168 #[b.v] W fun e w' => e = .returned (.bool true) ∧ Below W.heap.size W w' := by
  unfold Blk.v
  go_enter Tryz.func168, Tryz.ntmps168
  go_wp2
  go_ret
  exact ⟨rfl, (Below.refl _ W).alloc (Nat.le_refl _) _⟩
theorem isLoop_any (b : Blk) (W : World) : Calls Tryz.prog 169 #[b.v] W fun e w' => e = .returned (.bool b.l) ∧ Below W.heap.size W w' := by
  unfold Blk.v
  go_enter Tryz.func169, Tryz.ntmps169
  go_wp2
  go_ret
  exact ⟨rfl, (Below.refl _ W).alloc (Nat.le_refl _) _⟩
/-- The one nearest to the top, of the lowest k, that is wanted. -/
def firstIx (L : List Blk) (pr : Blk → Bool) : Nat → Option Nat
  | 0 => none
  | k + 1 => match L[k]? with
    | none => none
    | some b => if pr b = true then some k else firstIx L pr k
def ptrIx (g : Nat) : Option Nat → Value
  | none => .pointer none
  | some i => .pointer (some ⟨g, i * 3, none⟩)
theorem firstIx_lt {L : List Blk} {pr : Blk → Bool} : ∀ {k i : Nat}, firstIx L pr k = some i → i < k ∧ ∃ b, L[i]? = some b ∧ pr b = true
  | 0, i, h => by cases h
  | k + 1, i, h => by
    simp only [firstIx] at h
    cases hb : L[k]? with
    | none => rw [hb] at h; cases h
    | some b =>
      rw [hb] at h
      simp only at h
      split at h
      · cases h
        exact ⟨Nat.lt_succ_self _, b, hb, by assumption⟩
      · obtain ⟨h1, h2⟩ := firstIx_lt h
        exact ⟨by omega, h2⟩
set_option maxRecDepth 100000 in
set_option maxHeartbeats 1000000 in
theorem first_of {base p g : Nat} {L : List Blk} {a : Option Addr} {cap : Nat} (W : World) (h : Stk base p L a cap W) (hg : 0 < L.length → a = some ⟨g, 0, none⟩) (hl : L.length ≤ 1000000) (F : Nat) (pr : Blk → Bool) (hF : ∀ b W, Calls Tryz.prog F #[b.v] W fun e w' => e = .returned (.bool (pr b)) ∧ Below W.heap.size W w') (eF : ∀ args w, (callFunc F args).run Tryz.prog w = .ok (.enter F args) w) (r : Option Nat) (HR : Hid (firstIx L pr L.length = r)) :
    Calls Tryz.prog 167 #[.pointer (some ⟨p, 0, none⟩), .func (.func F) #[] #[]] W fun e w' => e = .returned (ptrIx g r) ∧ Below W.heap.size W w' := by
  obtain ⟨n, hn⟩ : ∃ n, n = L.length := ⟨_, rfl⟩
  have HN := hid6 hn
  have hcells : ∀ wr, Below W.heap.size W wr → wr.cell? ⟨p, 0, none⟩ = some (.slice a n cap) := fun wr hb => by rw [hn]; exact (one_cell (h.keep hb).box).1
  have hat : Hid (0 < n → ∀ wr, Below W.heap.size W wr → ∀ j (hj : j < L.length), wr.cell? ⟨g, j * 3, none⟩ = some (.int .i64 L[j].s) ∧ wr.cell? ⟨g, j * 3 + 1, none⟩ = some (.int .i64 L[j].o) ∧ wr.cell? ⟨g, j * 3 + 2, none⟩ = some (.bool L[j].l)) := hid6 fun h0 wr hb j hj => by
    rw [hn] at h0
    obtain ⟨g', e, _, _, _, hc⟩ := (h.keep hb).at h0
    rw [hg h0] at e
    cases e
    exact hc j hj
  have hcap : 0 < n → n ≤ cap ∧ a = some ⟨g, 0, none⟩ := fun h0 => by
    rw [hn] at h0 ⊢
    obtain ⟨_, _, _, _, hc, _⟩ := h.at h0
    exact ⟨hc, hg h0⟩
  have p0 := hcells W (Below.refl _ _)
  rw [← hn] at hl
  clear h hg hn
  go_enter Tryz.func167, Tryz.ntmps167
  go_wp2_with fail
  go_loopw [5] (fun i wr => ∃ k : Nat, k ≤ n ∧ i = .int .i64 ((k : Int) - 1) ∧ Hid (firstIx L pr k = r) ∧ Below W.heap.size W wr) (fun i _ => (intOf i + 1).toNat)
  case atStart => exact ⟨n, Nat.le_refl _, rfl, hid6 (by rw [HN.out]; exact HR.out), Below.refl _ _⟩
  case round =>
    obtain ⟨k, hk, rfl, HI, hb⟩ := hrel
    have q0 := hcells _ hb
    cases k with
    | zero =>
      have HE : Hid (r = none) := hid6 HI.out.symm
      clear HI
      go_wp2_with fail
      go_ret
      exact ⟨by rw [HE.out]; rfl, hb⟩
    | succ k =>
      have h0 : 0 < n := by omega
      have kl : k < L.length := by have := HN.out; omega
      obtain ⟨c0, c1, c2⟩ := hat.out h0 _ hb k kl
      obtain ⟨hc, ha⟩ := hcap h0
      have hFk := hF L[k]
      have HS : Hid (firstIx L pr (k + 1) = if pr L[k] = true then some k else firstIx L pr k) := hid6 (by rw [firstIx, List.getElem?_eq_getElem kl])
      clear hF hat
      generalize L[k] = b at c0 c1 c2 hFk HS
      obtain ⟨bs, bo, bl⟩ := b
      simp only [Blk.v] at c0 c1 c2 hFk
      subst ha
      have hi : ((k + 1 : Nat) : Int) - 1 = (k : Int) := by omega
      rw [hi]
      cases hp : pr ⟨bs, bo, bl⟩ with
      | true =>
        rw [hp] at hFk
        have HE : Hid (r = some k) := hid6 (by rw [← HI.out, HS.out, if_pos hp])
        clear HI HS hp
        go_wp2_with (first | (go_at_fn F; refine (hFk _).mono ?_; rintro e w2 ⟨rfl, hb2⟩; have hb3 := hb.trans (hb2.mono hb.size); have q1 := hcells _ hb3) | fail)
        go_ret
        exact ⟨by rw [HE.out]; rfl, hb3⟩
      | false =>
        rw [hp] at hFk
        have HE : Hid (firstIx L pr k = r) := hid6 (by rw [← HI.out, HS.out, if_neg (by rw [hp]; decide)])
        clear HI HS hp
        go_wp2_with (first | (go_at_fn F; refine (hFk _).mono ?_; rintro e w2 ⟨rfl, hb2⟩; have hb3 := hb.trans (hb2.mono hb.size)) | fail)
        exact ⟨⟨k, by omega, rfl, HE, hb3⟩, by simp [intOf]⟩
theorem top_any {base p g : Nat} {L : List Blk} {a : Option Addr} {cap : Nat} (W : World) (h : Stk base p L a cap W) (hg : 0 < L.length → a = some ⟨g, 0, none⟩) (hl : L.length ≤ 1000000) (r : Option Nat) (HR : Hid (firstIx L (fun _ => true) L.length = r)) :
    Calls Tryz.prog 149 #[.pointer (some ⟨p, 0, none⟩)] W fun e w' => e = .returned (ptrIx g r) ∧ Below W.heap.size W w' := by
  have hF := first_of W h hg hl 168 (fun _ => true) any1 (Go.Proofs.enters_of Tryz.func168 (by kernel_rfl) rfl) r HR
  go_enter Tryz.func149, Tryz.ntmps149
  go_wp2_with (go_at_call 167; refine hF.mono ?_; rintro e w2 ⟨rfl, hb2⟩)
  go_ret
  exact ⟨rfl, hb2⟩
theorem inner_any {base p g : Nat} {L : List Blk} {a : Option Addr} {cap : Nat} (W : World) (h : Stk base p L a cap W) (hg : 0 < L.length → a = some ⟨g, 0, none⟩) (hl : L.length ≤ 1000000) (r : Option Nat) (HR : Hid (firstIx L Blk.l L.length = r)) :
    Calls Tryz.prog 150 #[.pointer (some ⟨p, 0, none⟩)] W fun e w' => e = .returned (ptrIx g r) ∧ Below W.heap.size W w' := by
  have hF := first_of W h hg hl 169 Blk.l isLoop_any (Go.Proofs.enters_of Tryz.func169 (by kernel_rfl) rfl) r HR
  go_enter Tryz.func150, Tryz.ntmps150
  go_wp2_with (go_at_call 167; refine hF.mono ?_; rintro e w2 ⟨rfl, hb2⟩)
  go_ret
  exact ⟨rfl, hb2⟩
end Go.Proofs.YtpmlnkjamhelnaaGreat
namespace Go.Proofs.YtpmlnkjamhelnaaGreat
open Go.RowKit
theorem elemN_blk : ElemN Tryz.prog 201 186 3 24 := by
  refine ⟨Tryz.underlying201, ?_, by decide⟩
  obtain ⟨i, hi, h1, h2, h3⟩ := info_parts (show (Tryz.prog.info? 186).map (fun i => (i.zero, i.size, i.bytes)) = some (some (.agg #[.int .i64 0, .int .i64 0, .bool false]), 3, 24) by kernel_rfl)
  exact ⟨i, _, hi, h1, h2, h3, rfl⟩
theorem cells_new6 (W : World) (xs : List Value) (t : TypeId) (B : Nat) (hB : W.heap.size = B) : ∀ j u, xs[j]? = some u → (W.alloc (.cells xs.toArray t)).cell? ((⟨B, 0, none⟩ : Addr).add j) = some u := by
  subst hB
  intro j u hu
  rw [Addr.add_lit, Lib.cell_of_heap (heap_alloc_new W (.cells xs.toArray t))]
  simpa using hu
theorem cellsB_snoc (L : List Blk) (b : Blk) : cellsB (L ++ [b]) = cellsB L ++ b.cs := by simp [cellsB]
/-- Only stacks and their blocks have turned. -/
def Mv (W W' : World) : Prop := W.heap.size ≤ W'.heap.size ∧ ∀ (k : Nat) (cur : Array Value) (t : TypeId) (z : Nat × Nat), t ≠ 203 → t ≠ 186 → W.heap[k]? = some (.cells cur t z) → W'.heap[k]? = some (.cells cur t z)
theorem Mv.refl (W : World) : Mv W W := ⟨Nat.le_refl _, fun _ _ _ _ _ _ h => h⟩
theorem Mv.trans {A B C : World} (h : Mv A B) (g : Mv B C) : Mv A C := ⟨Nat.le_trans h.1 g.1, fun k cur t z h1 h2 hk => g.2 k cur t z h1 h2 (h.2 k cur t z h1 h2 hk)⟩
theorem Mv.below {W W' : World} (h : Below W.heap.size W W') : Mv W W' := ⟨h.size, fun k _ _ _ _ _ hk => (h.block k (blk_lt hk)).trans hk⟩
theorem Mv.set {W : World} {b o : Nat} {cs : Array Value} {t0 : TypeId} {z : Nat × Nat} {u : Value} (hb : W.heap[b]? = some (.cells cs t0 z)) (ht : t0 = 203 ∨ t0 = 186) : Mv W (W.setCell ⟨b, o, none⟩ u) := by
  refine ⟨by simp [World.setCell], fun k cur t z' h1 h2 hk => (Below.heap_setCell _ _ _ k fun e => ?_).trans hk⟩
  subst e
  rw [hb] at hk
  cases hk
  rcases ht with rfl | rfl
  · exact h1 rfl
  · exact h2 rfl
theorem Mv.step {W W' : World} {base n : Nat} {v v' : Value} {xs : List Value} (hr : W.ownsRow base 186 3 v n xs) (hs : Step W v W' v') : Mv W W' := by
  refine ⟨hs.1.size, fun k cur t z h1 h2 hk => (hs.1.block k (blk_lt hk) fun h => ?_).trans hk⟩
  rcases hr.2 with ⟨rfl, _⟩ | ⟨g, cap, cur', rfl, _, hh, _⟩
  · cases h
  · cases h
    rw [hk] at hh
    cases hh
    exact h2 rfl
/-- How push, drop and step leave it. -/
def StkEnd (p : Nat) (L : List Blk) (W : World) (e : Ending) (w' : World) : Prop := e = .returned (.tuple #[]) ∧ (∃ a cap, Stk (p + 1) p L a cap w') ∧ Below p W w' ∧ Mv W w'
theorem one_set {w : World} {b : Nat} {x u : Value} {t : TypeId} (h : w.heap[b]? = some (.cells #[x] t (0, 0))) : (w.setCell ⟨b, 0, none⟩ u).heap[b]? = some (.cells #[u] t (0, 0)) := by
  simp [World.setCell, Array.getElem?_modify, h]
theorem row_other6 {w : World} {base n size b o : Nat} {e e' : TypeId} {v u : Value} {xs : List Value} {cs : Array Value} (h : w.ownsRow base e size v n xs) (hb : w.heap[b]? = some (.cells cs e' (0, 0))) (hne : e ≠ e') : (w.setCell ⟨b, o, none⟩ u).ownsRow base e size v n xs := by
  refine ⟨h.1, ?_⟩
  rcases h.2 with h2 | ⟨g, cap, cur, rfl, hg, hh, r⟩
  · exact .inl h2
  · refine .inr ⟨g, cap, cur, rfl, hg, ?_, r⟩
    rw [Below.heap_setCell _ _ _ _ (fun e2 => ?_)]
    · exact hh
    · subst e2
      rw [hb] at hh
      cases hh
      exact hne rfl
set_option maxRecDepth 100000 in
set_option maxHeartbeats 1000000 in
theorem push_any {p : Nat} {L : List Blk} {a : Option Addr} {cap : Nat} (b : Blk) (W : World) (h : Stk (p + 1) p L a cap W) (hl : L.length ≤ 1000000) : Calls Tryz.prog 198 #[.pointer (some ⟨p, 0, none⟩), b.v] W (StkEnd p (L ++ [b]) W) := by
  obtain ⟨bs, bo, bl⟩ := b
  simp only [Blk.v]
  have bx4 := (Below.refl _ W).alloc (Nat.le_refl _) (.cells #[.int .i64 bs, .int .i64 bo, .bool bl] 186)
  have bx5 := bx4.drew.alloc (by simp) (.cells #[.int .i64 bs, .int .i64 bo, .bool bl] 186)
  have h5 := h.keep bx5
  obtain ⟨p0, z0⟩ := one_cell h.box
  have hlt := blk_lt h.box
  go_enter Tryz.func198, Tryz.ntmps198
  go_wp2_with fail
  go_region_law (first
    | (refine step_appN _ (by rfl) (.tmp 8) (.tmp 10) 201 (by rfl) elemN_blk (p + 1) _ L.length (cellsB L) (by rfl) h5.row _ (by rfl) 1 [.int .i64 bs, .int .i64 bo, .bool bl] (.inr ⟨⟨_, 0, none⟩, 1, rfl, cells_new6 _ [.int .i64 bs, .int .i64 bo, .bool bl] 186 _ (World.size_alloc _ _)⟩) rfl (by simp [Value.oneCell']) (by unfold maxLen; omega) (by omega) (by simp; omega) ?_; intro v' w6 hr6 hs6; have m6 := Mv.step h5.row hs6; have b6 : w6.heap[p]? = some (.cells #[.slice a L.length cap] 203 (0, 0)) := (hs6.1.block p (by simp; omega) (fun e => by have := (h5.row.lt p e.symm).1; omega)).trans h5.box; obtain ⟨j0, j1⟩ := one_cell b6; obtain ⟨vy, vd, rfl, _⟩ := row_form hr6))
  all_goals
    go_wp2_with fail
    go_end0
    have hb6 := (bx5.mono (show p ≤ W.heap.size by omega)).trans ((hs6.below (B := p + 1) (by simp; omega) fun g e => (h5.row.lt g e).1).mono (by omega))
    refine ⟨rfl, ⟨vy, vd, ⟨by rw [List.length_append]; exact one_set b6, ?_⟩⟩, hb6.setCell (p := ⟨p, 0, none⟩) (Nat.le_refl _) _, ((Mv.below bx5).trans m6).trans (Mv.set b6 (.inl rfl))⟩
    rw [cellsB_snoc, List.length_append]
    exact row_other6 hr6 b6 (by decide)
end Go.Proofs.YtpmlnkjamhelnaaGreat
namespace Go.Proofs.YtpmlnkjamhelnaaGreat
open Go.RowKit
theorem row_less {W : World} {base g cap n : Nat} {e : TypeId} {L : List Blk} {b : Blk} (h : W.ownsRow base e 3 (.slice (some ⟨g, 0, none⟩) (L ++ [b]).length cap) (L ++ [b]).length (cellsB (L ++ [b]))) (hn : n = L.length) : W.ownsRow base e 3 (.slice (some ⟨g, 0, none⟩) n cap) L.length (cellsB L) := by
  subst hn
  refine ⟨cellsB_len L, .inr ?_⟩
  rcases h.2 with ⟨h2, _⟩ | ⟨g', cap', cur, e1, hg, hh, h1, h2, h3, h4⟩
  · cases h2
  · cases e1
    refine ⟨g, cap, cur, rfl, hg, hh, by simp at h1; omega, h2, h3, ?_⟩
    rw [cellsB_snoc, List.length_append, List.length_singleton, Nat.add_mul, Nat.one_mul] at h4
    have := congrArg (List.take (L.length * 3)) h4
    rw [List.take_take, Nat.min_eq_left (by omega), List.take_append_of_le_length (by rw [cellsB_len]; exact Nat.le_refl _)] at this
    exact this.trans (List.take_of_length_le (by rw [cellsB_len]; exact Nat.le_refl _))
theorem Stk.dropped {p g cap n : Nat} {L : List Blk} {b : Blk} {W : World} (h : Stk (p + 1) p (L ++ [b]) (some ⟨g, 0, none⟩) cap W) (hn : n = L.length) : StkEnd p L W (.returned (.tuple #[])) (W.setCell ⟨p, 0, none⟩ (.slice (some ⟨g, 0, none⟩) n cap)).drew := by
  have hr := row_less h.row hn
  refine ⟨rfl, ⟨some ⟨g, 0, none⟩, cap, ⟨?_, ?_⟩⟩, ((Below.refl p W).setCell (p := ⟨p, 0, none⟩) (Nat.le_refl _) _).drew, Mv.set h.box (.inl rfl)⟩
  · rw [hn]; exact one_set h.box
  · rw [hn] at hr ⊢; exact row_other6 hr h.box (by decide)
set_option maxRecDepth 100000 in
set_option maxHeartbeats 1000000 in
theorem drop_any {p : Nat} {L : List Blk} {b : Blk} {a : Option Addr} {cap : Nat} (W : World) (h : Stk (p + 1) p (L ++ [b]) a cap W) (hl : L.length ≤ 1000000) : Calls Tryz.prog 199 #[.pointer (some ⟨p, 0, none⟩)] W (StkEnd p L W) := by
  have hx := h.box
  obtain ⟨g, rfl, hg1, hg2, hc, _⟩ := h.at (by simp)
  rw [List.length_append, List.length_singleton] at hx hc
  obtain ⟨p0, z0⟩ := one_cell hx
  have hlt := blk_lt h.box
  obtain ⟨n, hn⟩ : ∃ n, n = L.length := ⟨_, rfl⟩
  rw [← hn] at hx p0 hc hl
  have hw : IntKind.i64.wrap (n : Int) = (n : Int) := by rw [IntKind.wrap_i64]; omega
  have hcc : (n : Int) ≤ (cap : Int) := by omega
  have HN := hid6 hn
  have HS := hid6 h
  clear hn h
  go_enter Tryz.func199, Tryz.ntmps199
  go_wp2_with fail
  go_region_law fail
  all_goals
    go_end0
    exact HS.out.dropped HN.out
/-- May n stand where these blocks are open? -/
def standS (n : Int) (L : List Blk) : Bool :=
  if n = 48 ∨ n = 51 then decide (L.length < 8)
  else if n = 49 then (match L.getLast? with | none => false | some b => !b.l && decide (b.o = -1))
  else if n = 50 then decide (0 < L.length)
  else if n = 52 then (firstIx L Blk.l L.length).isSome
  else true
/-- What n at at does to them. -/
def stepS (n at' : Int) (L : List Blk) : List Blk :=
  if n = 48 ∨ n = 51 then L ++ [⟨at', -1, decide (n = 51)⟩]
  else if n = 49 then (match L.getLast? with | none => L | some b => L.dropLast ++ [⟨b.s, at', b.l⟩])
  else if n = 50 then L.dropLast
  else L
theorem first_snoc (M : List Blk) (b : Blk) : firstIx (M ++ [b]) (fun _ => true) (M ++ [b]).length = some M.length := by
  rw [List.length_append, List.length_singleton, firstIx]
  simp
theorem Stk.word {base p : Nat} {L : List Blk} {a : Option Addr} {cap : Nat} {W : World} (h : Stk base p L a cap W) : ∃ g, (0 < L.length → a = some ⟨g, 0, none⟩) := by
  rcases Nat.eq_zero_or_pos L.length with h0 | h0
  · exact ⟨0, fun h1 => by omega⟩
  · obtain ⟨g, e, _⟩ := h.at h0
    exact ⟨g, fun _ => e⟩
set_option maxRecDepth 100000 in
set_option maxHeartbeats 1000000 in
theorem may_any {p : Nat} {L : List Blk} {a : Option Addr} {cap : Nat} (n : Int) (W : World) (h : Stk (p + 1) p L a cap W) (hl : L.length ≤ 1000000) (r : Bool) (HR : Hid (standS n L = r)) : Calls Tryz.prog 164 #[.int .i64 n, .pointer (some ⟨p, 0, none⟩)] W fun e w' => e = .returned (.bool r) ∧ Below W.heap.size W w' := by
  have hS := fun w => size6_any (base := p + 1) (p := p) (L := L) (a := a) (cap := cap) w
  have hS := hS _ h
  obtain ⟨g, hg⟩ := h.word
  have HR2 := HR.out
  clear HR
  by_cases n1 : n = 48
  · subst n1
    have HE : Hid (decide (L.length < 8) = r) := hid6 (by rw [← HR2]; simp [standS])
    generalize L.length = k at hS HE hl
    clear HR2 h hg
    go_enter Tryz.func164, Tryz.ntmps164
    go_wp2_with (first | (go_at_call 166; refine hS.mono ?_; rintro e w2 ⟨rfl, rfl⟩) | fail)
    go_ret
    exact ⟨by rw [← HE.out]; congr 2; simp; omega, Below.refl _ _⟩
  by_cases n2 : n = 51
  · subst n2
    have HE : Hid (decide (L.length < 8) = r) := hid6 (by rw [← HR2]; simp [standS])
    generalize L.length = k at hS HE hl
    clear HR2 h hg
    go_enter Tryz.func164, Tryz.ntmps164
    go_wp2_with (first | (go_at_call 166; refine hS.mono ?_; rintro e w2 ⟨rfl, rfl⟩) | fail)
    go_ret
    exact ⟨by rw [← HE.out]; congr 2; simp; omega, Below.refl _ _⟩
  by_cases n3 : n = 50
  · subst n3
    have HE : Hid (decide (0 < L.length) = r) := hid6 (by rw [← HR2]; simp [standS])
    generalize L.length = k at hS HE hl
    clear HR2 h hg
    go_enter Tryz.func164, Tryz.ntmps164
    go_wp2_with (first | (go_at_call 166; refine hS.mono ?_; rintro e w2 ⟨rfl, rfl⟩) | fail)
    go_ret
    exact ⟨by rw [← HE.out]; first | rfl | (congr 2; simp), Below.refl _ _⟩
  by_cases n4 : n = 52
  · subst n4
    have hI := inner_any W h hg hl _ (hid6 rfl)
    have HE : Hid ((firstIx L Blk.l L.length).isSome = r) := hid6 (by rw [← HR2]; simp [standS])
    generalize firstIx L Blk.l L.length = k at hI HE
    clear HR2 h hg hS
    cases k with
    | none =>
      simp only [ptrIx] at hI
      go_enter Tryz.func164, Tryz.ntmps164
      go_wp2_with (first | (go_at_call 150; refine hI.mono ?_; rintro e w2 ⟨rfl, hb2⟩) | fail)
      go_ret
      exact ⟨by rw [← HE.out]; rfl, hb2⟩
    | some k =>
      simp only [ptrIx] at hI
      go_enter Tryz.func164, Tryz.ntmps164
      go_wp2_with (first | (go_at_call 150; refine hI.mono ?_; rintro e w2 ⟨rfl, hb2⟩) | fail)
      go_ret
      exact ⟨by rw [← HE.out]; rfl, hb2⟩
  by_cases n5 : n = 49
  · subst n5
    rcases List.eq_nil_or_concat L with rfl | ⟨M, b, rfl⟩
    · have hT := top_any W h hg hl none (hid6 rfl)
      have HE : Hid (false = r) := hid6 (by rw [← HR2]; rfl)
      simp only [ptrIx] at hT
      clear HR2 h hg hS
      go_enter Tryz.func164, Tryz.ntmps164
      go_wp2_with (first | (go_at_call 149; refine hT.mono ?_; rintro e w2 ⟨rfl, hb2⟩) | fail)
      go_ret
      exact ⟨by rw [← HE.out]; rfl, hb2⟩
    · rw [List.concat_eq_append] at h hg hl HR2
      have hT := top_any W h hg hl (some M.length) (hid6 (first_snoc M b))
      have HE : Hid ((!b.l && decide (b.o = -1)) = r) := hid6 (by rw [← HR2]; simp [standS])
      have hat : ∀ wr, Below W.heap.size W wr → wr.cell? ⟨g, M.length * 3 + 1, none⟩ = some (.int .i64 b.o) ∧ wr.cell? ⟨g, M.length * 3 + 2, none⟩ = some (.bool b.l) := fun wr hb => by
        obtain ⟨g', e, _, _, _, hc⟩ := (h.keep hb).at (by simp)
        rw [hg (by simp)] at e
        cases e
        have := hc M.length (by simp)
        simpa using this.2
      simp only [ptrIx] at hT
      generalize M.length = k at hT hat
      obtain ⟨bs, bo, bl⟩ := b
      simp only at hat HE
      clear HR2 h hg hS hl
      cases bl with
      | true =>
        go_enter Tryz.func164, Tryz.ntmps164
        go_wp2_with (first | (go_at_call 149; refine hT.mono ?_; rintro e w2 ⟨rfl, hb2⟩; obtain ⟨d1, d2⟩ := hat _ hb2) | fail)
        go_ret
        exact ⟨by rw [← HE.out]; simp, hb2⟩
      | false =>
        go_enter Tryz.func164, Tryz.ntmps164
        go_wp2_with (first | (go_at_call 149; refine hT.mono ?_; rintro e w2 ⟨rfl, hb2⟩; obtain ⟨d1, d2⟩ := hat _ hb2) | fail)
        go_ret
        exact ⟨by rw [← HE.out]; by_cases hbo : bo = -1 <;> simp [hbo], hb2⟩
  · have HE : Hid (true = r) := hid6 (by rw [← HR2]; simp [standS, n1, n2, n3, n4, n5])
    clear HR2 h hg hS
    go_enter Tryz.func164, Tryz.ntmps164
    go_wp2_with fail
    go_ret
    exact ⟨by rw [← HE.out]; rfl, Below.refl _ _⟩
/-- The top's else is written down. -/
theorem Stk.elsed {p g cap k : Nat} {M : List Blk} {b : Blk} {x : Int} {W0 W : World} (h : Stk (p + 1) p (M ++ [b]) (some ⟨g, 0, none⟩) cap W) (hk : k = M.length) (hb : Below W0.heap.size W0 W) (hp : p < W0.heap.size) : StkEnd p (M ++ [⟨b.s, x, b.l⟩]) W0 (.returned (.tuple #[])) (W.setCell ⟨g, k * 3 + 1, none⟩ (.int .i64 x)) := by
  subst hk
  have hlen : (M ++ [(⟨b.s, x, b.l⟩ : Blk)]).length = (M ++ [b]).length := by simp
  have hst := h.row.stored (M.length * 3 + 1) (.int .i64 x)
  have hg := (h.row.lt g rfl).1
  obtain ⟨cur, hcur⟩ : ∃ cur, W.heap[g]? = some (.cells cur 186 (0, 0)) := by
    rcases h.row.2 with ⟨h2, _⟩ | ⟨g', cap', cur, e1, _, hh, _⟩
    · cases h2
    · cases e1
      exact ⟨cur, hh⟩
  refine ⟨rfl, ⟨some ⟨g, 0, none⟩, cap, ⟨?_, ?_⟩⟩, (hb.mono (Nat.le_of_lt hp)).setCell (p := ⟨g, M.length * 3 + 1, none⟩) (by show p ≤ g; omega) _, (Mv.below hb).trans (Mv.set hcur (.inr rfl))⟩
  · rw [hlen, Below.heap_setCell _ _ _ _ (by show p ≠ g; omega)]
    exact h.box
  · rw [hlen]
    have e : (cellsB (M ++ [b])).set (M.length * 3 + 1) (.int .i64 x) = cellsB (M ++ [(⟨b.s, x, b.l⟩ : Blk)]) := by
      rw [cellsB_snoc, cellsB_snoc, ← cellsB_len M, List.set_append_right _ _ (by omega), Nat.add_sub_cancel_left]
      rfl
    rw [← e]
    exact hst.1
set_option maxRecDepth 100000 in
set_option maxHeartbeats 1000000 in
theorem step_any {p : Nat} {L : List Blk} {a : Option Addr} {cap : Nat} (n x : Int) (W : World) (h : Stk (p + 1) p L a cap W) (hl : L.length ≤ 1000) (hs : standS n L = true) : Calls Tryz.prog 165 #[.int .i64 n, .int .i64 x, .pointer (some ⟨p, 0, none⟩)] W (StkEnd p (stepS n x L) W) := by
  by_cases n1 : n = 48
  · subst n1
    have hP := push_any ⟨x, -1, false⟩ W h (by omega)
    have HE : Hid (stepS 48 x L = L ++ [⟨x, -1, false⟩]) := hid6 (by simp [stepS])
    simp only [Blk.v] at hP
    clear hs h
    go_enter Tryz.func165, Tryz.ntmps165
    go_wp2_with (first | (go_at_call 198; refine hP.mono ?_; rintro e w2 hE; obtain ⟨rfl, hE2⟩ := hE) | fail)
    go_end0
    rw [HE.out]
    exact ⟨rfl, hE2⟩
  by_cases n2 : n = 51
  · subst n2
    have hP := push_any ⟨x, -1, true⟩ W h (by omega)
    have HE : Hid (stepS 51 x L = L ++ [⟨x, -1, true⟩]) := hid6 (by simp [stepS])
    simp only [Blk.v] at hP
    clear hs h
    go_enter Tryz.func165, Tryz.ntmps165
    go_wp2_with (first | (go_at_call 198; refine hP.mono ?_; rintro e w2 hE; obtain ⟨rfl, hE2⟩ := hE) | fail)
    go_end0
    rw [HE.out]
    exact ⟨rfl, hE2⟩
  by_cases n3 : n = 50
  · subst n3
    rcases List.eq_nil_or_concat L with rfl | ⟨M, b, rfl⟩
    · simp [standS] at hs
    rw [List.concat_eq_append] at h hl ⊢
    have hP := drop_any W h (by simp at hl; omega)
    have HE : Hid (stepS 50 x (M ++ [b]) = M) := hid6 (by simp [stepS])
    clear hs h
    go_enter Tryz.func165, Tryz.ntmps165
    go_wp2_with (first | (go_at_call 199; refine hP.mono ?_; rintro e w2 hE; obtain ⟨rfl, hE2⟩ := hE) | fail)
    go_end0
    rw [HE.out]
    exact ⟨rfl, hE2⟩
  by_cases n5 : n = 49
  · subst n5
    rcases List.eq_nil_or_concat L with rfl | ⟨M, b, rfl⟩
    · simp [standS] at hs
    rw [List.concat_eq_append] at h hl ⊢
    obtain ⟨g, rfl, _⟩ := h.at (by simp)
    have hT := top_any W h (fun _ => rfl) (by omega) (some M.length) (hid6 (first_snoc M b))
    have HE : Hid (stepS 49 x (M ++ [b]) = M ++ [⟨b.s, x, b.l⟩]) := hid6 (by simp [stepS])
    have hat : ∀ wr, Below W.heap.size W wr → wr.cell? ⟨g, M.length * 3 + 1, none⟩ = some (.int .i64 b.o) ∧ wr.frozen? ⟨g, M.length * 3 + 1, none⟩ = false := fun wr hb => by
      obtain ⟨g', e, _, _, _, hc⟩ := (h.keep hb).at (by simp)
      cases e
      have := hc M.length (by simp)
      exact ⟨by simpa using this.2.1, (h.keep hb).row.frozenAt _⟩
    simp only [ptrIx] at hT
    have HS := hid6 h
    obtain ⟨k, hk⟩ : ∃ k, k = M.length := ⟨_, rfl⟩
    rw [← hk] at hT hat
    have HK := hid6 hk
    clear hs h hk
    go_enter Tryz.func165, Tryz.ntmps165
    go_wp2_with (first | (go_at_call 149; refine hT.mono ?_; rintro e w2 ⟨rfl, hb2⟩; obtain ⟨d1, d2⟩ := hat _ hb2) | fail)
    go_end0
    rw [HE.out]
    exact (HS.out.keep hb2).elsed HK.out hb2 (blk_lt HS.out.box)
  · have HE : Hid (stepS n x L = L) := hid6 (by simp [stepS, n1, n2, n3, n5])
    have HS := hid6 h
    clear hs h
    go_enter Tryz.func165, Tryz.ntmps165
    go_wp2_with fail
    go_end0
    rw [HE.out]
    exact ⟨rfl, ⟨_, _, HS.out⟩, Below.refl _ _, Mv.refl _⟩
end Go.Proofs.YtpmlnkjamhelnaaGreat
namespace Go.Proofs.YtpmlnkjamhelnaaGreat
open Go.RowKit
/-- The blocks behind these operations; none, where one may not stand. -/
def runS : List Int → Int → List Blk → Option (List Blk)
  | [], _, L => some L
  | n :: ns, x, L => if standS n L = true then runS ns (x + 1) (stepS n x L) else none
theorem runS_append : ∀ (a b : List Int) (x : Int) (L : List Blk), runS (a ++ b) x L = (runS a x L).bind (runS b (x + a.length))
  | [], b, x, L => by simp [runS]
  | n :: a, b, x, L => by
    simp only [List.cons_append, runS]
    split
    · rw [runS_append a b]
      congr 2
      simp; omega
    · rfl
def opsI (cs : List (Int × Int)) : List Int := cs.map Prod.fst
theorem run_next {cs : List (Int × Int)} {k : Nat} {L : List Blk} (hk : k < cs.length) (h : runS (opsI (cs.take k)) 0 [] = some L) (hs : standS cs[k].1 L = true) : runS (opsI (cs.take (k + 1))) 0 [] = some (stepS cs[k].1 k L) := by
  rw [List.take_succ_eq_append_getElem hk, opsI, List.map_append, runS_append, show List.map Prod.fst (cs.take k) = opsI (cs.take k) from rfl, h]
  simp only [Option.bind, List.map_cons, List.map_nil, runS, if_pos hs]
  congr 2
  simp [opsI]; omega
theorem run_stops {cs : List (Int × Int)} {k : Nat} {L : List Blk} (hk : k < cs.length) (h : runS (opsI (cs.take k)) 0 [] = some L) (hs : standS cs[k].1 L = false) : runS (opsI cs) 0 [] = none := by
  have e : cs = cs.take k ++ cs[k] :: cs.drop (k + 1) := by rw [← List.drop_eq_getElem_cons hk, List.take_append_drop]
  have e2 : opsI cs = opsI (cs.take k) ++ cs[k].1 :: opsI (cs.drop (k + 1)) := by
    rw [opsI, opsI, opsI]
    conv => lhs; rw [e]
    rw [List.map_append, List.map_cons]
  rw [e2, runS_append, h]
  simp only [Option.bind, runS, hs]
  rfl
theorem step_len {n x : Int} {L : List Blk} (hl : L.length ≤ 8) (hs : standS n L = true) : (stepS n x L).length ≤ 8 := by
  unfold stepS
  split
  · rename_i h
    simp only [standS, if_pos h, decide_eq_true_eq] at hs
    simp; omega
  · split
    · cases hg : L.getLast? with
      | none => exact hl
      | some b =>
        have : L ≠ [] := by rintro rfl; cases hg
        have := List.length_pos_iff.2 this
        simp; omega
    · split
      · simp; omega
      · exact hl
/-- Boxes of instructions are as they were. -/
def KeptI (W W' : World) : Prop := W.heap.size ≤ W'.heap.size ∧ ∀ (k : Nat) (cur : Array Value) (z : Nat × Nat), W.heap[k]? = some (.cells cur 74 z) → W'.heap[k]? = some (.cells cur 74 z)
theorem KeptI.of_mv {W W' : World} (h : Mv W W') : KeptI W W' := ⟨h.1, fun k cur z hk => h.2 k cur _ z (by decide) (by decide) hk⟩
theorem KeptI.trans {A B C : World} (h : KeptI A B) (g : KeptI B C) : KeptI A C := ⟨Nat.le_trans h.1 g.1, fun k cur z hk => g.2 k cur z (h.2 k cur z hk)⟩
theorem two_cell {w : World} {b : Nat} {x y : Value} {t : TypeId} (h : w.heap[b]? = some (.cells #[x, y] t (0, 0))) : w.cell? ⟨b, 0, none⟩ = some x ∧ w.cell? ⟨b, 1, none⟩ = some y := by
  simp [World.cell?, h]
/-- How walk ends: with a state of the visitor's. -/
def WalkEnd (cs : List (Int × Int)) (J : Nat → World → Prop) (e : Ending) (w' : World) : Prop := e = .returned (.bool (decide (runS (opsI cs) 0 [] = some []))) ∧ ∃ k, J k w' ∧ (runS (opsI cs) 0 [] = some [] → k = cs.length)
set_option maxRecDepth 100000 in
set_option maxHeartbeats 1000000 in
theorem walk_any (cs : List (Int × Int)) (ca : Option Addr) (cc cb co : Nat) (hca : cs = [] ∨ ca = some ⟨cb, co, none⟩) (hn : cs.length ≤ 9000000000000) (W : World) (J : Nat → World → Prop)
    (hJc : ∀ k w, J k w → ∀ j (h : j < cs.length), w.cell? ⟨cb, co + j * 2, none⟩ = some (.int .i64 cs[j].1) ∧ w.cell? ⟨cb, co + j * 2 + 1, none⟩ = some (.int .i64 cs[j].2))
    (hJs : ∀ k w w', J k w → Mv w w' → Below W.heap.size w w' → J k w')
    (F : Nat) (fr : Array Value) (eF : ∀ args w, (callFunc F args).run Tryz.prog w = .ok (.enter F args) w)
    (hF : ∀ (k : Nat) (hk : k < cs.length) (p : Nat) (L : List Blk) (a : Option Addr) (cap : Nat) (w : World), W.heap.size ≤ p → runS (opsI (cs.take k)) 0 [] = some L → standS cs[k].1 L = true → L.length ≤ 8 → Stk (p + 1) p L a cap w → J k w →
      Calls Tryz.prog F (#[.int .i64 k, .pointer (some ⟨p, 0, none⟩)] ++ fr) w fun e w' => e = .returned (.tuple #[]) ∧ (∃ a cap, Stk (p + 1) p L a cap w') ∧ J (k + 1) w' ∧ KeptI w w')
    (h0 : J 0 W) : Calls Tryz.prog 146 #[.slice ca cs.length cc, .func (.func F) #[] fr] W (WalkEnd cs J) := by
  have HW : Hid (Stk (W.heap.size + 1) W.heap.size [] none 0 (W.alloc (.cells #[.slice none 0 0] 203)) ∧ J 0 (W.alloc (.cells #[.slice none 0 0] 203))) := by
    have hb := (Below.refl _ W).alloc (Nat.le_refl _) (.cells #[.slice none 0 0] 203)
    exact hid6 ⟨Stk.new W, hJs _ _ _ h0 (Mv.below hb) hb⟩
  obtain ⟨n, hn'⟩ : ∃ n, n = cs.length := ⟨_, rfl⟩
  have HN := hid6 hn'
  rw [← hn'] at hn ⊢
  have HS := hid6 hJs
  have HF := hid6 hF
  have HC := hid6 hJc
  clear hJs hF hJc hn' h0
  go_enter Tryz.func146, Tryz.ntmps146
  go_wp2_with fail
  go_loopw [12] (fun i wr => ∃ (k : Nat) (L : List Blk) (a : Option Addr) (cap : Nat), k ≤ n ∧ i = .int .i64 k ∧ Hid (runS (opsI (cs.take k)) 0 [] = some L ∧ L.length ≤ 8) ∧ Hid (Stk (W.heap.size + 1) W.heap.size L a cap wr ∧ J k wr) ∧ W.heap.size < wr.heap.size) (fun i _ => n - (intOf i).toNat)
  case atStart => exact ⟨0, [], none, 0, Nat.zero_le _, rfl, hid6 ⟨rfl, by simp⟩, HW, by simp⟩
  case round =>
    obtain ⟨k, L, a, cap, hk, rfl, HL, HJ, hsz⟩ := hrel
    clear HW
    by_cases hlt : k < n
    · have kl : k < cs.length := by have := HN.out; omega
      obtain ⟨c0, c1⟩ := HC.out _ _ HJ.out.2 k kl
      have ha : ca = some ⟨cb, co, none⟩ := by
        rcases hca with h | h
        · rw [h] at kl; cases kl
        · exact h
      subst ha
      obtain ⟨nn, hnn⟩ : ∃ nn, nn = cs[k].1 := ⟨_, rfl⟩
      obtain ⟨na, hna⟩ : ∃ na, na = cs[k].2 := ⟨_, rfl⟩
      rw [← hnn] at c0
      rw [← hna] at c1
      have HX := hid6 hnn
      clear hnn hna hca
      have bA := (Below.refl _ wr).alloc (Nat.le_refl _) (.cells #[.int .i64 nn, .int .i64 na] 74)
      have hx0 := hid6 (heap_alloc_new wr (.cells #[.int .i64 nn, .int .i64 na] 74))
      have HA : Hid (Stk (W.heap.size + 1) W.heap.size L a cap (wr.alloc (.cells #[.int .i64 nn, .int .i64 na] 74)) ∧ J k (wr.alloc (.cells #[.int .i64 nn, .int .i64 na] 74))) := hid6 ⟨HJ.out.1.keep bA, HS.out _ _ _ HJ.out.2 (Mv.below bA) (bA.mono (by omega))⟩
      have hl8 := HL.out.2
      have hM := may_any nn _ HA.out.1 (by omega) _ (hid6 rfl)
      cases hst : standS nn L with
      | false =>
        rw [hst] at hM
        have HE : Hid (runS (opsI cs) 0 [] = none) := hid6 (run_stops kl HL.out.1 (by rw [← HX.out]; exact hst))
        clear hst
        go_wp2_with (first | (go_at_call 164; refine hM.mono ?_; rintro e w2 ⟨rfl, hb2⟩) | fail)
        go_ret
        refine ⟨by rw [HE.out]; rfl, k, HS.out _ _ _ HA.out.2 (Mv.below hb2) (hb2.mono (by rw [World.size_alloc]; omega)), fun h => by rw [HE.out] at h; cases h⟩
      | true =>
        rw [hst] at hM
        have HT := hid6 hst
        clear hst bA
        go_wp2_with (first
          | (go_at_call 164; refine hM.mono ?_; rintro e w2 ⟨rfl, hb2⟩; have H2 := hid6 (And.intro (HA.out.1.keep hb2) (HS.out _ _ _ HA.out.2 (Mv.below hb2) (hb2.mono (by rw [World.size_alloc]; omega)))); have hx2 := hid6 ((hb2.block wr.heap.size (by simp)).trans hx0.out); clear hM)
          | (go_at_fn F; refine (HF.out k kl W.heap.size L _ _ _ (Nat.le_refl _) HL.out.1 (by rw [← HX.out]; exact HT.out) hl8 H2.out.1 H2.out.2).mono ?_; rintro e w3 ⟨rfl, ⟨a3, cap3, S3⟩, J3, K3⟩; have hx3 := K3.2 _ _ _ hx2.out; obtain ⟨d0, d1⟩ := two_cell hx3; have H3 := hid6 S3; have hy3 := hid6 hx3; clear S3 hx3)
          | (go_at_call 165; refine (step_any nn (k : Int) _ H3.out (by omega) HT.out).mono ?_; rintro e w4 ⟨rfl, ⟨a4, cap4, S4⟩, b4, m4⟩)
          | fail)
        refine ⟨⟨k + 1, stepS nn k L, a4, cap4, by omega, by simp, hid6 ⟨?_, step_len hl8 HT.out⟩, hid6 ⟨S4, HS.out _ _ _ J3 m4 b4⟩, blk_lt S4.box⟩, ?_⟩
        · have := run_next kl HL.out.1 (by rw [← HX.out]; exact HT.out)
          rw [← HX.out] at this
          exact this
        · simp [intOf]; omega
    · have : k = n := by omega
      subst this
      have hE : Hid (runS (opsI cs) 0 [] = some L) := hid6 (by have := HL.out.1; rwa [List.take_of_length_le (by rw [← HN.out]; exact Nat.le_refl _)] at this)
      have hSz := size6_any _ HJ.out.1
      obtain ⟨q, hq⟩ : ∃ q, q = L.length := ⟨_, rfl⟩
      rw [← hq] at hSz
      have hq8 : q ≤ 8 := by rw [hq]; exact HL.out.2
      have HQ := hid6 hq
      clear hq
      go_wp2_with (first | (go_at_call 166; refine hSz.mono ?_; rintro e w2 ⟨rfl, rfl⟩) | fail)
      go_ret
      refine ⟨?_, k, HJ.out.2, fun _ => HN.out⟩
      rw [hE.out]
      have : ((q : Int) == 0) = decide (some L = some []) := by
        rw [HQ.out]
        cases L with
        | nil => rfl
        | cons x L => simp; omega
      exact congrArg (fun b => Ending.returned (.bool b)) this
end Go.Proofs.YtpmlnkjamhelnaaGreat
namespace Go.Proofs.YtpmlnkjamhelnaaGreat
open Go.RowKit
/-- A row of numbers in a block of its own. -/
def NumBlk (g : Nat) (ms : List Int) (W : World) : Prop := W.heap[g]? = some (.cells (cellsN ms).toArray 3 (0, 0))
theorem NumBlk.at {g : Nat} {ms : List Int} {W : World} (h : NumBlk g ms W) (j : Nat) (hj : j < ms.length) : W.cell? ⟨g, j, none⟩ = some (.int .i64 ms[j]) ∧ W.frozen? ⟨g, j, none⟩ = false := by
  unfold NumBlk at h
  refine ⟨?_, ?_⟩
  · rw [Lib.cell_of_heap h]; simp [cellsN, hj]
  · exact frozen_of_row _ _ _ _ _ h
theorem NumBlk.set {g : Nat} {ms : List Int} {W : World} (h : NumBlk g ms W) (j : Nat) (x : Int) : NumBlk g (ms.set j x) (W.setCell ⟨g, j, none⟩ (.int .i64 x)) := by
  unfold NumBlk at h ⊢
  rw [heap_setCell_same _ _ _ _ _ _ h]
  congr 2
  simp [cellsN, List.map_set]
theorem NumBlk.alloc {g : Nat} {ms : List Int} {W : World} (h : NumBlk g ms W) (o : Obj) : NumBlk g ms (W.alloc o) := (((Below.refl _ W).alloc (Nat.le_refl _) o).block g (blk_lt h)).trans h
/-- Only block g has turned; new ones may be there. -/
def Only (g : Nat) (W W' : World) : Prop := W.grownBy W' (some g)
theorem Only.refl (g : Nat) (W : World) : Only g W W := ⟨rfl, rfl, rfl, Nat.le_refl _, fun _ _ _ => rfl⟩
theorem Only.trans {g : Nat} {A B C : World} (h : Only g A B) (k : Only g B C) : Only g A C := ⟨k.os.trans h.os, k.tape.trans h.tape, k.output.trans h.output, Nat.le_trans h.size k.size, fun j hj hne => (k.block j (Nat.lt_of_lt_of_le hj h.size) hne).trans (h.block j hj hne)⟩
theorem Only.set (g j : Nat) (u : Value) (W : World) : Only g W (W.setCell ⟨g, j, none⟩ u) := ⟨rfl, rfl, rfl, by simp, fun k _ hk => heap_setCell_other W ⟨g, j, none⟩ k u (fun e => hk (by simp [e]))⟩
theorem Only.below {g : Nat} {W W' : World} (h : Below W.heap.size W W') : Only g W W' := ⟨h.os, h.tape, h.output, h.size, fun k hk _ => h.block k hk⟩
theorem Only.obj {g b : Nat} {W W' : World} {o : Obj} (h : Only g W W') (hb : W.heap[b]? = some o) (hne : b ≠ g) : W'.heap[b]? = some o := (h.block b (blk_lt hb) (fun e => hne (by simpa using e))).trans hb
/-- Where the parts of a block that closes at t lead. -/
def pairS (ms : List Int) (s : Nat) (o : Option Nat) (t : Nat) : List Int :=
  match o with
  | none => (ms.set s (t : Int)).set t (s : Int)
  | some o => ((((ms.set s (t : Int)).set t (s : Int)).set s (o : Int)).set o (t : Int))
theorem three_cell {w : World} {b : Nat} {x y z : Value} {t : TypeId} (h : w.heap[b]? = some (.cells #[x, y, z] t (0, 0))) : w.cell? ⟨b, 0, none⟩ = some x ∧ w.cell? ⟨b, 1, none⟩ = some y ∧ w.cell? ⟨b, 2, none⟩ = some z := by
  simp [World.cell?, h]
def oInt : Option Nat → Int
  | none => -1
  | some o => o
set_option maxRecDepth 100000 in
set_option maxHeartbeats 1000000 in
theorem pair_any (g : Nat) (ms : List Int) (n cap : Nat) (hn : ms.length = n) (s t : Nat) (o : Option Nat) (l : Bool) (hs : s < n) (ht : t < n) (ho : ∀ x, o = some x → x < n) (W : World) (h : NumBlk g ms W) :
    Calls Tryz.prog 148 #[.slice (some ⟨g, 0, none⟩) n cap, (Blk.mk s (oInt o) l).v, .int .i64 t] W fun e w' => e = .returned (.tuple #[]) ∧ NumBlk g (pairS ms s o t) w' ∧ Only g W w' := by
  have hgl := blk_lt h
  obtain ⟨p0, z0⟩ := h.at s (by omega)
  obtain ⟨p1, z1⟩ := h.at t (by omega)
  simp only [Blk.v]
  have h1 := h.set s (t : Int)
  obtain ⟨q1, y1⟩ := h1.at t (by simp; omega)
  obtain ⟨q2, y2⟩ := h1.at s (by simp; omega)
  have h2 := h1.set t (s : Int)
  obtain ⟨r1, x1⟩ := h2.at s (by simp; omega)
  generalize ms[s] = ms0 at p0
  generalize ms[t] = ms1 at p1
  generalize (ms.set s (t : Int))[t]'(by simp; omega) = ms2 at q1
  generalize (ms.set s (t : Int))[s]'(by simp; omega) = ms3 at q2
  generalize ((ms.set s (t : Int)).set t (s : Int))[s]'(by simp; omega) = ms4 at r1
  have H1 := hid6 h1
  have H2 := hid6 h2
  have HH := hid6 h
  clear h h1 h2
  cases o with
  | none =>
    simp only [oInt]
    go_enter Tryz.func148, Tryz.ntmps148
    go_wp2_with fail
    go_region_law fail
    all_goals
      go_wp2_with fail
    all_goals
      go_end0
      exact ⟨rfl, H2.out.alloc _, (((Only.set g s _ W).trans (Only.set g t _ _)).trans (Only.below ((Below.refl _ _).alloc (Nat.le_refl _) _).drew))⟩
  | some o =>
    have ho2 := ho o rfl
    clear ho
    have h3 := H2.out.set s (o : Int)
    obtain ⟨v1, u1⟩ := h3.at o (by simp; omega)
    generalize (((ms.set s (t : Int)).set t (s : Int)).set s (o : Int))[o]'(by simp; omega) = ms5 at v1
    have H4 := hid6 (h3.set o (t : Int))
    clear h3
    have hne : ((o : Int) == -1) = false := by simp
    simp only [oInt]
    go_enter Tryz.func148, Tryz.ntmps148
    go_wp2_with fail
    go_region_law fail
    all_goals
      go_wp2_with fail
    all_goals
      go_region_law fail
    all_goals
      go_end0
      exact ⟨rfl, H4.out.alloc _, ((((Only.set g s _ W).trans (Only.set g t _ _)).trans ((Only.set g s _ _).trans (Only.set g o _ _))).trans (Only.below ((Below.refl _ _).alloc (Nat.le_refl _) _).drew.drew))⟩
end Go.Proofs.YtpmlnkjamhelnaaGreat
namespace Go.Proofs.YtpmlnkjamhelnaaGreat
open Go.RowKit
/-- Leaves lead on, from place k on. -/
def leadS (ops : List Int) (ms : List Int) : Nat → List Int
  | 0 => ms
  | k + 1 => let r := leadS ops ms k
    if ops[k]? = some 52 then r.set k (r.getD (r.getD k 0).toNat 0) else r
theorem leadS_len (ops ms : List Int) : ∀ k, (leadS ops ms k).length = ms.length
  | 0 => rfl
  | k + 1 => by
    simp only [leadS]
    split
    · rw [List.length_set, leadS_len ops ms k]
    · exact leadS_len ops ms k
theorem leadS_same (ops ms : List Int) : ∀ k j, k ≤ j → (leadS ops ms k).getD j 0 = ms.getD j 0
  | 0, _, _ => rfl
  | k + 1, j, h => by
    simp only [leadS]
    split
    · rw [List.getD_eq_getElem?_getD, List.getElem?_set_ne (by omega), ← List.getD_eq_getElem?_getD]
      exact leadS_same ops ms k j (by omega)
    · exact leadS_same ops ms k j (by omega)
set_option maxRecDepth 100000 in
set_option maxHeartbeats 1000000 in
theorem lead_any (cs : List (Int × Int)) (ca : Option Addr) (cc cb co : Nat) (hca : cs = [] ∨ ca = some ⟨cb, co, none⟩) (hn : cs.length ≤ 9000000000000) (g : Nat) (ms : List Int) (hml : ms.length = cs.length) (cap : Nat) (hcap : cs.length ≤ cap) (hgc : cb ≠ g)
    (hm : ∀ k (h : k < cs.length), cs[k].1 = 52 → 0 ≤ ms.getD k 0 ∧ ms.getD k 0 < cs.length)
    (W : World) (hc : ∀ j (h : j < cs.length), W.cell? ⟨cb, co + j * 2, none⟩ = some (.int .i64 cs[j].1) ∧ W.cell? ⟨cb, co + j * 2 + 1, none⟩ = some (.int .i64 cs[j].2)) (h : NumBlk g ms W) :
    Calls Tryz.prog 151 #[.slice ca cs.length cc, .slice (some ⟨g, 0, none⟩) cs.length cap] W fun e w' => e = .returned (.tuple #[]) ∧ NumBlk g (leadS (opsI cs) ms cs.length) w' ∧ Only g W w' := by
  obtain ⟨n, hn'⟩ : ∃ n, n = cs.length := ⟨_, rfl⟩
  have HN := hid6 hn'
  rw [← hn'] at hn hcap hml ⊢
  have HC := hid6 hc
  have HM := hid6 hm
  have H0 := hid6 h
  have HL := hid6 hml
  clear hc hm h hml hn'
  go_enter Tryz.func151, Tryz.ntmps151
  go_wp2_with fail
  go_loopw [8] (fun i wr => ∃ k : Nat, k ≤ n ∧ i = .int .i64 k ∧ Hid (NumBlk g (leadS (opsI cs) ms k) wr ∧ Only g W wr)) (fun i _ => n - (intOf i).toNat)
  case atStart => exact ⟨0, Nat.zero_le _, rfl, hid6 ⟨H0.out, Only.refl _ _⟩⟩
  case round =>
    obtain ⟨k, hk, rfl, HR⟩ := hrel
    by_cases hlt : k < n
    · have kl : k < cs.length := by have := HN.out; omega
      have hcw : wr.cell? ⟨cb, co + k * 2, none⟩ = some (.int .i64 cs[k].1) ∧ wr.cell? ⟨cb, co + k * 2 + 1, none⟩ = some (.int .i64 cs[k].2) := by
        obtain ⟨c0, c1⟩ := HC.out k kl
        exact ⟨(HR.out.2.cell c0 (by simpa using hgc)), (HR.out.2.cell c1 (by simpa using hgc))⟩
      obtain ⟨c0, c1⟩ := hcw
      have ha : ca = some ⟨cb, co, none⟩ := by
        rcases hca with h | h
        · rw [h] at kl; cases kl
        · exact h
      subst ha
      have hop : (opsI cs)[k]? = some cs[k].1 := by simp [opsI, kl]
      have HM2 := hid6 (HM.out k kl)
      obtain ⟨nn, hnn⟩ : ∃ nn, nn = cs[k].1 := ⟨_, rfl⟩
      obtain ⟨na, hna⟩ : ∃ na, na = cs[k].2 := ⟨_, rfl⟩
      rw [← hnn] at c0 hop HM2
      rw [← hna] at c1
      clear hnn hna hca
      by_cases h52 : nn = 52
      · subst h52
        obtain ⟨ml, mu⟩ := HM2.out rfl
        obtain ⟨R, hR⟩ : ∃ R, R = leadS (opsI cs) ms k := ⟨_, rfl⟩
        have hB := HR.out.1
        rw [← hR] at hB
        have hRl : R.length = n := by rw [hR, leadS_len]; exact HL.out
        have hRk : R.getD k 0 = ms.getD k 0 := by rw [hR]; exact leadS_same _ _ _ _ (Nat.le_refl _)
        obtain ⟨q, hq⟩ : ∃ q : Nat, R.getD k 0 = (q : Int) := ⟨(ms.getD k 0).toNat, by rw [hRk]; omega⟩
        have hqn : q < n := by rw [hRk] at hq; have := HN.out; omega
        have HE : Hid (leadS (opsI cs) ms (k + 1) = R.set k (R.getD q 0)) := hid6 (by simp only [leadS]; rw [if_pos hop, ← hR, hq]; rfl)
        obtain ⟨p0, z0⟩ := hB.at k (by omega)
        obtain ⟨p1, z1⟩ := hB.at q (by omega)
        have e0 : R[k]'(by omega) = (q : Int) := by rw [← hq, List.getD_eq_getElem?_getD, List.getElem?_eq_getElem (by omega)]; rfl
        have e1 : R[q]'(by omega) = R.getD q 0 := by rw [List.getD_eq_getElem?_getD, List.getElem?_eq_getElem (by omega)]; rfl
        rw [e0] at p0
        rw [e1] at p1
        generalize R.getD q 0 = y at p1 HE
        have H2 := hid6 (hB.set k y)
        have hgl := blk_lt hB
        clear hB e0 e1 hq hRk hR hRl mu ml hop
        go_wp2_with fail
        refine ⟨⟨k + 1, by omega, by simp, hid6 ⟨?_, ?_⟩⟩, ?_⟩
        · rw [HE.out]; exact H2.out.alloc _
        · exact HR.out.2.trans ((Only.set g k _ _).trans (Only.below ((Below.refl _ _).alloc (Nat.le_refl _) _)))
        · simp [intOf]; omega
      · have HE : Hid (leadS (opsI cs) ms (k + 1) = leadS (opsI cs) ms k) := hid6 (by simp only [leadS]; rw [if_neg (by rw [hop]; simpa using h52)])
        clear hop HM2
        go_wp2_with fail
        refine ⟨⟨k + 1, by omega, by simp, hid6 ⟨?_, ?_⟩⟩, ?_⟩
        · rw [HE.out]; exact HR.out.1.alloc _
        · exact HR.out.2.trans (Only.below ((Below.refl _ _).alloc (Nat.le_refl _) _))
        · simp [intOf]; omega
    · have : k = n := by omega
      subst this
      go_wp2_with fail
      go_end0
      exact ⟨rfl, HR.out.1, HR.out.2⟩
end Go.Proofs.YtpmlnkjamhelnaaGreat
