/- slices.Clone of the four kinds of list. types.put. shape's stack of blocks: its state, size, first, top, innermostLoop. shape's stack of blocks: push, drop. -/
import Derived.Test.YtnidakplcaanfaaCL
import Derived.Test.YtnidakplcaanfaaAN
import Derived.Test.YtnidakplcaanfaaWC
import Derived.Deep.RegionLaw
import Derived.BigQuiet
import Derived.Shelf.Abstract
namespace Go.Proofs.Ytnidakplcaanfaa
open Go.RowKit
/-- How a copy of a list ends: a row of its own with the same cells. -/
def CopyEnd (e : TypeId) (size n : Nat) (xs : List Value) (w : World) (x : Ending) (w' : World) : Prop := (∃ v, x = .returned v ∧ w'.ownsRow w.heap.size e size v n xs) ∧ Below w.heap.size w w'
set_option maxRecDepth 100000 in
set_option maxHeartbeats 1000000 in
theorem copyN (a : Option Addr) (n c : Nat) (xs : List Value) (w : World) (hy : Lies w (.slice a n c) n xs) (hl : xs.length = n * 1) (h1 : ∀ u ∈ xs, u.oneCell' = true) (hn : n ≤ 17592186044416) : Calls Try.prog 94 #[.slice a n c] w (CopyEnd 3 1 n xs w) := by
  cases a with
  | none =>
    have h0 : n = 0 ∧ xs = [] := by
      rcases hy with ⟨c', e, rfl, rfl⟩ | ⟨ad, c', e, _⟩
      · exact ⟨rfl, rfl⟩
      · cases e
    obtain ⟨rfl, rfl⟩ := h0
    have he : ∀ w : World, (binOp .eql 35 (.slice none 0 c) (.slice none 0 0)).run Try.prog w = .ok (.bool true) w := fun _ => rfl
    go_enter Try.func94, Try.ntmps94
    go_wp2_with fail
    go_ret
    exact ⟨⟨_, rfl, ⟨rfl, .inl ⟨rfl, rfl⟩⟩⟩, Below.refl _ _⟩
  | some a =>
    have he : ∀ w : World, (binOp .eql 35 (.slice (some a) n c) (.slice none 0 0)).run Try.prog w = .ok (.bool false) w := fun _ => rfl
    have hrow := row_lit0 w 3 1 w.heap.size (Nat.le_refl _)
    have hb1 : Below w.heap.size w (w.alloc (.cells #[] 3)) := (Below.refl _ w).alloc (Nat.le_refl _) _
    have hy1 := hy.keep (below_keep hb1)
    go_enter Try.func94, Try.ntmps94
    go_wp2_with (at_builtin; go_loud (refine wpList_appN _ rfl _ _ _ rfl elemN_int w.heap.size _ 0 [] rfl hrow _ rfl n xs hy1 hl h1 (by unfold maxLen; omega) (by omega) hb1.size ?_); intro v' w6 hr6 hs6)
    go_ret
    exact ⟨⟨v', rfl, by simpa using hr6⟩, hb1.trans (hs6.below hb1.size fun j h => by cases h; exact Nat.le_refl _)⟩
end Go.Proofs.Ytnidakplcaanfaa
namespace Go.Proofs.Ytnidakplcaanfaa
open Go.RowKit
theorem hid7 {p : Prop} (h : p) : Hid p := h
/-- A row of its own. -/
def IntEnd (ns : List Int) (w : World) (e : Ending) (w' : World) : Prop := ∃ a cc, e = .returned (.slice a ns.length cc) ∧ ns.length ≤ cc ∧ w'.ownsRow w.heap.size 3 1 (.slice a ns.length cc) ns.length (cellsN ns) ∧ Below w.heap.size w w'
set_option maxRecDepth 100000 in
set_option maxHeartbeats 1000000 in
theorem put_any (a b : Option Addr) (c d n m : Nat) (ns ms : List Int) (hn : ns.length = n) (hm : ms.length = m) (bn : n ≤ 1000000) (bm : m ≤ 1000000) (w : World) (ha : NsAt w.cell? a ns) (hb : NsAt w.cell? b ms) :
    Calls Try.prog 87 #[.slice a n c, .slice b m d] w (IntEnd (ns ++ ms) w) := by
  have hC := copyN a n c (cellsN ns) w (hn ▸ ha.lies c) (by rw [cellsN_len, hn, Nat.mul_one]) (cellsN_one _) (by omega)
  have HL : Hid (∀ W, Below w.heap.size w W → Lies W (.slice b m d) m (cellsN ms)) := hid7 fun W hW => hm ▸ (hb.keep fun a v h => (hW.cell (World.block_lt_of_cell? w a h)).trans h).lies d
  have HE : Hid (∀ W v, W.ownsRow w.heap.size 3 1 v (n + m) (cellsN ns ++ cellsN ms) → Below w.heap.size w W → ∀ e, e = .returned v → IntEnd (ns ++ ms) w e W) := hid7 fun W v hr hB e he => by
    obtain ⟨va, vc, rfl, hvc, _⟩ := row_form hr
    have hl : (ns ++ ms).length = n + m := by rw [List.length_append, hn, hm]
    exact ⟨va, vc, by rw [hl]; exact he, by omega, by rw [hl, cellsN_append]; exact hr, hB⟩
  have hl2 : (cellsN ms).length = m * 1 := by rw [cellsN_len, hm, Nat.mul_one]
  have HO : Hid (∀ u ∈ cellsN ms, u.oneCell' = true) := hid7 (cellsN_one _)
  generalize cellsN ns = xs at hC HE
  generalize cellsN ms = ys at HL HE hl2 HO
  clear ha hb hn hm
  unfold CopyEnd at hC
  go_enter Try.func87, Try.ntmps87
  go_wp2_with (first
    | (go_at_call 94; refine hC.mono ?_; clear hC; rintro e w1 ⟨⟨v1, rfl, hr1⟩, b1⟩; obtain ⟨va, vc, e0, _, _⟩ := row_form hr1; subst e0; have L1 := HL.out w1 b1; have h1s := b1.size)
    | (at_builtin; refine wpList_appN _ rfl _ _ 35 rfl elemN_int w.heap.size _ n xs rfl hr1 _ rfl m ys L1 hl2 HO.out (by unfold maxLen; omega) (by omega) (by omega) ?_; intro v' w6 hr6 hs6; obtain ⟨va6, vc6, e6, _, _⟩ := row_form hr6; subst e6)
    | fail)
  go_ret
  exact HE.out _ _ hr6 (b1.trans (hs6.below b1.size fun g e => (hr1.lt g e).1)) _ rfl
end Go.Proofs.Ytnidakplcaanfaa
namespace Go.Proofs.Ytnidakplcaanfaa
open Go.RowKit
theorem hid6 {p : Prop} (h : p) : Hid p := h
/-- An open block: where it begins, its else, whether it is a loop. -/
structure Blk where
  s : Int
  o : Int
  l : Bool
  deriving DecidableEq
def Blk.v (b : Blk) : Value := .agg #[.int .i64 b.s, .int .i64 b.o, .bool b.l]
def Blk.cs (b : Blk) : List Value := [.int .i64 b.s, .int .i64 b.o, .bool b.l]
def cellsB (L : List Blk) : List Value := L.flatMap Blk.cs
theorem cellsB_len (L : List Blk) : (cellsB L).length = L.length * 3 := by
  induction L with
  | nil => rfl
  | cons x L ih => simp [cellsB, Blk.cs] at ih ⊢; omega
theorem cellsB_at : ∀ (L : List Blk) (j : Nat) (h : j < L.length), (cellsB L)[j * 3]? = some (.int .i64 L[j].s) ∧ (cellsB L)[j * 3 + 1]? = some (.int .i64 L[j].o) ∧ (cellsB L)[j * 3 + 2]? = some (.bool L[j].l)
  | [], j, h => by simp at h
  | x :: L, 0, _ => ⟨rfl, rfl, rfl⟩
  | x :: L, j + 1, h => by
    have := cellsB_at L j (by simpa using h)
    have e : cellsB (x :: L) = .int .i64 x.s :: .int .i64 x.o :: .bool x.l :: cellsB L := by simp [cellsB, Blk.cs]
    rw [e, show (j + 1) * 3 = j * 3 + 1 + 1 + 1 by omega, show j * 3 + 1 + 1 + 1 + 1 = (j * 3 + 1) + 1 + 1 + 1 by omega, show j * 3 + 1 + 1 + 1 + 2 = (j * 3 + 2) + 1 + 1 + 1 by omega]
    simpa using this
/-- The stack at p: its blocks lie in a row of its own. -/
structure Stk (base p : Nat) (L : List Blk) (a : Option Addr) (cap : Nat) (W : World) : Prop where
  box : W.heap[p]? = some (.cells #[.slice a L.length cap] 103 (0, 0))
  row : W.ownsRow base 73 3 (.slice a L.length cap) L.length (cellsB L)
theorem one_cell {w : World} {b : Nat} {x : Value} {t : TypeId} (h : w.heap[b]? = some (.cells #[x] t (0, 0))) : w.cell? ⟨b, 0, none⟩ = some x ∧ w.frozen? ⟨b, 0, none⟩ = false := by
  simp [World.cell?, World.frozen?, h]
theorem blk_lt {w : World} {b : Nat} {o : Obj} (h : w.heap[b]? = some o) : b < w.heap.size := (Array.getElem?_eq_some_iff.1 h).1
theorem Stk.keep {base p : Nat} {L : List Blk} {a : Option Addr} {cap : Nat} {W W' : World} (h : Stk base p L a cap W) (hb : Below W.heap.size W W') : Stk base p L a cap W' := ⟨(hb.block _ (blk_lt h.box)).trans h.box, row_below2 h.row hb⟩
theorem Stk.new (w : World) : Stk (w.heap.size + 1) w.heap.size [] none 0 (w.alloc (.cells #[.slice none 0 0] 103)) := ⟨heap_alloc_new w _, World.ownsRow_nil _ _ _ _⟩
/-- Where its blocks lie. -/
theorem Stk.at {base p : Nat} {L : List Blk} {a : Option Addr} {cap : Nat} {W : World} (h : Stk base p L a cap W) (hne : 0 < L.length) : ∃ g, a = some ⟨g, 0, none⟩ ∧ base ≤ g ∧ g < W.heap.size ∧ L.length ≤ cap ∧ ∀ j (hj : j < L.length), W.cell? ⟨g, j * 3, none⟩ = some (.int .i64 L[j].s) ∧ W.cell? ⟨g, j * 3 + 1, none⟩ = some (.int .i64 L[j].o) ∧ W.cell? ⟨g, j * 3 + 2, none⟩ = some (.bool L[j].l) := by
  obtain ⟨x, c, e, hc, _, hr⟩ := row_form h.row
  simp only [Value.slice.injEq] at e
  obtain ⟨rfl, _, rfl⟩ := e
  rcases hr with ⟨_, h0, _⟩ | ⟨g, rfl, hg, hl, hcell⟩
  · omega
  · refine ⟨g, rfl, hg, hl, hc, fun j hj => ?_⟩
    obtain ⟨k0, k1, k2⟩ := cellsB_at L j hj
    exact ⟨hcell _ _ k0, hcell _ _ k1, hcell _ _ k2⟩
theorem size6_any {base p : Nat} {L : List Blk} {a : Option Addr} {cap : Nat} (W : World) (h : Stk base p L a cap W) : Calls Try.prog 61 #[.pointer (some ⟨p, 0, none⟩)] W fun e w' => e = .returned (.int .i64 L.length) ∧ w' = W := by
  obtain ⟨p0, _⟩ := one_cell h.box
  go_enter Try.func61, Try.ntmps61
  go_wp2
  go_ret
  exact ⟨rfl, rfl⟩
theorem any1 (b : Blk) (W : World) : Calls Try.prog 63 #[b.v] W fun e w' => e = .returned (.bool true) ∧ Below W.heap.size W w' := by
  unfold Blk.v
  go_enter Try.func63, Try.ntmps63
  go_wp2
  go_ret
  exact ⟨rfl, (Below.refl _ W).alloc (Nat.le_refl _) _⟩
theorem isLoop_any (b : Blk) (W : World) : Calls Try.prog 64 #[b.v] W fun e w' => e = .returned (.bool b.l) ∧ Below W.heap.size W w' := by
  unfold Blk.v
  go_enter Try.func64, Try.ntmps64
  go_wp2
  go_ret
  exact ⟨rfl, (Below.refl _ W).alloc (Nat.le_refl _) _⟩
/-- The one nearest to the top, of the lowest k, that is wanted. -/
def firstIx (L : List Blk) (pr : Blk → Bool) : Nat → Option Nat
  | 0 => none
  | k + 1 => match L[k]? with
    | none => none
    | some b => if pr b = true then some k else firstIx L pr k
def ptrIx (g : Nat) : Option Nat → Value
  | none => .pointer none
  | some i => .pointer (some ⟨g, i * 3, none⟩)
theorem firstIx_lt {L : List Blk} {pr : Blk → Bool} : ∀ {k i : Nat}, firstIx L pr k = some i → i < k ∧ ∃ b, L[i]? = some b ∧ pr b = true
  | 0, i, h => by cases h
  | k + 1, i, h => by
    simp only [firstIx] at h
    cases hb : L[k]? with
    | none => rw [hb] at h; cases h
    | some b =>
      rw [hb] at h
      simp only at h
      split at h
      · cases h
        exact ⟨Nat.lt_succ_self _, b, hb, by assumption⟩
      · obtain ⟨h1, h2⟩ := firstIx_lt h
        exact ⟨by omega, h2⟩
set_option maxRecDepth 100000 in
set_option maxHeartbeats 1000000 in
theorem first_of {base p g : Nat} {L : List Blk} {a : Option Addr} {cap : Nat} (W : World) (h : Stk base p L a cap W) (hg : 0 < L.length → a = some ⟨g, 0, none⟩) (hl : L.length ≤ 1000000) (F : Nat) (pr : Blk → Bool) (hF : ∀ b W, Calls Try.prog F #[b.v] W fun e w' => e = .returned (.bool (pr b)) ∧ Below W.heap.size W w') (eF : ∀ args w, (callFunc F args).run Try.prog w = .ok (.enter F args) w) (r : Option Nat) (HR : Hid (firstIx L pr L.length = r)) :
    Calls Try.prog 62 #[.pointer (some ⟨p, 0, none⟩), .func (.func F) #[] #[]] W fun e w' => e = .returned (ptrIx g r) ∧ Below W.heap.size W w' := by
  obtain ⟨n, hn⟩ : ∃ n, n = L.length := ⟨_, rfl⟩
  have HN := hid6 hn
  have hcells : ∀ wr, Below W.heap.size W wr → wr.cell? ⟨p, 0, none⟩ = some (.slice a n cap) := fun wr hb => by rw [hn]; exact (one_cell (h.keep hb).box).1
  have hat : Hid (0 < n → ∀ wr, Below W.heap.size W wr → ∀ j (hj : j < L.length), wr.cell? ⟨g, j * 3, none⟩ = some (.int .i64 L[j].s) ∧ wr.cell? ⟨g, j * 3 + 1, none⟩ = some (.int .i64 L[j].o) ∧ wr.cell? ⟨g, j * 3 + 2, none⟩ = some (.bool L[j].l)) := hid6 fun h0 wr hb j hj => by
    rw [hn] at h0
    obtain ⟨g', e, _, _, _, hc⟩ := (h.keep hb).at h0
    rw [hg h0] at e
    cases e
    exact hc j hj
  have hcap : 0 < n → n ≤ cap ∧ a = some ⟨g, 0, none⟩ := fun h0 => by
    rw [hn] at h0 ⊢
    obtain ⟨_, _, _, _, hc, _⟩ := h.at h0
    exact ⟨hc, hg h0⟩
  have p0 := hcells W (Below.refl _ _)
  rw [← hn] at hl
  clear h hg hn
  go_enter Try.func62, Try.ntmps62
  go_wp2_with fail
  go_loopw [5] (fun i wr => ∃ k : Nat, k ≤ n ∧ i = .int .i64 ((k : Int) - 1) ∧ Hid (firstIx L pr k = r) ∧ Below W.heap.size W wr) (fun i _ => (intOf i + 1).toNat)
  case atStart => exact ⟨n, Nat.le_refl _, rfl, hid6 (by rw [HN.out]; exact HR.out), Below.refl _ _⟩
  case round =>
    obtain ⟨k, hk, rfl, HI, hb⟩ := hrel
    have q0 := hcells _ hb
    cases k with
    | zero =>
      have HE : Hid (r = none) := hid6 HI.out.symm
      clear HI
      go_wp2_with fail
      go_ret
      exact ⟨by rw [HE.out]; rfl, hb⟩
    | succ k =>
      have h0 : 0 < n := by omega
      have kl : k < L.length := by have := HN.out; omega
      obtain ⟨c0, c1, c2⟩ := hat.out h0 _ hb k kl
      obtain ⟨hc, ha⟩ := hcap h0
      have hFk := hF L[k]
      have HS : Hid (firstIx L pr (k + 1) = if pr L[k] = true then some k else firstIx L pr k) := hid6 (by rw [firstIx, List.getElem?_eq_getElem kl])
      clear hF hat
      generalize L[k] = b at c0 c1 c2 hFk HS
      obtain ⟨bs, bo, bl⟩ := b
      simp only [Blk.v] at c0 c1 c2 hFk
      subst ha
      have hi : ((k + 1 : Nat) : Int) - 1 = (k : Int) := by omega
      rw [hi]
      cases hp : pr ⟨bs, bo, bl⟩ with
      | true =>
        rw [hp] at hFk
        have HE : Hid (r = some k) := hid6 (by rw [← HI.out, HS.out, if_pos hp])
        clear HI HS hp
        go_wp2_with (first | (go_at_fn F; refine (hFk _).mono ?_; rintro e w2 ⟨rfl, hb2⟩; have hb3 := hb.trans (hb2.mono hb.size); have q1 := hcells _ hb3) | fail)
        go_ret
        exact ⟨by rw [HE.out]; rfl, hb3⟩
      | false =>
        rw [hp] at hFk
        have HE : Hid (firstIx L pr k = r) := hid6 (by rw [← HI.out, HS.out, if_neg (by rw [hp]; decide)])
        clear HI HS hp
        go_wp2_with (first | (go_at_fn F; refine (hFk _).mono ?_; rintro e w2 ⟨rfl, hb2⟩; have hb3 := hb.trans (hb2.mono hb.size)) | fail)
        exact ⟨⟨k, by omega, rfl, HE, hb3⟩, by simp [intOf]⟩
theorem top_any {base p g : Nat} {L : List Blk} {a : Option Addr} {cap : Nat} (W : World) (h : Stk base p L a cap W) (hg : 0 < L.length → a = some ⟨g, 0, none⟩) (hl : L.length ≤ 1000000) (r : Option Nat) (HR : Hid (firstIx L (fun _ => true) L.length = r)) :
    Calls Try.prog 38 #[.pointer (some ⟨p, 0, none⟩)] W fun e w' => e = .returned (ptrIx g r) ∧ Below W.heap.size W w' := by
  have hF := first_of W h hg hl 63 (fun _ => true) any1 (Go.Proofs.enters_of Try.func63 (by kernel_rfl) rfl) r HR
  go_enter Try.func38, Try.ntmps38
  go_wp2_with (go_at_call 62; refine hF.mono ?_; rintro e w2 ⟨rfl, hb2⟩)
  go_ret
  exact ⟨rfl, hb2⟩
theorem inner_any {base p g : Nat} {L : List Blk} {a : Option Addr} {cap : Nat} (W : World) (h : Stk base p L a cap W) (hg : 0 < L.length → a = some ⟨g, 0, none⟩) (hl : L.length ≤ 1000000) (r : Option Nat) (HR : Hid (firstIx L Blk.l L.length = r)) :
    Calls Try.prog 39 #[.pointer (some ⟨p, 0, none⟩)] W fun e w' => e = .returned (ptrIx g r) ∧ Below W.heap.size W w' := by
  have hF := first_of W h hg hl 64 Blk.l isLoop_any (Go.Proofs.enters_of Try.func64 (by kernel_rfl) rfl) r HR
  go_enter Try.func39, Try.ntmps39
  go_wp2_with (go_at_call 62; refine hF.mono ?_; rintro e w2 ⟨rfl, hb2⟩)
  go_ret
  exact ⟨rfl, hb2⟩
end Go.Proofs.Ytnidakplcaanfaa
namespace Go.Proofs.Ytnidakplcaanfaa
open Go.RowKit
theorem elemN_blk : ElemN Try.prog 101 73 3 24 := by
  refine ⟨Try.underlying101, ?_, by decide⟩
  obtain ⟨i, hi, h1, h2, h3⟩ := info_parts (show (Try.prog.info? 73).map (fun i => (i.zero, i.size, i.bytes)) = some (some (.agg #[.int .i64 0, .int .i64 0, .bool false]), 3, 24) by kernel_rfl)
  exact ⟨i, _, hi, h1, h2, h3, rfl⟩
theorem cells_new6 (W : World) (xs : List Value) (t : TypeId) (B : Nat) (hB : W.heap.size = B) : ∀ j u, xs[j]? = some u → (W.alloc (.cells xs.toArray t)).cell? ((⟨B, 0, none⟩ : Addr).add j) = some u := by
  subst hB
  intro j u hu
  rw [Addr.add_lit, Lib.cell_of_heap (heap_alloc_new W (.cells xs.toArray t))]
  simpa using hu
theorem cellsB_snoc (L : List Blk) (b : Blk) : cellsB (L ++ [b]) = cellsB L ++ b.cs := by simp [cellsB]
/-- Only stacks and their blocks have turned. -/
def Mv (W W' : World) : Prop := W.heap.size ≤ W'.heap.size ∧ ∀ (k : Nat) (cur : Array Value) (t : TypeId) (z : Nat × Nat), t ≠ 103 → t ≠ 73 → W.heap[k]? = some (.cells cur t z) → W'.heap[k]? = some (.cells cur t z)
theorem Mv.refl (W : World) : Mv W W := ⟨Nat.le_refl _, fun _ _ _ _ _ _ h => h⟩
theorem Mv.trans {A B C : World} (h : Mv A B) (g : Mv B C) : Mv A C := ⟨Nat.le_trans h.1 g.1, fun k cur t z h1 h2 hk => g.2 k cur t z h1 h2 (h.2 k cur t z h1 h2 hk)⟩
theorem Mv.below {W W' : World} (h : Below W.heap.size W W') : Mv W W' := ⟨h.size, fun k _ _ _ _ _ hk => (h.block k (blk_lt hk)).trans hk⟩
theorem Mv.set {W : World} {b o : Nat} {cs : Array Value} {t0 : TypeId} {z : Nat × Nat} {u : Value} (hb : W.heap[b]? = some (.cells cs t0 z)) (ht : t0 = 103 ∨ t0 = 73) : Mv W (W.setCell ⟨b, o, none⟩ u) := by
  refine ⟨by simp [World.setCell], fun k cur t z' h1 h2 hk => (Below.heap_setCell _ _ _ k fun e => ?_).trans hk⟩
  subst e
  rw [hb] at hk
  cases hk
  rcases ht with rfl | rfl
  · exact h1 rfl
  · exact h2 rfl
theorem Mv.step {W W' : World} {base n : Nat} {v v' : Value} {xs : List Value} (hr : W.ownsRow base 73 3 v n xs) (hs : Step W v W' v') : Mv W W' := by
  refine ⟨hs.1.size, fun k cur t z h1 h2 hk => (hs.1.block k (blk_lt hk) fun h => ?_).trans hk⟩
  rcases hr.2 with ⟨rfl, _⟩ | ⟨g, cap, cur', rfl, _, hh, _⟩
  · cases h
  · cases h
    rw [hk] at hh
    cases hh
    exact h2 rfl
/-- How push, drop and step leave it. -/
def StkEnd (p : Nat) (L : List Blk) (W : World) (e : Ending) (w' : World) : Prop := e = .returned (.tuple #[]) ∧ (∃ a cap, Stk (p + 1) p L a cap w') ∧ Below p W w' ∧ Mv W w'
theorem one_set {w : World} {b : Nat} {x u : Value} {t : TypeId} (h : w.heap[b]? = some (.cells #[x] t (0, 0))) : (w.setCell ⟨b, 0, none⟩ u).heap[b]? = some (.cells #[u] t (0, 0)) := by
  simp [World.setCell, Array.getElem?_modify, h]
theorem row_other6 {w : World} {base n size b o : Nat} {e e' : TypeId} {v u : Value} {xs : List Value} {cs : Array Value} (h : w.ownsRow base e size v n xs) (hb : w.heap[b]? = some (.cells cs e' (0, 0))) (hne : e ≠ e') : (w.setCell ⟨b, o, none⟩ u).ownsRow base e size v n xs := by
  refine ⟨h.1, ?_⟩
  rcases h.2 with h2 | ⟨g, cap, cur, rfl, hg, hh, r⟩
  · exact .inl h2
  · refine .inr ⟨g, cap, cur, rfl, hg, ?_, r⟩
    rw [Below.heap_setCell _ _ _ _ (fun e2 => ?_)]
    · exact hh
    · subst e2
      rw [hb] at hh
      cases hh
      exact hne rfl
set_option maxRecDepth 100000 in
set_option maxHeartbeats 1000000 in
theorem push_any {p : Nat} {L : List Blk} {a : Option Addr} {cap : Nat} (b : Blk) (W : World) (h : Stk (p + 1) p L a cap W) (hl : L.length ≤ 1000000) : Calls Try.prog 78 #[.pointer (some ⟨p, 0, none⟩), b.v] W (StkEnd p (L ++ [b]) W) := by
  obtain ⟨bs, bo, bl⟩ := b
  simp only [Blk.v]
  have bx4 := (Below.refl _ W).alloc (Nat.le_refl _) (.cells #[.int .i64 bs, .int .i64 bo, .bool bl] 73)
  have bx5 := bx4.drew.alloc (by simp) (.cells #[.int .i64 bs, .int .i64 bo, .bool bl] 73)
  have h5 := h.keep bx5
  obtain ⟨p0, z0⟩ := one_cell h.box
  have hlt := blk_lt h.box
  go_enter Try.func78, Try.ntmps78
  go_wp2_with fail
  go_region_law (first
    | (refine step_appN _ (by rfl) (.tmp 8) (.tmp 10) 101 (by rfl) elemN_blk (p + 1) _ L.length (cellsB L) (by rfl) h5.row _ (by rfl) 1 [.int .i64 bs, .int .i64 bo, .bool bl] (.inr ⟨⟨_, 0, none⟩, 1, rfl, cells_new6 _ [.int .i64 bs, .int .i64 bo, .bool bl] 73 _ (World.size_alloc _ _)⟩) rfl (by simp [Value.oneCell']) (by unfold maxLen; omega) (by omega) (by simp; omega) ?_; intro v' w6 hr6 hs6; have m6 := Mv.step h5.row hs6; have b6 : w6.heap[p]? = some (.cells #[.slice a L.length cap] 103 (0, 0)) := (hs6.1.block p (by simp; omega) (fun e => by have := (h5.row.lt p e.symm).1; omega)).trans h5.box; obtain ⟨j0, j1⟩ := one_cell b6; obtain ⟨vy, vd, rfl, _⟩ := row_form hr6))
  all_goals
    go_wp2_with fail
    go_end0
    have hb6 := (bx5.mono (show p ≤ W.heap.size by omega)).trans ((hs6.below (B := p + 1) (by simp; omega) fun g e => (h5.row.lt g e).1).mono (by omega))
    refine ⟨rfl, ⟨vy, vd, ⟨by rw [List.length_append]; exact one_set b6, ?_⟩⟩, hb6.setCell (p := ⟨p, 0, none⟩) (Nat.le_refl _) _, ((Mv.below bx5).trans m6).trans (Mv.set b6 (.inl rfl))⟩
    rw [cellsB_snoc, List.length_append]
    exact row_other6 hr6 b6 (by decide)
end Go.Proofs.Ytnidakplcaanfaa
