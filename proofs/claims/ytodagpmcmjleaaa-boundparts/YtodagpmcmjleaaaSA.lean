/- shape's stack of blocks: its state, size, first, top, innermostLoop. -/
import Derived.Test.YtodagpmcmjleaaaAN
import Derived.Test.YtodagpmcmjleaaaWC
import Derived.Deep.RegionLaw
import Derived.BigQuiet
import Derived.Shelf.Abstract
namespace Go.Proofs.Ytodagpmcmjleaaa
open Go.RowKit
theorem hid6 {p : Prop} (h : p) : Hid p := h
/-- An open block: where it begins, its else, whether it is a loop. -/
structure Blk where
  s : Int
  o : Int
  l : Bool
  deriving DecidableEq
def Blk.v (b : Blk) : Value := .agg #[.int .i64 b.s, .int .i64 b.o, .bool b.l]
def Blk.cs (b : Blk) : List Value := [.int .i64 b.s, .int .i64 b.o, .bool b.l]
def cellsB (L : List Blk) : List Value := L.flatMap Blk.cs
theorem cellsB_len (L : List Blk) : (cellsB L).length = L.length * 3 := by
  induction L with
  | nil => rfl
  | cons x L ih => simp [cellsB, Blk.cs] at ih ⊢; omega
theorem cellsB_at : ∀ (L : List Blk) (j : Nat) (h : j < L.length), (cellsB L)[j * 3]? = some (.int .i64 L[j].s) ∧ (cellsB L)[j * 3 + 1]? = some (.int .i64 L[j].o) ∧ (cellsB L)[j * 3 + 2]? = some (.bool L[j].l)
  | [], j, h => by simp at h
  | x :: L, 0, _ => ⟨rfl, rfl, rfl⟩
  | x :: L, j + 1, h => by
    have := cellsB_at L j (by simpa using h)
    have e : cellsB (x :: L) = .int .i64 x.s :: .int .i64 x.o :: .bool x.l :: cellsB L := by simp [cellsB, Blk.cs]
    rw [e, show (j + 1) * 3 = j * 3 + 1 + 1 + 1 by omega, show j * 3 + 1 + 1 + 1 + 1 = (j * 3 + 1) + 1 + 1 + 1 by omega, show j * 3 + 1 + 1 + 1 + 2 = (j * 3 + 2) + 1 + 1 + 1 by omega]
    simpa using this
/-- The stack at p: its blocks lie in a row of its own. -/
structure Stk (base p : Nat) (L : List Blk) (a : Option Addr) (cap : Nat) (W : World) : Prop where
  box : W.heap[p]? = some (.cells #[.slice a L.length cap] 77 (0, 0))
  row : W.ownsRow base 57 3 (.slice a L.length cap) L.length (cellsB L)
theorem one_cell {w : World} {b : Nat} {x : Value} {t : TypeId} (h : w.heap[b]? = some (.cells #[x] t (0, 0))) : w.cell? ⟨b, 0, none⟩ = some x ∧ w.frozen? ⟨b, 0, none⟩ = false := by
  simp [World.cell?, World.frozen?, h]
theorem blk_lt {w : World} {b : Nat} {o : Obj} (h : w.heap[b]? = some o) : b < w.heap.size := (Array.getElem?_eq_some_iff.1 h).1
theorem Stk.keep {base p : Nat} {L : List Blk} {a : Option Addr} {cap : Nat} {W W' : World} (h : Stk base p L a cap W) (hb : Below W.heap.size W W') : Stk base p L a cap W' := ⟨(hb.block _ (blk_lt h.box)).trans h.box, row_below2 h.row hb⟩
theorem Stk.new (w : World) : Stk (w.heap.size + 1) w.heap.size [] none 0 (w.alloc (.cells #[.slice none 0 0] 77)) := ⟨heap_alloc_new w _, World.ownsRow_nil _ _ _ _⟩
/-- Where its blocks lie. -/
theorem Stk.at {base p : Nat} {L : List Blk} {a : Option Addr} {cap : Nat} {W : World} (h : Stk base p L a cap W) (hne : 0 < L.length) : ∃ g, a = some ⟨g, 0, none⟩ ∧ base ≤ g ∧ g < W.heap.size ∧ L.length ≤ cap ∧ ∀ j (hj : j < L.length), W.cell? ⟨g, j * 3, none⟩ = some (.int .i64 L[j].s) ∧ W.cell? ⟨g, j * 3 + 1, none⟩ = some (.int .i64 L[j].o) ∧ W.cell? ⟨g, j * 3 + 2, none⟩ = some (.bool L[j].l) := by
  obtain ⟨x, c, e, hc, _, hr⟩ := row_form h.row
  simp only [Value.slice.injEq] at e
  obtain ⟨rfl, _, rfl⟩ := e
  rcases hr with ⟨_, h0, _⟩ | ⟨g, rfl, hg, hl, hcell⟩
  · omega
  · refine ⟨g, rfl, hg, hl, hc, fun j hj => ?_⟩
    obtain ⟨k0, k1, k2⟩ := cellsB_at L j hj
    exact ⟨hcell _ _ k0, hcell _ _ k1, hcell _ _ k2⟩
theorem size6_any {base p : Nat} {L : List Blk} {a : Option Addr} {cap : Nat} (W : World) (h : Stk base p L a cap W) : Calls Try.prog 43 #[.pointer (some ⟨p, 0, none⟩)] W fun e w' => e = .returned (.int .i64 L.length) ∧ w' = W := by
  obtain ⟨p0, _⟩ := one_cell h.box
  go_enter Try.func43, Try.ntmps43
  go_wp2
  go_ret
  exact ⟨rfl, rfl⟩
theorem any1 (b : Blk) (W : World) : Calls Try.prog 45 #[b.v] W fun e w' => e = .returned (.bool true) ∧ Below W.heap.size W w' := by
  unfold Blk.v
  go_enter Try.func45, Try.ntmps45
  go_wp2
  go_ret
  exact ⟨rfl, (Below.refl _ W).alloc (Nat.le_refl _) _⟩
theorem isLoop_any (b : Blk) (W : World) : Calls Try.prog 46 #[b.v] W fun e w' => e = .returned (.bool b.l) ∧ Below W.heap.size W w' := by
  unfold Blk.v
  go_enter Try.func46, Try.ntmps46
  go_wp2
  go_ret
  exact ⟨rfl, (Below.refl _ W).alloc (Nat.le_refl _) _⟩
/-- The one nearest to the top, of the lowest k, that is wanted. -/
def firstIx (L : List Blk) (pr : Blk → Bool) : Nat → Option Nat
  | 0 => none
  | k + 1 => match L[k]? with
    | none => none
    | some b => if pr b = true then some k else firstIx L pr k
def ptrIx (g : Nat) : Option Nat → Value
  | none => .pointer none
  | some i => .pointer (some ⟨g, i * 3, none⟩)
theorem firstIx_lt {L : List Blk} {pr : Blk → Bool} : ∀ {k i : Nat}, firstIx L pr k = some i → i < k ∧ ∃ b, L[i]? = some b ∧ pr b = true
  | 0, i, h => by cases h
  | k + 1, i, h => by
    simp only [firstIx] at h
    cases hb : L[k]? with
    | none => rw [hb] at h; cases h
    | some b =>
      rw [hb] at h
      simp only at h
      split at h
      · cases h
        exact ⟨Nat.lt_succ_self _, b, hb, by assumption⟩
      · obtain ⟨h1, h2⟩ := firstIx_lt h
        exact ⟨by omega, h2⟩
set_option maxRecDepth 100000 in
set_option maxHeartbeats 1000000 in
theorem first_of {base p g : Nat} {L : List Blk} {a : Option Addr} {cap : Nat} (W : World) (h : Stk base p L a cap W) (hg : 0 < L.length → a = some ⟨g, 0, none⟩) (hl : L.length ≤ 1000000) (F : Nat) (pr : Blk → Bool) (hF : ∀ b W, Calls Try.prog F #[b.v] W fun e w' => e = .returned (.bool (pr b)) ∧ Below W.heap.size W w') (eF : ∀ args w, (callFunc F args).run Try.prog w = .ok (.enter F args) w) (r : Option Nat) (HR : Hid (firstIx L pr L.length = r)) :
    Calls Try.prog 44 #[.pointer (some ⟨p, 0, none⟩), .func (.func F) #[] #[]] W fun e w' => e = .returned (ptrIx g r) ∧ Below W.heap.size W w' := by
  obtain ⟨n, hn⟩ : ∃ n, n = L.length := ⟨_, rfl⟩
  have HN := hid6 hn
  have hcells : ∀ wr, Below W.heap.size W wr → wr.cell? ⟨p, 0, none⟩ = some (.slice a n cap) := fun wr hb => by rw [hn]; exact (one_cell (h.keep hb).box).1
  have hat : Hid (0 < n → ∀ wr, Below W.heap.size W wr → ∀ j (hj : j < L.length), wr.cell? ⟨g, j * 3, none⟩ = some (.int .i64 L[j].s) ∧ wr.cell? ⟨g, j * 3 + 1, none⟩ = some (.int .i64 L[j].o) ∧ wr.cell? ⟨g, j * 3 + 2, none⟩ = some (.bool L[j].l)) := hid6 fun h0 wr hb j hj => by
    rw [hn] at h0
    obtain ⟨g', e, _, _, _, hc⟩ := (h.keep hb).at h0
    rw [hg h0] at e
    cases e
    exact hc j hj
  have hcap : 0 < n → n ≤ cap ∧ a = some ⟨g, 0, none⟩ := fun h0 => by
    rw [hn] at h0 ⊢
    obtain ⟨_, _, _, _, hc, _⟩ := h.at h0
    exact ⟨hc, hg h0⟩
  have p0 := hcells W (Below.refl _ _)
  rw [← hn] at hl
  clear h hg hn
  go_enter Try.func44, Try.ntmps44
  go_wp2_with fail
  go_loopw [5] (fun i wr => ∃ k : Nat, k ≤ n ∧ i = .int .i64 ((k : Int) - 1) ∧ Hid (firstIx L pr k = r) ∧ Below W.heap.size W wr) (fun i _ => (intOf i + 1).toNat)
  case atStart => exact ⟨n, Nat.le_refl _, rfl, hid6 (by rw [HN.out]; exact HR.out), Below.refl _ _⟩
  case round =>
    obtain ⟨k, hk, rfl, HI, hb⟩ := hrel
    have q0 := hcells _ hb
    cases k with
    | zero =>
      have HE : Hid (r = none) := hid6 HI.out.symm
      clear HI
      go_wp2_with fail
      go_ret
      exact ⟨by rw [HE.out]; rfl, hb⟩
    | succ k =>
      have h0 : 0 < n := by omega
      have kl : k < L.length := by have := HN.out; omega
      obtain ⟨c0, c1, c2⟩ := hat.out h0 _ hb k kl
      obtain ⟨hc, ha⟩ := hcap h0
      have hFk := hF L[k]
      have HS : Hid (firstIx L pr (k + 1) = if pr L[k] = true then some k else firstIx L pr k) := hid6 (by rw [firstIx, List.getElem?_eq_getElem kl])
      clear hF hat
      generalize L[k] = b at c0 c1 c2 hFk HS
      obtain ⟨bs, bo, bl⟩ := b
      simp only [Blk.v] at c0 c1 c2 hFk
      subst ha
      have hi : ((k + 1 : Nat) : Int) - 1 = (k : Int) := by omega
      rw [hi]
      cases hp : pr ⟨bs, bo, bl⟩ with
      | true =>
        rw [hp] at hFk
        have HE : Hid (r = some k) := hid6 (by rw [← HI.out, HS.out, if_pos hp])
        clear HI HS hp
        go_wp2_with (first | (go_at_fn F; refine (hFk _).mono ?_; rintro e w2 ⟨rfl, hb2⟩; have hb3 := hb.trans (hb2.mono hb.size); have q1 := hcells _ hb3) | fail)
        go_ret
        exact ⟨by rw [HE.out]; rfl, hb3⟩
      | false =>
        rw [hp] at hFk
        have HE : Hid (firstIx L pr k = r) := hid6 (by rw [← HI.out, HS.out, if_neg (by rw [hp]; decide)])
        clear HI HS hp
        go_wp2_with (first | (go_at_fn F; refine (hFk _).mono ?_; rintro e w2 ⟨rfl, hb2⟩; have hb3 := hb.trans (hb2.mono hb.size)) | fail)
        exact ⟨⟨k, by omega, rfl, HE, hb3⟩, by simp [intOf]⟩
theorem top_any {base p g : Nat} {L : List Blk} {a : Option Addr} {cap : Nat} (W : World) (h : Stk base p L a cap W) (hg : 0 < L.length → a = some ⟨g, 0, none⟩) (hl : L.length ≤ 1000000) (r : Option Nat) (HR : Hid (firstIx L (fun _ => true) L.length = r)) :
    Calls Try.prog 28 #[.pointer (some ⟨p, 0, none⟩)] W fun e w' => e = .returned (ptrIx g r) ∧ Below W.heap.size W w' := by
  have hF := first_of W h hg hl 45 (fun _ => true) any1 (Go.Proofs.enters_of Try.func45 (by kernel_rfl) rfl) r HR
  go_enter Try.func28, Try.ntmps28
  go_wp2_with (go_at_call 44; refine hF.mono ?_; rintro e w2 ⟨rfl, hb2⟩)
  go_ret
  exact ⟨rfl, hb2⟩
theorem inner_any {base p g : Nat} {L : List Blk} {a : Option Addr} {cap : Nat} (W : World) (h : Stk base p L a cap W) (hg : 0 < L.length → a = some ⟨g, 0, none⟩) (hl : L.length ≤ 1000000) (r : Option Nat) (HR : Hid (firstIx L Blk.l L.length = r)) :
    Calls Try.prog 29 #[.pointer (some ⟨p, 0, none⟩)] W fun e w' => e = .returned (ptrIx g r) ∧ Below W.heap.size W w' := by
  have hF := first_of W h hg hl 46 Blk.l isLoop_any (Go.Proofs.enters_of Try.func46 (by kernel_rfl) rfl) r HR
  go_enter Try.func29, Try.ntmps29
  go_wp2_with (go_at_call 44; refine hF.mono ?_; rintro e w2 ⟨rfl, hb2⟩)
  go_ret
  exact ⟨rfl, hb2⟩
end Go.Proofs.Ytodagpmcmjleaaa
