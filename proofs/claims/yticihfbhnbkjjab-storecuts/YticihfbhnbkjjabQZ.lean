/- Layer 11: the sort of Changes: the closure, the order. Layer 11: the sort of Changes: a row of pairs. -/
import Derived.Test.YticihfbhnbkjjabQY
import Derived.Test.YticihfbhnbkjjabShelfo
import Derived.Shelf.SlSortCmp.NoneTotal
namespace Go.Proofs.Yticihfbhnbkjjab
open Go.RowKit Go.Shelf Go.Lib Go.Sort
attribute [local go_sem] Oper.semAt_some
def encP (x : Bt × Bt) : List Value := [sv x.1, sv x.2]
def cfP (x y : Bt × Bt) : Int := Lib.compareBytes x.1 y.1
set_option maxHeartbeats 1000000 in
theorem clo_any (x y : Bt × Bt) (w : World) : Calls Try.prog 40 #[.agg (encP x).toArray, .agg (encP y).toArray] w fun e w' => e = .returned (.int .i64 (cfP x y)) ∧ ∃ q os', w' = grow (w.drewN q) os' := by
  obtain ⟨xk, xv⟩ := x
  obtain ⟨yk, yv⟩ := y
  simp only [encP]
  go_enter Try.func40, Try.ntmps40
  go_wp2_with (go_at_call 41; refine (Try.strings_Compare _ _ _).mono ?_; rintro e w' ⟨rfl, rfl⟩)
  go_ret
  exact ⟨rfl, 0, _, by rw [alloc_eq_grow, alloc_eq_grow, grow_grow]; rfl⟩
theorem cmp_lt : ∀ a b : Bt, decide (Lib.compareBytes a b < 0) = Op.bytesLess a b
  | [], [] => by simp [Lib.compareBytes, Op.bytesLess]
  | [], _ :: _ => by simp [Lib.compareBytes, Op.bytesLess]
  | _ :: _, [] => by simp [Lib.compareBytes, Op.bytesLess]
  | a :: x, b :: y => by
    have ih := cmp_lt x y
    rw [Lib.compareBytes, Op.bytesLess]
    by_cases h1 : a < b
    · simp [h1]
    · by_cases h2 : b < a
      · have h3 : a ≠ b := fun e => by subst e; exact h1 h2
        simp [h1, h2, h3]
      · have h3 : a = b := UInt8.le_antisymm (UInt8.not_lt.1 h2) (UInt8.not_lt.1 h1)
        subst h3
        simp [h1, ih]
theorem ltP (x y : Bt × Bt) : ltOf cfP x y = Op.bytesLess x.1 y.1 := cmp_lt x.1 y.1
theorem swoP : SWO (ltOf cfP) where
  irrefl x := by rw [ltP]; simpa using klt_irr x.1
  trans x y z h1 h2 := by rw [ltP] at *; exact klt_trans _ _ _ h1 h2
  ntrans x y z h1 h2 := by
    rw [ltP] at *
    have a1 : ¬ klt x.1 y.1 := by simp [h1]
    have a2 : ¬ klt y.1 z.1 := by simp [h2]
    have : ¬ klt x.1 z.1 := fun h => by
      by_cases e : x.1 = y.1
      · exact a2 (e ▸ h)
      · rcases klt_tot _ _ e with c | c
        · exact a1 c
        · exact a2 (klt_trans _ _ _ c h)
    simpa using this
theorem cmpLaysP (blk off size : Nat) (w : World) : CmpLays Try.prog 40 #[] encP 2 cfP blk off size w := fun _ _ _ _ x y => clo_any x y _
theorem sort_call (blk cap : Nat) (d : Array (Bt × Bt)) (w : World) (hH : HoldsK encP 2 w blk 0 d) (hblk : blk < w.heap.size) (hsz : d.size < 4611686018427387904) :
    Calls Try.prog 39 #[.slice (some ⟨blk, 0, none⟩) d.size cap, .func (.func 40) #[] #[]] w fun e w' => e = .returned (.tuple #[]) ∧ ∃ d' n os, PermIn 0 d.size d d' ∧ SortedIn (ltOf cfP) 0 d.size d' ∧ w' = sortWorldK encP 2 w blk 0 n d' os := by
  have eg : ∀ args w, (callFunc 40 args).run Try.prog w = .ok (.enter 40 args) w := enters_of Try.func40 (by kernel_rfl) rfl
  exact AnyQ.slices_SortFunc Try.sortP 2 Try.isAgg41 Try.sizeOf41 encP (fun _ => rfl) (fun x v hv => by simp [encP] at hv; rcases hv with rfl | rfl <;> rfl) cfP swoP 40 #[] blk 0 cap d w eg (cmpLaysP blk 0 d.size w) hH hblk hsz
end Go.Proofs.Yticihfbhnbkjjab
namespace Go.Proofs.Yticihfbhnbkjjab
open Go.RowKit Go.Shelf Go.Lib Go.Sort
theorem cellsP_cons (x : Bt × Bt) (L : Kvs) : cellsP (x :: L) = sv x.1 :: sv x.2 :: cellsP L := rfl
theorem cellsP_get : ∀ (L : Kvs) (t : Nat), t < L.length * 2 → (cellsP L)[t]? = some ((encP L.toArray[t / 2]!)[t % 2]!)
  | [], t, h => by simp at h
  | x :: L, 0, _ => by simp [cellsP_cons, encP]
  | x :: L, 1, _ => by simp [cellsP_cons, encP]
  | x :: L, t + 2, h => by
    have ih := cellsP_get L t (by simp at h; omega)
    have e1 : (t + 2) / 2 = t / 2 + 1 := by omega
    have e2 : (t + 2) % 2 = t % 2 := by omega
    rw [cellsP_cons, List.getElem?_cons_succ, List.getElem?_cons_succ, ih, e1, e2]
    simp
theorem flat_get (L : Kvs) (t : Nat) (h : t < L.length * 2) : (cellsP L)[t]? = some (flatK encP 2 L.toArray)[t]! := by
  rw [cellsP_get L t h, get_flatK encP 2 L.toArray t (by simpa using h)]
theorem sorts_pairs : SortsP := by
  intro W base v acc hl hrow
  have hlen := hrow.1
  rcases hrow.2 with ⟨rfl, h0⟩ | ⟨g, cap, cur, rfl, hb, hc, hn, hm, hs, ht⟩
  · have : acc = [] := List.length_eq_zero_iff.1 h0
    subst this
    refine (AnyF.slices_SortFunc_none Try.sortP none 0 _ W).mono ?_
    rintro e w' ⟨rfl, rfl⟩
    exact ⟨rfl, hidb ⟨grown_refl _ _, [], List.Perm.refl _, List.Pairwise.nil, hrow⟩⟩
  · have cget : ∀ t, t < acc.length * 2 → cur[t]? = (cellsP acc)[t]? := fun t h => by
      rw [← ht, List.getElem?_take_of_lt h, Array.getElem?_toList]
    have hH : HoldsK encP 2 W g 0 acc.toArray := fun j hj => by
      have hj' : j < acc.length * 2 := by simpa using hj
      refine ⟨?_, ?_⟩
      · rw [Nat.zero_add, Lib.cell_of_heap hc j, cget j hj', flat_get acc j hj']
        rfl
      · exact Lib.frozen_of_heap hc _
    have hg : g < W.heap.size := heap_ltb hc
    have hcall := sort_call g cap acc.toArray W hH hg (by simp; omega)
    rw [List.size_toArray] at hcall
    refine hcall.mono ?_
    rintro e w' ⟨rfl, d', n, os, hp, hso, rfl⟩
    obtain ⟨p1, p2, p3⟩ := hp
    simp only [List.size_toArray] at p1
    have hd' : d'.toList.length = acc.length := by simpa using p1
    have hblk : (sortWorldK encP 2 W g 0 n d' os).heap[g]? = some (.cells (putCells id 0 (flatK encP 2 d') cur) 41 (0, 0)) := by
      have hgs : g < (W.heap.modify g (onCells (putCells id 0 (flatK encP 2 d')))).size := by simpa using hg
      show (W.heap.modify g (onCells (putCells id 0 (flatK encP 2 d'))) ++ os)[g]? = _
      rw [Array.getElem?_append_left hgs, Array.getElem?_modify, if_pos rfl, hc]
      rfl
    refine ⟨rfl, hidb ⟨⟨rfl, rfl, rfl, ?_, ?_⟩, d'.toList, ?_, ?_, ?_, .inr ⟨g, cap, _, by rw [hd'], hb, hblk, by rw [hd']; exact hn, hm, ?_, ?_⟩⟩⟩
    · show W.heap.size ≤ (W.heap.modify g _ ++ os).size
      simp
    · intro k hk hne
      have hkg : g ≠ k := fun e => hne (by rw [e]; rfl)
      show (W.heap.modify g _ ++ os)[k]? = _
      rw [Array.getElem?_append_left (by simpa using hk), Array.getElem?_modify, if_neg hkg]
    · have a1 : d'.extract 0 acc.length = d' := by rw [← p1]; simp
      have a2 : acc.toArray.extract 0 acc.length = acc.toArray := by simp
      simpa [a1] using p3
    · rw [List.pairwise_iff_getElem]
      intro i j hi hj hij
      have := hso i j (Nat.zero_le _) hij (by simpa [hd'] using hj)
      rw [ltP, getElem!_pos d' j (by simpa using hj), getElem!_pos d' i (by simpa using hi)] at this
      simpa using this
    · rw [cellsP_len]
    · simp [putCells, hs]
    · rw [hd']
      apply List.ext_getElem?
      intro t
      by_cases h : t < acc.length * 2
      · have ht2 : t < cur.size := by rw [hs]; exact Nat.lt_of_lt_of_le h (Nat.mul_le_mul hn (Nat.le_refl 2))
        rw [List.getElem?_take_of_lt h, Array.getElem?_toList, flat_get d'.toList t (by rw [hd']; exact h)]
        simp [putCells, ht2, p1, h]
      · rw [List.getElem?_eq_none (by simp; omega), List.getElem?_eq_none (by rw [cellsP_len, hd']; omega)]
/-- Tx.Changes of any transaction. -/
theorem changes_all (b : TxB) (L S D : Kvs) (more : Int) (w : World) (h : TxAt b L S D more w) (hS : (S.length + D.length + 2) * 56 ≤ 140737488355328) : Calls Try.prog 15 #[.pointer (some ⟨b.xb, 0, none⟩)] w (ChEnd b L S D more w) := changes_any b L S D more w h hS sorts_pairs
end Go.Proofs.Yticihfbhnbkjjab
