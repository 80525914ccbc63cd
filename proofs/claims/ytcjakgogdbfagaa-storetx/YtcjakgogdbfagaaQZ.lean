/- Layer 11: the sort of Changes: the closure, the order. Layer 11: the sort of Changes: a row of pairs. Layer 11: a store and a transaction of it, told by what the store has and what the transaction shows: Begin, Load, Save, Commit. -/
import Derived.Test.YtcjakgogdbfagaaQY
import Derived.Test.YtcjakgogdbfagaaShelfo
import Derived.Shelf.SlSortCmp.NoneTotal
import Derived.Test.YtcjakgogdbfagaaKD
namespace Go.Proofs.Ytcjakgogdbfagaa
open Go.RowKit Go.Shelf Go.Lib Go.Sort
attribute [local go_sem] Oper.semAt_some
def encP (x : Bt × Bt) : List Value := [sv x.1, sv x.2]
def cfP (x y : Bt × Bt) : Int := Lib.compareBytes x.1 y.1
set_option maxHeartbeats 1000000 in
theorem clo_any (x y : Bt × Bt) (w : World) : Calls Try.prog 45 #[.agg (encP x).toArray, .agg (encP y).toArray] w fun e w' => e = .returned (.int .i64 (cfP x y)) ∧ ∃ q os', w' = grow (w.drewN q) os' := by
  obtain ⟨xk, xv⟩ := x
  obtain ⟨yk, yv⟩ := y
  simp only [encP]
  go_enter Try.func45, Try.ntmps45
  go_wp2_with (go_at_call 46; refine (Try.strings_Compare _ _ _).mono ?_; rintro e w' ⟨rfl, rfl⟩)
  go_ret
  exact ⟨rfl, 0, _, by rw [alloc_eq_grow, alloc_eq_grow, grow_grow]; rfl⟩
theorem cmp_lt : ∀ a b : Bt, decide (Lib.compareBytes a b < 0) = Op.bytesLess a b
  | [], [] => by simp [Lib.compareBytes, Op.bytesLess]
  | [], _ :: _ => by simp [Lib.compareBytes, Op.bytesLess]
  | _ :: _, [] => by simp [Lib.compareBytes, Op.bytesLess]
  | a :: x, b :: y => by
    have ih := cmp_lt x y
    rw [Lib.compareBytes, Op.bytesLess]
    by_cases h1 : a < b
    · simp [h1]
    · by_cases h2 : b < a
      · have h3 : a ≠ b := fun e => by subst e; exact h1 h2
        simp [h1, h2, h3]
      · have h3 : a = b := UInt8.le_antisymm (UInt8.not_lt.1 h2) (UInt8.not_lt.1 h1)
        subst h3
        simp [h1, ih]
theorem ltP (x y : Bt × Bt) : ltOf cfP x y = Op.bytesLess x.1 y.1 := cmp_lt x.1 y.1
theorem swoP : SWO (ltOf cfP) where
  irrefl x := by rw [ltP]; simpa using klt_irr x.1
  trans x y z h1 h2 := by rw [ltP] at *; exact klt_trans _ _ _ h1 h2
  ntrans x y z h1 h2 := by
    rw [ltP] at *
    have a1 : ¬ klt x.1 y.1 := by simp [h1]
    have a2 : ¬ klt y.1 z.1 := by simp [h2]
    have : ¬ klt x.1 z.1 := fun h => by
      by_cases e : x.1 = y.1
      · exact a2 (e ▸ h)
      · rcases klt_tot _ _ e with c | c
        · exact a1 c
        · exact a2 (klt_trans _ _ _ c h)
    simpa using this
theorem cmpLaysP (blk off size : Nat) (w : World) : CmpLays Try.prog 45 #[] encP 2 cfP blk off size w := fun _ _ _ _ x y => clo_any x y _
theorem sort_call (blk cap : Nat) (d : Array (Bt × Bt)) (w : World) (hH : HoldsK encP 2 w blk 0 d) (hblk : blk < w.heap.size) (hsz : d.size < 4611686018427387904) :
    Calls Try.prog 44 #[.slice (some ⟨blk, 0, none⟩) d.size cap, .func (.func 45) #[] #[]] w fun e w' => e = .returned (.tuple #[]) ∧ ∃ d' n os, PermIn 0 d.size d d' ∧ SortedIn (ltOf cfP) 0 d.size d' ∧ w' = sortWorldK encP 2 w blk 0 n d' os := by
  have eg : ∀ args w, (callFunc 45 args).run Try.prog w = .ok (.enter 45 args) w := enters_of Try.func45 (by kernel_rfl) rfl
  exact AnyQ.slices_SortFunc Try.sortP 2 Try.isAgg75 Try.sizeOf75 encP (fun _ => rfl) (fun x v hv => by simp [encP] at hv; rcases hv with rfl | rfl <;> rfl) cfP swoP 45 #[] blk 0 cap d w eg (cmpLaysP blk 0 d.size w) hH hblk hsz
end Go.Proofs.Ytcjakgogdbfagaa
namespace Go.Proofs.Ytcjakgogdbfagaa
open Go.RowKit Go.Shelf Go.Lib Go.Sort
theorem cellsP_cons (x : Bt × Bt) (L : Kvs) : cellsP (x :: L) = sv x.1 :: sv x.2 :: cellsP L := rfl
theorem cellsP_get : ∀ (L : Kvs) (t : Nat), t < L.length * 2 → (cellsP L)[t]? = some ((encP L.toArray[t / 2]!)[t % 2]!)
  | [], t, h => by simp at h
  | x :: L, 0, _ => by simp [cellsP_cons, encP]
  | x :: L, 1, _ => by simp [cellsP_cons, encP]
  | x :: L, t + 2, h => by
    have ih := cellsP_get L t (by simp at h; omega)
    have e1 : (t + 2) / 2 = t / 2 + 1 := by omega
    have e2 : (t + 2) % 2 = t % 2 := by omega
    rw [cellsP_cons, List.getElem?_cons_succ, List.getElem?_cons_succ, ih, e1, e2]
    simp
theorem flat_get (L : Kvs) (t : Nat) (h : t < L.length * 2) : (cellsP L)[t]? = some (flatK encP 2 L.toArray)[t]! := by
  rw [cellsP_get L t h, get_flatK encP 2 L.toArray t (by simpa using h)]
theorem sorts_pairs : SortsP := by
  intro W base v acc hl hrow
  have hlen := hrow.1
  rcases hrow.2 with ⟨rfl, h0⟩ | ⟨g, cap, cur, rfl, hb, hc, hn, hm, hs, ht⟩
  · have : acc = [] := List.length_eq_zero_iff.1 h0
    subst this
    refine (AnyF.slices_SortFunc_none Try.sortP none 0 _ W).mono ?_
    rintro e w' ⟨rfl, rfl⟩
    exact ⟨rfl, hidb ⟨grown_refl _ _, [], List.Perm.refl _, List.Pairwise.nil, hrow⟩⟩
  · have cget : ∀ t, t < acc.length * 2 → cur[t]? = (cellsP acc)[t]? := fun t h => by
      rw [← ht, List.getElem?_take_of_lt h, Array.getElem?_toList]
    have hH : HoldsK encP 2 W g 0 acc.toArray := fun j hj => by
      have hj' : j < acc.length * 2 := by simpa using hj
      refine ⟨?_, ?_⟩
      · rw [Nat.zero_add, Lib.cell_of_heap hc j, cget j hj', flat_get acc j hj']
        rfl
      · exact Lib.frozen_of_heap hc _
    have hg : g < W.heap.size := heap_ltb hc
    have hcall := sort_call g cap acc.toArray W hH hg (by simp; omega)
    rw [List.size_toArray] at hcall
    refine hcall.mono ?_
    rintro e w' ⟨rfl, d', n, os, hp, hso, rfl⟩
    obtain ⟨p1, p2, p3⟩ := hp
    simp only [List.size_toArray] at p1
    have hd' : d'.toList.length = acc.length := by simpa using p1
    have hblk : (sortWorldK encP 2 W g 0 n d' os).heap[g]? = some (.cells (putCells id 0 (flatK encP 2 d') cur) 75 (0, 0)) := by
      have hgs : g < (W.heap.modify g (onCells (putCells id 0 (flatK encP 2 d')))).size := by simpa using hg
      show (W.heap.modify g (onCells (putCells id 0 (flatK encP 2 d'))) ++ os)[g]? = _
      rw [Array.getElem?_append_left hgs, Array.getElem?_modify, if_pos rfl, hc]
      rfl
    refine ⟨rfl, hidb ⟨⟨rfl, rfl, rfl, ?_, ?_⟩, d'.toList, ?_, ?_, ?_, .inr ⟨g, cap, _, by rw [hd'], hb, hblk, by rw [hd']; exact hn, hm, ?_, ?_⟩⟩⟩
    · show W.heap.size ≤ (W.heap.modify g _ ++ os).size
      simp
    · intro k hk hne
      have hkg : g ≠ k := fun e => hne (by rw [e]; rfl)
      show (W.heap.modify g _ ++ os)[k]? = _
      rw [Array.getElem?_append_left (by simpa using hk), Array.getElem?_modify, if_neg hkg]
    · have a1 : d'.extract 0 acc.length = d' := by rw [← p1]; simp
      have a2 : acc.toArray.extract 0 acc.length = acc.toArray := by simp
      simpa [a1] using p3
    · rw [List.pairwise_iff_getElem]
      intro i j hi hj hij
      have := hso i j (Nat.zero_le _) hij (by simpa [hd'] using hj)
      rw [ltP, getElem!_pos d' j (by simpa using hj), getElem!_pos d' i (by simpa using hi)] at this
      simpa using this
    · rw [cellsP_len]
    · simp [putCells, hs]
    · rw [hd']
      apply List.ext_getElem?
      intro t
      by_cases h : t < acc.length * 2
      · have ht2 : t < cur.size := by rw [hs]; exact Nat.lt_of_lt_of_le h (Nat.mul_le_mul hn (Nat.le_refl 2))
        rw [List.getElem?_take_of_lt h, Array.getElem?_toList, flat_get d'.toList t (by rw [hd']; exact h)]
        simp [putCells, ht2, p1, h]
      · rw [List.getElem?_eq_none (by simp; omega), List.getElem?_eq_none (by rw [cellsP_len, hd']; omega)]
/-- Tx.Changes of any transaction. -/
theorem changes_all (b : TxB) (L S D : Kvs) (more : Int) (w : World) (h : TxAt b L S D more w) (hS : (S.length + D.length + 2) * 46 ≤ 140737488355328) : Calls Try.prog 20 #[.pointer (some ⟨b.xb, 0, none⟩)] w (ChEnd b L S D more w) := changes_any b L S D more w h hS sorts_pairs
end Go.Proofs.Ytcjakgogdbfagaa
namespace Go.Proofs.Ytcjakgogdbfagaa
open Go.RowKit
theorem Kt.toBelow {S : Nat → Prop} {w w' : World} {B : Nat} (h : Kt S w w') (hB : B ≤ w.heap.size) (hS : ∀ i, S i → B ≤ i) : Below B w w' :=
  ⟨h.os, h.tape, h.output, h.size, fun i hi => h.block i (Nat.lt_of_lt_of_le hi hB) fun e => by have := hS i e; omega⟩
theorem sub_len : ∀ {A B : Kvs}, SrtL A → SrtL B → (∀ k, (getL A k).isSome → (getL B k).isSome) → A.length ≤ B.length
  | [], B, _, _, _ => Nat.zero_le _
  | (a, v) :: A, B, hA, hB, h => by
    obtain ⟨a1, a2⟩ := srt_cons hA
    have hb : (getL B a).isSome := h a (by rw [getL, if_pos rfl]; rfl)
    have hl := delL_len hB a
    rw [if_neg (by intro e; rw [e] at hb; cases hb)] at hl
    have := sub_len a1 (delL_srt hB a) fun k hk => by
      have hne : a ≠ k := fun e => by
        subst e
        rw [getL_lt a2] at hk
        cases hk
      rw [getL_delL, if_neg hne]
      exact h k (by rw [getL, if_neg hne]; exact hk)
    rw [List.length_cons]
    omega
theorem Shows.lenS {L S D M : Kvs} (h : Shows L S D M) (hs : SrtL S) : S.length ≤ M.length := sub_len hs h.srt fun k hk => by
  rw [h.get, loadL, h.ap k hk]
  simp only [Option.isSome_none, Bool.false_eq_true, if_false]
  cases e : getL S k with
  | some v => rfl
  | none => rw [e] at hk; cases hk
/-- The store at sx has the pairs L; its transaction shows M; at most d keys are wiped. -/
structure SX (sx : Nat) (b : TxB) (L M : Kvs) (d : Nat) (w : World) : Prop where
  tx : ∃ S D, TxAt b L S D ((M.length : Int) - L.length) w ∧ Shows L S D M ∧ D.length ≤ d
  box : w.heap[sx]? = some (.cells #[.pointer (some ⟨b.tb, 0, none⟩)] 62 (0, 0))
  nb : ∀ i ∈ b.l, sx ≠ i
section
variable {sx : Nat} {b : TxB} {L M : Kvs} {d : Nat} {w w' : World}
theorem SX.st (h : SX sx b L M d w) : StAt sx b.tb b.g L w := by
  obtain ⟨S, D, h1, _⟩ := h.tx
  exact ⟨h.box, h1.t, h.nb _ (by simp [TxB.l]), h.nb _ (by simp [TxB.l])⟩
theorem SX.keepAll (h : SX sx b L M d w) (k : ∀ i, i = sx ∨ i ∈ b.l → w'.heap[i]? = w.heap[i]?) : SX sx b L M d w' := by
  obtain ⟨S, D, h1, h2, h3⟩ := h.tx
  exact ⟨⟨S, D, h1.keepAll fun i hi => k i (.inr hi), h2, h3⟩, (k sx (.inl rfl)).trans h.box, h.nb⟩
theorem SX.lts (h : SX sx b L M d w) : ∀ i, i = sx ∨ i ∈ b.l → i < w.heap.size := by
  rintro i (rfl | hi)
  · exact heap_ltb h.box
  · obtain ⟨S, D, h1, _⟩ := h.tx
    exact h1.lts i hi
theorem SX.below (h : SX sx b L M d w) (k : Below w.heap.size w w') : SX sx b L M d w' := h.keepAll fun i hi => k.block i (h.lts i hi)
theorem SX.drewN (h : SX sx b L M d w) (m : Nat) : SX sx b L M d (w.drewN m) := h.keepAll fun _ _ => rfl
theorem SX.srtL (h : SX sx b L M d w) : SrtL L := h.st.t.srt
theorem SX.srtM (h : SX sx b L M d w) : SrtL M := by
  obtain ⟨S, D, _, h2, _⟩ := h.tx
  exact h2.srt
end
/-- What a call of a transaction leaves. -/
def SXEnd (sx : Nat) (b : TxB) (L' M' : Kvs) (d' : Nat) (v : Value) (w : World) (e : Ending) (w' : World) : Prop := e = .returned v ∧ Hid (∃ b', SX sx b' L' M' d' w' ∧ b'.xb = b.xb ∧ b'.tb = b.tb ∧ (∀ i ∈ b'.l, i ∈ b.l ∨ w.heap.size ≤ i) ∧ Kt (fun i => i ∈ b.l) w w')
theorem SX.of_x {sx : Nat} {b : TxB} {L M M' S' D' : Kvs} {d d' : Nat} {m' : Int} {v : Value} {w w' : World} {e : Ending} (h : SX sx b L M d w) (hx : XEnd b L S' D' m' v w e w') (hm : m' = (M'.length : Int) - L.length) (hs : Shows L S' D' M') (hd : D'.length ≤ d') : SXEnd sx b L M' d' v w e w' := by
  obtain ⟨e1, H⟩ := hx
  obtain ⟨sg', h1, h2, h3⟩ := H.out
  subst hm
  refine ⟨e1, hidb ⟨{ b with sg := sg' }, ⟨⟨S', D', h1, hs, hd⟩, (h3.block sx (heap_ltb h.box) ?_).trans h.box, ?_⟩, rfl, rfl, ?_, h3.mono ?_⟩⟩
  · rintro (x | x | x | x | x) <;> exact h.nb _ (by simp [TxB.l]) x
  · have hl := heap_ltb h.box
    intro i hi
    simp only [TxB.l, List.mem_cons, List.not_mem_nil, or_false] at hi
    rcases hi with rfl | rfl | rfl | rfl | rfl | rfl | rfl | rfl
    · exact h.nb _ (by simp [TxB.l])
    · exact h.nb _ (by simp [TxB.l])
    · exact h.nb _ (by simp [TxB.l])
    · exact h.nb _ (by simp [TxB.l])
    · exact h.nb _ (by simp [TxB.l])
    · exact ne_new hl (h.nb b.sg (by simp [TxB.l])) h2
    · exact h.nb _ (by simp [TxB.l])
    · exact h.nb _ (by simp [TxB.l])
  · intro i hi
    simp only [TxB.l, List.mem_cons, List.not_mem_nil, or_false] at hi ⊢
    rcases hi with rfl | rfl | rfl | rfl | rfl | rfl | rfl | rfl
    · simp
    · simp
    · simp
    · simp
    · simp
    · rcases h2 with x | x
      · simp [x]
      · exact .inr x
    · simp
    · simp
  · rintro i _ (x | x | x | x | x) <;> simp [TxB.l, x]
/-- A new transaction. -/
theorem begin_i (sx tb g : Nat) (L : Kvs) (w : World) (h : StAt sx tb g L w) : Calls Try.prog 5 #[.pointer (some ⟨sx, 0, none⟩)] w fun e w' => ∃ xb, e = .returned (.pointer (some ⟨xb, 0, none⟩)) ∧ Hid (∃ b : TxB, b.xb = xb ∧ b.tb = tb ∧ b.g = g ∧ SX sx b L L 0 w' ∧ (∀ i ∈ b.l, i = tb ∨ i = g ∨ w.heap.size ≤ i) ∧ Below w.heap.size w w') := by
  refine (begin_any sx tb g L w h).mono ?_
  rintro e w' ⟨xb, rfl, H⟩
  obtain ⟨b, e1, e2, e3, hT, l1, l2, l3, l4, l5, l6, hb⟩ := H.out
  have hlt := h.lts
  refine ⟨xb, rfl, hidb ⟨b, e1, e2, e3, ⟨⟨[], [], by rw [show ((L.length : Int) - L.length) = 0 by omega]; exact hT, Shows.start h.t.srt, Nat.le_refl _⟩, ?_, ?_⟩, ?_, hb⟩⟩
  · rw [e2]
    exact (hb.block _ hlt.1).trans h.box
  · intro i hi
    simp only [TxB.l, List.mem_cons, List.not_mem_nil, or_false] at hi
    have n1 := h.n1
    have n2 := h.n2
    rcases hi with rfl | rfl | rfl | rfl | rfl | rfl | rfl | rfl
    · omega
    · omega
    · rw [e2]; exact n1
    · rw [e3]; exact n2
    · omega
    · omega
    · omega
    · omega
  · intro i hi
    simp only [TxB.l, List.mem_cons, List.not_mem_nil, or_false] at hi
    rcases hi with rfl | rfl | rfl | rfl | rfl | rfl | rfl | rfl
    · exact .inr (.inr l1)
    · exact .inr (.inr l2)
    · exact .inl e2
    · exact .inr (.inl e3)
    · exact .inr (.inr l3)
    · exact .inr (.inr l4)
    · exact .inr (.inr l5)
    · exact .inr (.inr l6)
theorem load_i (sx : Nat) (b : TxB) (L M : Kvs) (d : Nat) (w : World) (k : Bt) (h : SX sx b L M d w) : Calls Try.prog 13 #[.pointer (some ⟨b.xb, 0, none⟩), sv k] w fun e w' => e = .returned (.tuple #[sv ((getL M k).getD []), .bool (getL M k).isSome]) ∧ ∃ m, w' = w.drewN m := by
  obtain ⟨S, D, h1, h2, h3⟩ := h.tx
  rw [h2.get k]
  exact load_any b L S D _ w k h1
theorem save_i (sx : Nat) (b : TxB) (L M : Kvs) (d : Nat) (w : World) (k v : Bt) (h : SX sx b L M d w) (hk : k.length ≤ 9223372036854775807) (hv : v.length ≤ 9223372036854775807) (hL : L.length ≤ 512) (hM : M.length ≤ 512) :
    Calls Try.prog 9 #[.pointer (some ⟨b.xb, 0, none⟩), sv k, sv v] w (SXEnd sx b L (putS M k v) d (.int .i64 (putE M k v)) w) := by
  obtain ⟨S, D, h1, h2, h3⟩ := h.tx
  have hS := h2.lenS h1.s.srt
  have hroom : (S.length + 2) * 46 ≤ 140737488355328 := by omega
  have hg := h2.get k
  unfold putE putS
  cases hl : longB k v with
  | true =>
    simp only [if_true]
    exact (save_long b L S D _ w k v h1 hk hv hl).mono fun e w' hx => h.of_x hx rfl h2 h3
  | false =>
    simp only [Bool.false_eq_true, if_false]
    have hdl : (delL D k).length ≤ d := by
      have := delL_len h1.d.srt k
      omega
    cases hm : getL M k with
    | some u =>
      rw [if_neg (by simp), if_neg (by simp)]
      exact (save_old b L S D _ w k v h1 hk hv hl hroom u (by rw [← hg, hm])).mono fun e w' hx => h.of_x hx (by rw [putL_len h2.srt, hm]; simp) (h2.save k v) hdl
    | none =>
      by_cases hf : 512 ≤ M.length
      · rw [if_pos ⟨rfl, hf⟩, if_pos ⟨rfl, hf⟩]
        exact (save_full b L S D _ w k v h1 hk hv hl (by rw [← hg, hm]) (by omega) (by omega) (by omega) (by omega)).mono fun e w' hx => h.of_x hx rfl h2 h3
      · rw [if_neg (fun e => hf e.2), if_neg (fun e => hf e.2)]
        exact (save_new b L S D _ w k v h1 hk hv hl hroom (by rw [← hg, hm]) (by omega) (by omega) (by omega) (by omega)).mono fun e w' hx => h.of_x hx (by rw [putL_len h2.srt, hm]; simp; omega) (h2.save k v) hdl
theorem changes_i (sx : Nat) (b : TxB) (L M : Kvs) (d : Nat) (w : World) (h : SX sx b L M d w) (hM : M.length ≤ 512) (hd : (d + 1000) * 46 ≤ 140737488355328) :
    Calls Try.prog 20 #[.pointer (some ⟨b.xb, 0, none⟩)] w fun e w' => ∃ va n vc, e = .returned (.slice va n vc) ∧ Hid (∃ C, n = C.length ∧ C.length ≤ d + 512 ∧ Difs L M C ∧ w'.ownsRow w.heap.size 75 2 (.slice va n vc) n (cellsP C) ∧ Below w.heap.size w w') := by
  obtain ⟨S, D, h1, h2, h3⟩ := h.tx
  have hS := h2.lenS h1.s.srt
  refine (changes_any b L S D _ w h1 (Nat.le_trans (Nat.mul_le_mul (by omega : S.length + D.length + 2 ≤ d + 1000) (Nat.le_refl 46)) hd) sorts_pairs).mono ?_
  rintro e w1 ⟨v, C, rfl, hp, hso, hr, hT, hb⟩
  obtain ⟨va, vc, rfl, _⟩ := row_form hr
  have hlen := (difs_len (M := M) hp).2
  refine ⟨va, _, vc, rfl, hidb ⟨C, rfl, by omega, difs_of h2 h1.s.srt h1.d.srt hp hso, ?_, hb⟩⟩
  refine ⟨hr.1, ?_⟩
  rcases hr.2 with x | ⟨g, cap, cur, x1, x2, x3⟩
  · exact .inl x
  · exact .inr ⟨g, cap, cur, x1, by omega, x3⟩
theorem commit_i (sx : Nat) (b : TxB) (L M : Kvs) (d : Nat) (w : World) (h : SX sx b L M d w) (hL : L.length ≤ 512) (hM : M.length ≤ 512) (hd : (d + 2000) * 46 ≤ 140737488355328) (hsm : ∀ x ∈ M, x.1.length ≤ 281474976710656 ∧ x.2.length ≤ 281474976710656) :
    Calls Try.prog 17 #[.pointer (some ⟨b.xb, 0, none⟩)] w (SXEnd sx b M M 0 (.int .i64 0) w) := by
  obtain ⟨S, D, h1, h2, h3⟩ := h.tx
  have hS := h2.lenS h1.s.srt
  refine (commit_of sorts_pairs b L S D M _ w h1 h2 (Nat.le_trans (Nat.mul_le_mul (by omega : L.length + S.length + D.length + 4 ≤ d + 2000) (Nat.le_refl 46)) hd) (by omega) hM hsm).mono ?_
  rintro e w' ⟨e1, H⟩
  obtain ⟨g', sb', sg', wb', wg', hT, hg, l1, l2, l3, l4, hk⟩ := H.out
  have hl := heap_ltb h.box
  refine ⟨e1, hidb ⟨⟨b.xb, b.cb, b.tb, g', sb', sg', wb', wg'⟩, ⟨⟨[], [], by rw [show ((M.length : Int) - M.length) = 0 by omega]; exact hT, Shows.start h2.srt, Nat.le_refl _⟩, ?_, ?_⟩, rfl, rfl, ?_, hk.mono ?_⟩⟩
  · refine (hk.block sx hl ?_).trans h.box
    rintro (x | x | x) <;> exact h.nb _ (by simp [TxB.l]) x
  · intro i hi
    simp only [TxB.l, List.mem_cons, List.not_mem_nil, or_false] at hi
    rcases hi with rfl | rfl | rfl | rfl | rfl | rfl | rfl | rfl
    · exact h.nb _ (by simp [TxB.l])
    · exact h.nb _ (by simp [TxB.l])
    · exact h.nb _ (by simp [TxB.l])
    · exact ne_new hl (h.nb b.g (by simp [TxB.l])) hg
    · omega
    · omega
    · omega
    · omega
  · intro i hi
    simp only [TxB.l, List.mem_cons, List.not_mem_nil, or_false] at hi ⊢
    rcases hi with rfl | rfl | rfl | rfl | rfl | rfl | rfl | rfl
    · simp
    · simp
    · simp
    · rcases hg with x | x
      · simp [x]
      · exact .inr x
    · exact .inr l1
    · exact .inr l2
    · exact .inr l3
    · exact .inr l4
  · rintro i _ (x | x | x) <;> simp [TxB.l, x]
end Go.Proofs.Ytcjakgogdbfagaa
