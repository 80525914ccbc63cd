/- Layer 11: a transaction's growth. Layer 11: a transaction's Changes: the walk. Layer 11: a store's Scan: what it gathers. -/
import Derived.Test.YtcjakgogdbfagaaQV
import Derived.Deep.QuietTactic
import Derived.BigQuiet
namespace Go.Proofs.Ytcjakgogdbfagaa
open Go.RowKit
theorem cellsP_consK (x : Bt × Bt) (L : Kvs) : cellsP (x :: L) = sv x.1 :: sv x.2 :: cellsP L := rfl
theorem cellsP_at : ∀ (C : Kvs) (k : Nat) (h : k < C.length), (cellsP C)[k * 2]? = some (sv C[k].1) ∧ (cellsP C)[k * 2 + 1]? = some (sv C[k].2)
  | [], k, h => by simp at h
  | x :: C, 0, _ => by simp [cellsP_consK]
  | x :: C, k + 1, h => by
    have ih := cellsP_at C k (by simp at h; omega)
    rw [cellsP_consK, show (k + 1) * 2 = k * 2 + 1 + 1 by omega]
    simpa using ih
theorem row_pair {w : World} {B n : Nat} {va : Option Addr} {vc : Nat} {C : Kvs} (h : w.ownsRow B 75 2 (.slice va n vc) C.length (cellsP C)) {k : Nat} (hk : k < C.length) : ∃ g, va = some ⟨g, 0, none⟩ ∧ g < w.heap.size ∧ w.cell? ⟨g, k * 2, none⟩ = some (sv C[k].1) ∧ w.cell? ⟨g, k * 2 + 1, none⟩ = some (sv C[k].2) := by
  rcases h.2 with ⟨_, e⟩ | ⟨g, cap, cur, e, hb, hc, hn, hm, hs, ht⟩
  · omega
  · injection e with e1
    refine ⟨g, e1, heap_ltb hc, ?_, ?_⟩
    · have := (cellsP_at C k hk).1
      rw [← ht, List.getElem?_take_of_lt (by omega), Array.getElem?_toList] at this
      rw [Lib.cell_of_heap hc]
      exact this
    · have := (cellsP_at C k hk).2
      rw [← ht, List.getElem?_take_of_lt (by omega), Array.getElem?_toList] at this
      rw [Lib.cell_of_heap hc]
      exact this
theorem take_snocK {C : Kvs} {k : Nat} (h : k < C.length) : C.take (k + 1) = C.take k ++ [C[k]] := by
  rw [List.take_add_one, List.getElem?_eq_getElem h]
  rfl
set_option maxRecDepth 100000 in
set_option maxHeartbeats 1000000 in
theorem growth_any (b : TxB) (L S D : Kvs) (more : Int) (w : World) (h : TxAt b L S D more w) (B vc : Nat) (va : Option Addr) (C : Kvs) (hrow : w.ownsRow B 75 2 (.slice va C.length vc) C.length (cellsP C)) (hC : C.length ≤ 1000000000000000) :
    Calls Try.prog 42 #[.pointer (some ⟨b.xb, 0, none⟩), .slice va C.length vc] w fun e w' => e = .returned (.int .i64 (grN L D C)) ∧ Below w.heap.size w w' := by
  have HT := hidb h
  have HR := hidb hrow
  have HC : Hid (∃ n, n = C.length) := hidb ⟨_, rfl⟩
  clear h hrow
  obtain ⟨n, hn⟩ := HC.out
  have Hn := hidb hn
  rw [← hn] at HR hC ⊢
  clear hn HC
  go_enter Try.func42, Try.ntmps42
  go_wp2_with fail
  go_loopw [5, 10] (fun nv iv wr => ∃ k : Nat, iv = .int .i64 k ∧ k ≤ n ∧ nv = .int .i64 (grN L D (C.take k)) ∧ Below w.heap.size w wr) (fun _ iv _ => n - (intOf iv).toNat)
  case atStart => exact ⟨0, rfl, Nat.zero_le _, rfl, Below.refl _ _⟩
  case round =>
    obtain ⟨k, rfl, hk, rfl, hb⟩ := hrel
    by_cases hlt : k < n
    · have hkl : k < C.length := by rw [← Hn.out]; exact hlt
      have hr := HR.out
      rw [Hn.out] at hr
      obtain ⟨g, eg, hg, c0, c1⟩ := row_pair hr hkl
      have e0 : wr.cell? ⟨g, k * 2, none⟩ = some (sv C[k].1) := (hb.cell (p := ⟨g, k * 2, none⟩) hg).trans c0
      have e1 : wr.cell? ⟨g, k * 2 + 1, none⟩ = some (sv C[k].2) := (hb.cell (p := ⟨g, k * 2 + 1, none⟩) hg).trans c1
      rw [eg]
      clear eg c0 c1 hr
      have hT := HT.out.below hb
      have hbd := grN_bd L D (C.take k)
      rw [List.length_take_of_le (by omega)] at hbd
      have HS := hidb (grN_app L D (C.take k) C[k])
      rw [← take_snocK hkl] at HS
      generalize C[k] = x at e0 e1 HS
      obtain ⟨xa, xb⟩ := x
      simp only at e0 e1 HS
      generalize grN L D (C.take k) = gn at *
      have hb2 : Below w.heap.size w (wr.alloc (.cells #[sv xa, sv xb] 75)) := hb.alloc hb.size _
      have hTW := hT.below ((Below.refl wr.heap.size wr).alloc (Nat.le_refl _) (.cells #[sv xa, sv xb] 75))
      have hbx := Lib.cell_of_heap (heap_alloc_new wr (.cells #[sv xa, sv xb] 75)) 0
      go_wp2_with fail
      obtain ⟨W, hW⟩ : ∃ W, W = wr.alloc (.cells #[sv xa, sv xb] 75) := ⟨_, rfl⟩
      rw [← hW] at hbx hTW hb2 ⊢
      clear hW hT e0 e1
      have x0 := hTW.x0
      have x1 := hTW.x1
      have y1 := hTW.y1
      simp at hbx
      have HD := hidb fun M => has_t b.wb b.wg D (W.drewN M) xa (hTW.d.drewN M)
      have HL := hidb fun M => has_t b.tb b.g L (W.drewN M) xa (hTW.t.drewN M)
      have HT2 := hidb hTW.t
      have HB : Hid (∀ M, Below w.heap.size w (W.drewN M)) := hidb fun M => below_drewN hb2 M
      clear hTW hb2
      unfold gr1 at HS
      simp only at HS
      cases hd : getL D xa with
      | some u =>
        simp only [hd, Option.isSome_some, if_true] at HS HD
        go_quiet ((go_at_call 39; exact Calls.quiet_of (HD.out _)))
        go_wp2_with fail
        exact ⟨⟨k + 1, by go_num, by omega, by rw [HS.out]; go_num, HB.out _⟩, by simp [intOf]; omega⟩
      | none =>
        simp only [hd, Option.isSome_none, Bool.false_eq_true, if_false] at HS HD
        go_quiet ((go_at_call 39; exact Calls.quiet_of (HD.out _)))
        clear HD
        go_wp2_with fail
        obtain ⟨W2, hW2⟩ : ∃ W2, W2 = W.drewN nq := ⟨_, rfl⟩
        have z0 : W2.cell? ⟨b.xb, 0, none⟩ = some (.pointer (some ⟨b.tb, 0, none⟩)) := by rw [hW2]; exact x0
        have zb : W2.cell? ⟨wr.heap.size, 0, none⟩ = some (sv xa) := by rw [hW2]; exact hbx
        have HL2 := hidb fun M => has_t b.tb b.g L (W2.drewN M) xa (by rw [hW2]; exact (HT2.out.drewN nq).drewN M)
        have HB2 : Hid (∀ M, Below w.heap.size w (W2.drewN M)) := hidb fun M => by rw [hW2]; exact below_drewN (HB.out nq) M
        rw [← hW2]
        clear hW2 HL HB x0 x1 y1 hbx
        cases hl : getL L xa with
        | some u =>
          simp only [hl, Option.isSome_some, if_true] at HS HL2
          go_quiet ((go_at_call 39; exact Calls.quiet_of (HL2.out _)))
          go_wp2_with fail
          exact ⟨⟨k + 1, by go_num, by omega, by rw [HS.out]; simp, HB2.out _⟩, by simp [intOf]; omega⟩
        | none =>
          simp only [hl, Option.isSome_none, Bool.false_eq_true, if_false] at HS HL2
          go_quiet ((go_at_call 39; exact Calls.quiet_of (HL2.out _)))
          go_wp2_with fail
          exact ⟨⟨k + 1, by go_num, by omega, by rw [HS.out], HB2.out _⟩, by simp [intOf]; omega⟩
    · have htk : C.take k = C := List.take_of_length_le (by rw [← Hn.out]; omega)
      rw [htk]
      go_wp2_with fail
      go_ret
      exact ⟨rfl, hb⟩
end Go.Proofs.Ytcjakgogdbfagaa
namespace Go.Proofs.Ytcjakgogdbfagaa
open Go.RowKit Go.Shelf
attribute [local go_sem] Oper.semAt_some
theorem ChI.start {b : TxB} {L S D : Kvs} {more : Int} {w : World} (h : TxAt b L S D more w) : ChI b L S D more w.heap.size w [] ((w.alloc (.cells #[.pointer (some ⟨b.xb, 0, none⟩)] 27)).alloc (.cells #[.slice none 0 0] 47)) := by
  have hb : Below w.heap.size w ((w.alloc (.cells #[.pointer (some ⟨b.xb, 0, none⟩)] 27)).alloc (.cells #[.slice none 0 0] 47)) := ((Below.refl _ w).alloc (Nat.le_refl _) _).alloc (by simp) _
  refine ⟨h.below hb, h.lts, ?_, ⟨.slice none 0 0, ?_, World.ownsRow_nil _ _ _ _⟩, hb, by simp⟩
  · rw [Below.heap_alloc _ _ _ (by simp), heap_alloc_new]
  · have := heap_alloc_new (w.alloc (.cells #[.pointer (some ⟨b.xb, 0, none⟩)] 27)) (.cells #[.slice none 0 0] 47)
    rwa [World.size_alloc] at this
theorem ChI.below {b : TxB} {L S D : Kvs} {more : Int} {Z : Nat} {w W W' : World} {acc : Kvs} (h : ChI b L S D more Z w acc W) (k : Below W.heap.size W W') : ChI b L S D more Z w acc W' := by
  obtain ⟨v, v1, v2⟩ := h.bl
  have hs := h.siz
  exact ⟨h.tx.below k, h.lt, (k.block _ (by omega)).trans h.bt, ⟨v, (k.block _ (by omega)).trans v1, row_below2 v2 k⟩, h.bel.trans (k.mono (by omega)), Nat.le_trans hs k.size⟩
theorem ChI.facts {b : TxB} {L S D : Kvs} {more : Int} {Z : Nat} {w W : World} {acc : Kvs} (h : ChI b L S D more Z w acc W) : W.cell? ⟨Z, 0, none⟩ = some (.pointer (some ⟨b.xb, 0, none⟩)) ∧ W.cell? ⟨b.xb, 0, none⟩ = some (.pointer (some ⟨b.tb, 0, none⟩)) ∧ W.cell? ⟨b.xb, 1, none⟩ = some (.pointer (some ⟨b.cb, 0, none⟩)) ∧ W.cell? ⟨b.cb, 0, none⟩ = some (.pointer (some ⟨b.sb, 0, none⟩)) ∧ W.cell? ⟨b.cb, 1, none⟩ = some (.pointer (some ⟨b.wb, 0, none⟩)) :=
  ⟨Lib.cell_of_heap h.bt 0, h.tx.x0, h.tx.x1, h.tx.y0, h.tx.y1⟩
theorem fromL_nil (L : Kvs) : fromL L [] = L := List.filter_eq_self.2 fun x _ => by
  have : ¬ klt x.1 [] := by unfold klt; cases x.1 <;> simp [Op.bytesLess]
  simpa using this
theorem chgA_snoc (L pre : Kvs) (x : Bt × Bt) : chgA L (pre ++ [x]) = chgA L pre ++ (if getL L x.1 ≠ some x.2 then [x] else []) := by
  unfold chgA
  rw [List.filter_append]
  congr 1
  by_cases h : getL L x.1 = some x.2 <;> simp [h]
end Go.Proofs.Ytcjakgogdbfagaa
namespace Go.Proofs.Ytcjakgogdbfagaa
open Go.RowKit Go.Shelf
def ltB (a b : Bt) : Bool := decide (klt a b)
/-- The pairs ahead of a key, all if it is empty. -/
def cutL (tk : Bt) (X : Kvs) : Kvs := if tk = [] then X else X.takeWhile fun x => ltB x.1 tk
/-- What Scan answers. -/
def scanL (L : Kvs) (fr tk : Bt) (m : Int) : Kvs := if m = 0 then cutL tk (fromL L fr) else (cutL tk (fromL L fr)).take m.toNat
/-- A pair is told. -/
def inB (tk : Bt) (x : Bt × Bt) : Bool := tk.isEmpty || ltB x.1 tk
theorem cutL_eq (tk : Bt) (X : Kvs) : cutL tk X = X.takeWhile (inB tk) := by
  unfold cutL inB
  split
  · rename_i e
    subst e
    simp only [List.isEmpty_nil, Bool.true_or]
    induction X with
    | nil => rfl
    | cons x X ih => rw [List.takeWhile_cons, if_pos rfl, ← ih]
  · rename_i e
    have : tk.isEmpty = false := by cases tk; exact absurd rfl e; rfl
    rw [this]
    simp
theorem takeWhile_stop {p : Bt × Bt → Bool} {pre X : Kvs} {x : Bt × Bt} (h : pre ++ [x] <+: X) (hp : ∀ y ∈ pre, p y = true) (hx : p x = false) : X.takeWhile p = pre := by
  obtain ⟨t, rfl⟩ := h
  rw [List.append_assoc, List.takeWhile_append_of_pos hp]
  simp [hx]
theorem takeWhile_all {p : Bt × Bt → Bool} {X : Kvs} (hp : ∀ y ∈ X, p y = true) : X.takeWhile p = X := by
  have := List.takeWhile_append_of_pos (l₂ := []) hp
  simpa using this
theorem takeWhile_pre {p : Bt × Bt → Bool} {pre X : Kvs} (h : pre <+: X) (hp : ∀ y ∈ pre, p y = true) : (X.takeWhile p).take pre.length = pre := by
  obtain ⟨t, rfl⟩ := h
  rw [List.takeWhile_append_of_pos hp]
  simp
/-- The loop was left at a key that is not told. -/
theorem scan_stop {L : Kvs} {fr tk : Bt} {m : Int} {pre : Kvs} {x : Bt × Bt} (h : pre ++ [x] <+: fromL L fr) (hp : ∀ y ∈ pre, inB tk y = true) (hx : inB tk x = false) (hm : m = 0 ∨ (pre.length : Int) ≤ m) : scanL L fr tk m = pre := by
  unfold scanL
  rw [cutL_eq, takeWhile_stop h hp hx]
  split
  · rfl
  · rename_i e
    rw [List.take_of_length_le]
    rcases hm with e2 | e2
    · exact absurd e2 e
    · omega
/-- The loop was left as there are enough. -/
theorem scan_full {L : Kvs} {fr tk : Bt} {m : Int} {pre : Kvs} (h : pre <+: fromL L fr) (hp : ∀ y ∈ pre, inB tk y = true) (hm : (pre.length : Int) = m) (h0 : m ≠ 0) : scanL L fr tk m = pre := by
  unfold scanL
  rw [cutL_eq, if_neg h0, show m.toNat = pre.length by omega, takeWhile_pre h hp]
theorem scan_done {L : Kvs} {fr tk : Bt} {m : Int} (hp : ∀ y ∈ fromL L fr, inB tk y = true) (hm : m = 0 ∨ ((fromL L fr).length : Int) ≤ m) : scanL L fr tk m = fromL L fr := by
  unfold scanL
  rw [cutL_eq, takeWhile_all hp]
  split
  · rfl
  · rename_i e
    rw [List.take_of_length_le]
    rcases hm with e2 | e2
    · exact absurd e2 e
    · omega
/-- While the pairs are gathered: the boxes of tk and most at Z, Z + 1, the list's at Z + 2. -/
structure ScI (sb tb g : Nat) (L : Kvs) (tk : Bt) (m : Int) (Z : Nat) (w : World) (acc : Kvs) (W : World) : Prop where
  st : StAt sb tb g L W
  lt : sb < Z ∧ tb < Z ∧ g < Z
  b0 : W.heap[Z]? = some (.cells #[sv tk] 9 (0, 0))
  b1 : W.heap[Z + 1]? = some (.cells #[.int .i64 m] 3 (0, 0))
  bl : ∃ v, W.heap[Z + 2]? = some (.cells #[v] 47 (0, 0)) ∧ W.ownsRow (Z + 3) 75 2 v acc.length (cellsP acc)
  bel : Below Z w W
  siz : Z + 3 ≤ W.heap.size
section
variable {sb tb g : Nat} {L : Kvs} {tk : Bt} {m : Int} {Z : Nat} {w : World}
theorem ScI.own {B : Nat} (hB : Z + 3 ≤ B) : OwnFrom B (fun acc W => ScI sb tb g L tk m Z w acc W) := by
  intro acc W W' row h hg hr
  have key : ∀ i < B, i < W.heap.size → W'.heap[i]? = W.heap[i]? := fun i hi hs => hg.block i hs fun e => by have := (hr i e.symm).1; omega
  obtain ⟨v, v1, v2⟩ := h.bl
  have hs := h.siz
  have hl := h.lt
  refine ⟨h.st.keep (key _ (by omega) (by omega)) (key _ (by omega) (by omega)) (key _ (by omega) (by omega)), h.lt, (key _ (by omega) (by omega)).trans h.b0, (key _ (by omega) (by omega)).trans h.b1, ⟨v, (key _ (by omega) (by omega)).trans v1, ?_⟩, ?_, Nat.le_trans hs hg.size⟩
  · refine World.ownsRow.kept v2 hg ?_
    cases e : v.ownBlock with
    | none => exact .inl rfl
    | some g =>
      right
      intro e2
      obtain ⟨_, o, ho, hc⟩ := row_cells v2 g e
      obtain ⟨_, o', ho', hc'⟩ := hr g e2.symm
      rw [ho] at ho'
      cases ho'
      rw [hc] at hc'
      cases hc'
  · exact h.bel.trans ⟨hg.os, hg.tape, hg.output, hg.size, fun i hi => key i (by omega) (by omega)⟩
theorem ScI.below {W W' : World} {acc : Kvs} (h : ScI sb tb g L tk m Z w acc W) (k : Below W.heap.size W W') : ScI sb tb g L tk m Z w acc W' := by
  obtain ⟨v, v1, v2⟩ := h.bl
  have hs := h.siz
  exact ⟨h.st.below k, h.lt, (k.block _ (by omega)).trans h.b0, (k.block _ (by omega)).trans h.b1, ⟨v, (k.block _ (by omega)).trans v1, row_below2 v2 k⟩, h.bel.trans (k.mono (by omega)), Nat.le_trans hs k.size⟩
/-- One pair more. -/
theorem ScI.push {W w6 : World} {acc : Kvs} {x : Bt × Bt} {v v' : Value} {o : Obj} (h : ScI sb tb g L tk m Z w acc W) (h1 : W.heap[Z + 2]? = some (.cells #[v] 47 (0, 0))) (h2 : W.ownsRow (Z + 3) 75 2 v acc.length (cellsP acc)) (hr : w6.ownsRow (Z + 3) 75 2 v' (acc.length + 1) (cellsP acc ++ [sv x.1, sv x.2])) (hs : Step (W.alloc o) v w6 v') :
    (w6.cell? ⟨Z + 2, 0, none⟩ = some v ∧ w6.frozen? ⟨Z + 2, 0, none⟩ = false ∧ ∃ a n c, v' = .slice a n c) ∧ ScI sb tb g L tk m Z w (acc ++ [x]) (w6.setCell ⟨Z + 2, 0, none⟩ v') ∧ (∀ B, KeepsFrom B W (w6.setCell ⟨Z + 2, 0, none⟩ v')) ∧ (∀ i, i < W.heap.size → i ≠ Z + 2 → v.ownBlock ≠ some i → (w6.setCell ⟨Z + 2, 0, none⟩ v').heap[i]? = W.heap[i]?) := by
  have hsz := h.siz
  have hl := h.lt
  have hgr : ∀ g, v.ownBlock = some g → Z + 3 ≤ g := fun g e => (row_cells h2 g e).1
  have blk : ∀ i, i < W.heap.size → i < Z + 3 → w6.heap[i]? = W.heap[i]? := fun i hi hz => (hs.1.block i (by simp; omega) fun e => by have := hgr i e.symm; omega).trans (Below.heap_alloc _ _ _ hi)
  have hb := (blk (Z + 2) (by omega) (by omega)).trans h1
  have blk2 : ∀ i, i < W.heap.size → i ≠ Z + 2 → i < Z + 3 → (w6.setCell ⟨Z + 2, 0, none⟩ v').heap[i]? = W.heap[i]? := fun i hi hn hz => (Below.heap_setCell _ _ _ _ hn).trans (blk i hi hz)
  obtain ⟨a6, c6, e6, _⟩ := row_form hr
  have hw6 : W.heap.size ≤ w6.heap.size := by have := hs.1.size; simp at this; omega
  refine ⟨⟨by rw [Lib.cell_of_heap hb]; rfl, Lib.frozen_of_heap hb 0, _, _, _, e6⟩, ⟨h.st.keep (blk2 _ (by omega) (by omega) (by omega)) (blk2 _ (by omega) (by omega) (by omega)) (blk2 _ (by omega) (by omega) (by omega)), h.lt, (blk2 _ (by omega) (by omega) (by omega)).trans h.b0, (blk2 _ (by omega) (by omega) (by omega)).trans h.b1, ⟨v', by rw [heap_setCell_same _ _ _ _ _ _ hb]; rfl, ?_⟩, ?_, ?_⟩, ?_, fun i hi hn hv => (Below.heap_setCell _ _ _ _ hn).trans ((hs.1.block i (by simp; omega) (fun e => hv e.symm)).trans (Below.heap_alloc _ _ _ hi))⟩
  · rw [List.length_append, List.length_singleton, cellsP_app]
    refine World.ownsRow.kept (w' := w6.setCell ⟨Z + 2, 0, none⟩ v') (row := some (Z + 2)) (by simpa [cellsP] using hr) (grownBy_setCell' _ _ _) ?_
    cases e : v'.ownBlock with
    | none => exact .inl rfl
    | some g => right; intro e2; injection e2 with e2; have := (row_cells hr g e).1; omega
  · exact h.bel.trans ⟨hs.1.os, hs.1.tape, hs.1.output, by rw [World.size_setCell]; exact hw6, fun i hi => blk2 i (by omega) (by omega) (by omega)⟩
  · rw [World.size_setCell]; omega
  · intro B
    refine ⟨by rw [World.size_setCell]; exact hw6, fun k o' _ hk ho => ?_⟩
    have hkl := heap_ltb hk
    rw [Below.heap_setCell _ _ _ _ (fun e => by subst e; rw [h1] at hk; cases hk; cases ho)]
    rw [hs.1.block k (by simp; omega) (fun e => ?_), Below.heap_alloc _ _ _ hkl]
    · exact hk
    · obtain ⟨_, o2, ho2, hc2⟩ := row_cells h2 k e.symm
      rw [ho2] at hk
      cases hk
      rw [hc2] at ho
      cases ho
theorem ScI.start (h : StAt sb tb g L w) : ScI sb tb g L tk m w.heap.size w [] (((w.alloc (.cells #[sv tk] 9)).alloc (.cells #[.int .i64 m] 3)).alloc (.cells #[.slice none 0 0] 47)) := by
  have hb : Below w.heap.size w (((w.alloc (.cells #[sv tk] 9)).alloc (.cells #[.int .i64 m] 3)).alloc (.cells #[.slice none 0 0] 47)) := (((Below.refl _ w).alloc (Nat.le_refl _) _).alloc (by simp) _).alloc (by simp; omega) _
  refine ⟨h.below hb, h.lts, ?_, ?_, ⟨.slice none 0 0, ?_, World.ownsRow_nil _ _ _ _⟩, hb, by simp⟩
  · rw [Below.heap_alloc _ _ _ (by simp; omega), Below.heap_alloc _ _ _ (by simp), heap_alloc_new]
  · rw [Below.heap_alloc _ _ _ (by simp)]
    have := heap_alloc_new (w.alloc (.cells #[sv tk] 9)) (.cells #[.int .i64 m] 3)
    rwa [World.size_alloc] at this
  · have := heap_alloc_new ((w.alloc (.cells #[sv tk] 9)).alloc (.cells #[.int .i64 m] 3)) (.cells #[.slice none 0 0] 47)
    rwa [World.size_alloc, World.size_alloc] at this
theorem ScI.facts {W : World} {acc : Kvs} (h : ScI sb tb g L tk m Z w acc W) : W.cell? ⟨Z, 0, none⟩ = some (sv tk) ∧ W.cell? ⟨Z + 1, 0, none⟩ = some (.int .i64 m) ∧ W.cell? ⟨sb, 0, none⟩ = some (.pointer (some ⟨tb, 0, none⟩)) :=
  ⟨Lib.cell_of_heap h.b0 0, Lib.cell_of_heap h.b1 0, h.st.c⟩
end
end Go.Proofs.Ytcjakgogdbfagaa
