/- The check 'knows' that every law of layer 1 ends with answers true. Layer 11: a store's Bytes: what is written. -/
import Derived.Test.YtcjakgogdbfagaaWD
import Derived.Test.YtcjakgogdbfagaaWF
import Derived.Test.YtcjakgogdbfagaaKI
namespace Go.Proofs.Ytcjakgogdbfagaa
open Go.RowKit

theorem run_str {w : World} {ao : Option Addr} {bs : List UInt8} (h : Bs w ao bs) (cap : Nat) : (convert 51 9 (.slice ao bs.length cap)).run Try.prog w = .ok (.string ⟨bs.toArray⟩) w := by
  have nums : ∀ l : List UInt8, strOfNums (l.map fun b => (b.toNat : Int)) = ⟨l.toArray⟩ := fun l => by
    unfold strOfNums
    rw [List.map_map]
    congr 2
    conv => rhs; rw [← List.map_id l]
    apply List.map_congr_left
    intro b _
    simp
  rcases h with rfl | ⟨b, off, rfl, hc⟩
  · cases ao with
    | none => exact run_convert_bytes_nil w 51 5 Try.underlying51 Try.underlying5 0 cap 9 Try.underlying9
    | some a =>
      rw [run_convert_bytes_string w 51 9 5 _ _ cap Try.underlying51 Try.underlying5 Try.underlying9]
      exact (run_bytesToString w a 0 cap [] (by simp [loadCells, loadCellsFrom])).trans rfl
  · rw [run_convert_bytes_arg w 51 5 Try.underlying51 Try.underlying5 b off bs.length cap (bs.map fun b => (b.toNat : Int)) (by simp) (fun i hi => by rw [hc i hi]; simp [List.getD, hi]) 9 Try.underlying9, nums]

theorem Own.chg {w w' : World} {base : Nat} {e : TypeId} {v : Value} {xs : List Value} {S : Nat → Prop} (h : Own w base e v xs) (k : Chg w w' S) (hv : ∀ g, v.ownBlock = some g → ¬ S g) : Own w' base e v xs := by
  refine ⟨h.1, ?_⟩
  rcases h.2 with h2 | ⟨g, cap, cur, rfl, hg, hh, r⟩
  · exact .inl h2
  · exact .inr ⟨g, cap, cur, rfl, hg, by rw [k.block g (lt_of_block hh) (hv g rfl)]; exact hh, r⟩
theorem WStep.below {h : Nat} {w w' : World} {v v' : Value} (s : WStep h w v w' v') {B : Nat} (hB : B ≤ w.heap.size) (hh : B ≤ h) (hv : ∀ k, v.ownBlock = some k → B ≤ k) : Below B w w' :=
  s.1.below hB (fun i hi => by rcases hi with e | e
                               · omega
                               · exact hv i e)

/-- A call with one int, one text. -/
theorem int_one (p h base B : Nat) (v : Value) (bs : List UInt8) (x : Int) (w : World) (hB : w.heap.size = B) (H : WrE w p h v 0) (hO : OwnB w base v bs) (hbase : base ≤ w.heap.size) (hroom : bs.length + 8 ≤ 1048576) :
    Calls Try.prog 48 #[.pointer (some ⟨p, 0, none⟩), .slice (some ⟨B, 0, none⟩) 1 1] (w.alloc (.cells #[.int .i64 x] 3)) fun e w' => ∃ v', e = .returned (.int .i64 0) ∧ WrE w' p h v' 0 ∧ OwnB w' base v' (bs ++ be64 x) ∧ WStep h w v w' v' := by
  subst hB
  have hnew : ¬ WSet h v w.heap.size := fun e => by
    rcases e with e | e
    · have := lt_of_block H.hh; omega
    · have := (hO.lt _ e).2; omega
  refine (int_ok p h base v bs (some ⟨w.heap.size, 0, none⟩) 1 1 [x] _ (H.chg (Chg.alloc w _ (fun _ => False)) id id) (Own.alloc hO _) (by simp; omega) (by omega) rfl (fun w' hc => .inr ⟨w.heap.size, 0, rfl, fun j hj => ?_⟩) (by omega)).mono ?_
  · obtain rfl : j = 0 := by simp at hj; omega
    exact hc.cell (new_cell w _ _ 0 _ rfl) hnew
  · rintro e w' ⟨v', rfl, H', hO', hs⟩
    refine ⟨v', rfl, H', ?_, (WStep.alloc h w v _).trans hs⟩
    have e : ints [x] = be64 x := by simp [ints]
    rw [← e]; exact hO'
theorem text_one (p h base B : Nat) (v : Value) (bs : List UInt8) (x : List UInt8) (w : World) (hB : w.heap.size = B) (H : WrE w p h v 0) (hO : OwnB w base v bs) (hbase : base ≤ w.heap.size) (hx : x.length ≤ 65535) (hroom : bs.length + (2 + x.length) ≤ 1048576) :
    Calls Try.prog 49 #[.pointer (some ⟨p, 0, none⟩), .slice (some ⟨B, 0, none⟩) 1 1] (w.alloc (.cells #[.string ⟨x.toArray⟩] 9)) fun e w' => ∃ v', e = .returned (.int .i64 0) ∧ WrE w' p h v' 0 ∧ OwnB w' base v' (bs ++ text x) ∧ WStep h w v w' v' := by
  subst hB
  have hnew : ¬ WSet h v w.heap.size := fun e => by
    rcases e with e | e
    · have := lt_of_block H.hh; omega
    · have := (hO.lt _ e).2; omega
  have e : texts [x] = text x := by simp [texts]
  refine (text_ok p h base v bs (some ⟨w.heap.size, 0, none⟩) 1 1 [x] _ (H.chg (Chg.alloc w _ (fun _ => False)) id id) (Own.alloc hO _) (by simp; omega) (by omega) rfl (by decide) (fun w' hc => .inr ⟨w.heap.size, 0, rfl, fun j hj => ?_⟩) (fun j hj => ?_) (by rw [e, text_length]; omega)).mono ?_
  · obtain rfl : j = 0 := by simp at hj; omega
    exact hc.cell (new_cell w _ _ 0 _ rfl) hnew
  · obtain rfl : j = 0 := by simp at hj; omega
    exact hx
  · rintro e' w' ⟨v', rfl, H', hO', hs⟩
    refine ⟨v', rfl, H', ?_, (WStep.alloc h w v _).trans hs⟩
    rw [← e]; exact hO'

theorem firstOf_empty : firstOf (frameOf []) = some [] := by decide +kernel
theorem framesOf_empty : framesOf (frameOf []) = ([[]], 8) := by
  rw [framesOf_some firstOf_empty]
  have e : (frameOf []).drop (8 + ([] : List UInt8).length) = [] := List.drop_eq_nil_of_le (by simp [frameOf, be_length])
  rw [e, framesOf_none (by rfl)]
  rfl

end Go.Proofs.Ytcjakgogdbfagaa
namespace Go.Proofs.Ytcjakgogdbfagaa
open Go.RowKit Go.Shelf
/-- A pair as bytes; a store as bytes. -/
def pairB (x : Bt × Bt) : List UInt8 := texts [x.1, x.2]
def stB (L : Kvs) : List UInt8 := ints [(L.length : Int)] ++ L.flatMap pairB
theorem pairB_len (x : Bt × Bt) : (pairB x).length = 4 + x.1.length + x.2.length := by
  simp [pairB, texts, text_length]
  omega
theorem flatB_le : ∀ {L : Kvs}, (∀ x ∈ L, x.1.length ≤ 32 ∧ x.2.length ≤ 256) → (L.flatMap pairB).length ≤ L.length * 292
  | [], _ => by simp
  | x :: L, h => by
    have h1 := flatB_le (L := L) fun y hy => h y (by simp [hy])
    have h2 := h x (by simp)
    have h3 := pairB_len x
    rw [List.flatMap_cons, List.length_append, List.length_cons]
    omega
theorem flatB_pre {pre L : Kvs} (h : pre <+: L) : (pre.flatMap pairB).length ≤ (L.flatMap pairB).length := by
  obtain ⟨t, rfl⟩ := h
  rw [List.flatMap_append, List.length_append]
  omega
/-- While the pairs are written: the Writer's blocks at Z, Z + 1, its box at Z + 2. -/
structure BWI (sb tb g : Nat) (L : Kvs) (Z : Nat) (w : World) (bs : List UInt8) (W : World) : Prop where
  st : StAt sb tb g L W
  lt : sb < Z ∧ tb < Z ∧ g < Z
  wr : ∃ v, WrE W (Z + 1) Z v 0 ∧ OwnB W (Z + 3) v bs
  bx : W.heap[Z + 2]? = some (.cells #[.pointer (some ⟨Z + 1, 0, none⟩)] 81 (0, 0))
  bel : Below Z w W
  siz : Z + 3 ≤ W.heap.size
section
variable {sb tb g : Nat} {L : Kvs} {Z : Nat} {w : World}
theorem BWI.own {B : Nat} (hB : Z + 3 ≤ B) : OwnFrom B (fun bs W => BWI sb tb g L Z w bs W) := by
  intro bs W W' row h hg hr
  have key : ∀ i < B, i < W.heap.size → W'.heap[i]? = W.heap[i]? := fun i hi hs => hg.block i hs fun e => by have := (hr i e.symm).1; omega
  obtain ⟨v, v1, v2⟩ := h.wr
  have hs := h.siz
  have hl := h.lt
  refine ⟨h.st.keep (key _ (by omega) (by omega)) (key _ (by omega) (by omega)) (key _ (by omega) (by omega)), h.lt, ⟨v, ⟨(key _ (by omega) (by omega)).trans v1.hp, (key _ (by omega) (by omega)).trans v1.hh⟩, ?_⟩, (key _ (by omega) (by omega)).trans h.bx, ?_, Nat.le_trans hs hg.size⟩
  · refine Own.kept v2 hg ?_
    cases e : v.ownBlock with
    | none => exact .inl rfl
    | some g =>
      right
      intro e2
      obtain ⟨_, o, ho, hc⟩ := row_cells v2 g e
      obtain ⟨_, o', ho', hc'⟩ := hr g e2.symm
      rw [ho] at ho'
      cases ho'
      rw [hc] at hc'
      cases hc'
  · exact h.bel.trans ⟨hg.os, hg.tape, hg.output, hg.size, fun i hi => key i (by omega) (by omega)⟩
theorem BWI.below {W W' : World} {bs : List UInt8} (h : BWI sb tb g L Z w bs W) (k : Below W.heap.size W W') : BWI sb tb g L Z w bs W' := by
  obtain ⟨v, v1, v2⟩ := h.wr
  have hs := h.siz
  exact ⟨h.st.below k, h.lt, ⟨v, ⟨(k.block _ (by omega)).trans v1.hp, (k.block _ (by omega)).trans v1.hh⟩, Own.below v2 k⟩, (k.block _ (by omega)).trans h.bx, h.bel.trans (k.mono (by omega)), Nat.le_trans hs k.size⟩
/-- The Writer wrote. -/
theorem BWI.step {W W' : World} {bs bs' : List UInt8} {v v' : Value} (h : BWI sb tb g L Z w bs W) (hO : OwnB W (Z + 3) v bs) (H' : WrE W' (Z + 1) Z v' 0) (hO' : OwnB W' (Z + 3) v' bs') (hs : WStep Z W v W' v') :
    BWI sb tb g L Z w bs' W' ∧ (∀ B, KeepsFrom B W W') ∧ (∀ i, i < W.heap.size → i ≠ Z → v.ownBlock ≠ some i → W'.heap[i]? = W.heap[i]?) := by
  have hsz := h.siz
  have hl := h.lt
  have hgr : ∀ q, v.ownBlock = some q → Z + 3 ≤ q := fun q e => (hO.lt q e).1
  have blk : ∀ i, i < W.heap.size → i ≠ Z → v.ownBlock ≠ some i → W'.heap[i]? = W.heap[i]? := fun i hi hn hv => hs.1.block i hi fun e => e.elim hn hv
  have low : ∀ i, i < Z + 3 → i ≠ Z → W'.heap[i]? = W.heap[i]? := fun i hi hn => blk i (by omega) hn fun e => by have := hgr i e; omega
  obtain ⟨v0, w0, _⟩ := h.wr
  refine ⟨⟨h.st.keep (low _ (by omega) (by omega)) (low _ (by omega) (by omega)) (low _ (by omega) (by omega)), h.lt, ⟨v', H', hO'⟩, (low _ (by omega) (by omega)).trans h.bx, ?_, Nat.le_trans hsz hs.1.size⟩, fun B => ⟨hs.1.size, fun k o _ hk ho => ?_⟩, blk⟩
  · exact h.bel.trans ⟨hs.1.os, hs.1.tape, hs.1.output, hs.1.size, fun i hi => low i (by omega) (by omega)⟩
  · refine (blk k (heap_ltb hk) (fun e => ?_) (fun e => ?_)).trans hk
    · subst e
      rw [w0.hh] at hk
      cases hk
      cases ho
    · obtain ⟨_, o2, ho2, hc2⟩ := row_cells hO k e
      rw [ho2] at hk
      cases hk
      rw [hc2] at ho
      cases ho
theorem BWI.facts {W : World} {bs : List UInt8} (h : BWI sb tb g L Z w bs W) : W.cell? ⟨Z + 2, 0, none⟩ = some (.pointer (some ⟨Z + 1, 0, none⟩)) ∧ W.cell? ⟨sb, 0, none⟩ = some (.pointer (some ⟨tb, 0, none⟩)) := ⟨Lib.cell_of_heap h.bx 0, h.st.c⟩
/-- A pair is written. -/
theorem BWI.text {W : World} {bs : List UInt8} (h : BWI sb tb g L Z w bs W) (x : Bt × Bt) (hx : x.1.length ≤ 65535 ∧ x.2.length ≤ 65535) (hroom : bs.length + (pairB x).length ≤ 1048576) :
    Calls Try.prog 49 #[.pointer (some ⟨Z + 1, 0, none⟩), .slice (some ⟨W.heap.size, 0, none⟩) 2 2] (W.alloc (.cells #[sv x.1, sv x.2] 9)) fun e w' => e = .returned (.int .i64 0) ∧ Hid (BWI sb tb g L Z w (bs ++ pairB x) w' ∧ (∀ B, KeepsFrom B W w') ∧ ∃ v, OwnB W (Z + 3) v bs ∧ ∀ i, i < W.heap.size → i ≠ Z → v.ownBlock ≠ some i → w'.heap[i]? = W.heap[i]?) := by
  have hb : Below W.heap.size W (W.alloc (.cells #[sv x.1, sv x.2] 9)) := (Below.refl _ W).alloc (Nat.le_refl _) _
  have h1 := h.below hb
  obtain ⟨v, w1, o1⟩ := h.wr
  have o2 : OwnB (W.alloc (.cells #[sv x.1, sv x.2] 9)) (Z + 3) v bs := Own.below o1 hb
  have w2 : WrE (W.alloc (.cells #[sv x.1, sv x.2] 9)) (Z + 1) Z v 0 := ⟨(hb.block _ (by have := h.siz; omega)).trans w1.hp, (hb.block _ (by have := h.siz; omega)).trans w1.hh⟩
  have hnew := heap_alloc_new W (.cells #[sv x.1, sv x.2] 9)
  have hsz := h.siz
  refine (text_ok (Z + 1) Z (Z + 3) v bs (some ⟨W.heap.size, 0, none⟩) 2 2 [x.1, x.2] _ w2 o2 (by simp; omega) (by omega) rfl (by decide) (fun w' hc => ?_) (fun j hj => ?_) ?_).mono ?_
  · refine .inr ⟨W.heap.size, 0, rfl, fun j hj => ?_⟩
    have hk : w'.heap[W.heap.size]? = some (.cells #[sv x.1, sv x.2] 9 (0, 0)) := by
      refine (hc.block _ (by simp) fun e => ?_).trans hnew
      rcases e with e | e
      · omega
      · have := (o1.lt _ e).2; omega
    rw [Lib.cell_of_heap hk]
    have : j = 0 ∨ j = 1 := by simp at hj; omega
    rcases this with rfl | rfl <;> rfl
  · have : j = 0 ∨ j = 1 := by simp at hj; omega
    rcases this with rfl | rfl
    · exact hx.1
    · exact hx.2
  · show (pairB x).length ≤ _
    omega
  · rintro e w' ⟨v', rfl, H', hO', hs⟩
    obtain ⟨q1, q2, q3⟩ := h1.step o2 H' hO' hs
    refine ⟨rfl, hidb ⟨q1, fun B => ⟨Nat.le_trans hb.size (q2 B).size, fun k o hk hko ho => (q2 B).same k o hk ((hb.block k (heap_ltb hko)).trans hko) ho⟩, v, o1, fun i hi hn hv => (q3 i (Nat.lt_of_lt_of_le hi hb.size) hn hv).trans (hb.block i hi)⟩⟩
/-- The Writer is made, and the count written. -/
theorem BWI.start (h : StAt sb tb g L w) {W : World} (hW : W = ((w.alloc (.cells #[.slice none 0 0, .int .i64 0] 102)).alloc (.cells #[.pointer (some ⟨w.heap.size, 0, none⟩)] 104)).alloc (.cells #[.pointer (some ⟨w.heap.size + 1, 0, none⟩)] 81)) : BWI sb tb g L w.heap.size w [] W := by
  have hb : Below w.heap.size w W := by
    rw [hW]
    exact (((Below.refl _ w).alloc (Nat.le_refl _) _).alloc (by simp) _).alloc (by simp; omega) _
  have hwr := newWriter_wr w
  obtain ⟨W2, hW2⟩ : ∃ W2, W2 = (w.alloc (.cells #[.slice none 0 0, .int .i64 0] 102)).alloc (.cells #[.pointer (some ⟨w.heap.size, 0, none⟩)] 104) := ⟨_, rfl⟩
  rw [← hW2] at hwr hW
  have hs2 : W2.heap.size = w.heap.size + 2 := by rw [hW2]; simp
  have hb2 : Below W2.heap.size W2 W := by rw [hW]; exact (Below.refl _ W2).alloc (Nat.le_refl _) _
  refine ⟨h.below hb, h.lts, ⟨.slice none 0 0, ⟨(hb2.block _ (by omega)).trans hwr.hp, (hb2.block _ (by omega)).trans hwr.hh⟩, Own.nil _ _ _⟩, ?_, hb, by have := hb2.size; rw [hW]; simp; omega⟩
  have := heap_alloc_new W2 (.cells #[.pointer (some ⟨w.heap.size + 1, 0, none⟩)] 81)
  rw [hs2] at this
  rw [hW]
  exact this
theorem BWI.int {W : World} {bs : List UInt8} (h : BWI sb tb g L Z w bs W) (x : Int) (hroom : bs.length + 8 ≤ 1048576) :
    Calls Try.prog 48 #[.pointer (some ⟨Z + 1, 0, none⟩), .slice (some ⟨W.heap.size, 0, none⟩) 1 1] (W.alloc (.cells #[.int .i64 x] 3)) fun e w' => e = .returned (.int .i64 0) ∧ Hid (BWI sb tb g L Z w (bs ++ ints [x]) w') := by
  have hb : Below W.heap.size W (W.alloc (.cells #[.int .i64 x] 3)) := (Below.refl _ W).alloc (Nat.le_refl _) _
  have h1 := h.below hb
  obtain ⟨v, w1, o1⟩ := h.wr
  have o2 : OwnB (W.alloc (.cells #[.int .i64 x] 3)) (Z + 3) v bs := Own.below o1 hb
  have w2 : WrE (W.alloc (.cells #[.int .i64 x] 3)) (Z + 1) Z v 0 := ⟨(hb.block _ (by have := h.siz; omega)).trans w1.hp, (hb.block _ (by have := h.siz; omega)).trans w1.hh⟩
  have hnew := heap_alloc_new W (.cells #[.int .i64 x] 3)
  have hsz := h.siz
  refine (int_ok (Z + 1) Z (Z + 3) v bs (some ⟨W.heap.size, 0, none⟩) 1 1 [x] _ w2 o2 (by simp; omega) (by omega) rfl (fun w' hc => ?_) (by omega)).mono ?_
  · refine .inr ⟨W.heap.size, 0, rfl, fun j hj => ?_⟩
    have hk : w'.heap[W.heap.size]? = some (.cells #[.int .i64 x] 3 (0, 0)) := by
      refine (hc.block _ (by simp) fun e => ?_).trans hnew
      rcases e with e | e
      · omega
      · have := (o1.lt _ e).2; omega
    rw [Lib.cell_of_heap hk]
    have : j = 0 := by simp at hj; omega
    subst this
    rfl
  · rintro e w' ⟨v', rfl, H', hO', hs⟩
    exact ⟨rfl, hidb (h1.step o2 H' hO' hs).1⟩
end
end Go.Proofs.Ytcjakgogdbfagaa
