/- Layer 16: the boxes of tell while parts are told. Layer 16: what holds while parts are told. -/
import Derived.Test.YthmjejmignangaaGreatDoorJI
namespace Go.Proofs.YthmjejmignangaaGreatDoor
open Go.RowKit
/-- The boxes: records at Z, end at Z + 1, record at Z + 2, ahead at Z + 3; what they lead to lies behind them. -/
structure TB (Z : Nat) (s : TSt) (rv : Value) (cs : List Value) (cv : Value) (W : World) : Prop where
  b0 : W.heap[Z]? = some (.cells #[rv] 23 (0, 0))
  r0 : Own W (Z + 5) 29 rv cs
  lc : cs.length = s.rs.length
  each : ∀ (j : Nat) (c : Value) (r : Bt), cs[j]? = some c → s.rs[j]? = some r → Own W (Z + 5) 5 c (r.map bv)
  b1 : W.heap[Z + 1]? = some (.cells #[.int .i64 s.en] 3 (0, 0))
  b2 : W.heap[Z + 2]? = some (.cells #[cv] 29 (0, 0))
  c0 : Own W (Z + 5) 5 cv (s.rc.map bv)
  b3 : W.heap[Z + 3]? = some (.cells #[.int .i64 s.ah.e, .int .i64 s.ah.n, .int .i64 s.ah.c, .int .i64 s.ah.i, sv s.ah.b] 71 (0, 0))
/-- The record's block is none of the records'. -/
def FreeR (cs : List Value) (cv : Value) : Prop := ∀ c ∈ cs, ∀ g, c.ownBlock = some g → cv.ownBlock ≠ some g
/-- An owned row's block: where it lies, what it is. -/
theorem own_block {w : World} {base : Nat} {e : TypeId} {v : Value} {xs : List Value} (h : Own w base e v xs) {g : Nat} (hg : v.ownBlock = some g) : base ≤ g ∧ ∃ cur, w.heap[g]? = some (.cells cur e (0, 0)) := by
  rcases h.2 with ⟨rfl, _⟩ | ⟨g', cap, cur, rfl, hb, hh, _⟩
  · cases hg
  · cases hg
    exact ⟨hb, cur, hh⟩
/-- What is told of the boxes stays where the blocks stay. -/
theorem TB.keep {Z : Nat} {s : TSt} {rv : Value} {cs : List Value} {cv : Value} {W W' : World} (h : TB Z s rv cs cv W) (k : ∀ i cur e, Z ≤ i → W.heap[i]? = some (.cells cur e (0, 0)) → W'.heap[i]? = some (.cells cur e (0, 0))) : TB Z s rv cs cv W' := by
  have kk : ∀ {e : TypeId} {v : Value} {xs : List Value}, Own W (Z + 5) e v xs → Own W' (Z + 5) e v xs := by
    intro e v xs hv
    refine row_keep hv fun g hg => ?_
    obtain ⟨h1, cur, h2⟩ := own_block hv hg
    rw [h2]
    exact k g cur e (by omega) h2
  exact ⟨k _ _ _ (by omega) h.b0, kk h.r0, h.lc, fun j c r h1 h2 => kk (h.each j c r h1 h2), k _ _ _ (by omega) h.b1, k _ _ _ (by omega) h.b2, kk h.c0, k _ _ _ (by omega) h.b3⟩
theorem TB.below {Z : Nat} {s : TSt} {rv : Value} {cs : List Value} {cv : Value} {W W' : World} (h : TB Z s rv cs cv W) (hb : Below W.heap.size W W') : TB Z s rv cs cv W' :=
  h.keep fun i _ _ _ hi => (hb.block i (lt_of_block hi)).trans hi
/-- A new, empty record. -/
theorem TB.fresh {Z : Nat} {s : TSt} {rv : Value} {cs : List Value} {cv : Value} {W W' : World} (h : TB Z s rv cs cv W) {n : Nat} {cur : Array Value} (hn : n ≤ maxLen) (hc : cur.size = n) (hs : Z + 5 ≤ W.heap.size)
    (hb : ∀ i, i < W.heap.size → i ≠ Z + 2 → W'.heap[i]? = W.heap[i]?) (h2 : W'.heap[Z + 2]? = some (.cells #[.slice (some ⟨W.heap.size, 0, none⟩) 0 n] 29 (0, 0))) (hl : W'.heap[W.heap.size]? = some (.cells cur 5 (0, 0))) :
    TB Z ⟨s.ah, [], s.rs, s.en⟩ rv cs (.slice (some ⟨W.heap.size, 0, none⟩) 0 n) W' ∧ FreeR cs (.slice (some ⟨W.heap.size, 0, none⟩) 0 n) := by
  have kk : ∀ {e : TypeId} {v : Value} {xs : List Value}, Own W (Z + 5) e v xs → Own W' (Z + 5) e v xs := by
    intro e v xs hv
    refine row_keep hv fun g hg => ?_
    obtain ⟨h1, cur, h2⟩ := own_block hv hg
    exact hb g (lt_of_block h2) (by omega)
  have hfree : ∀ c ∈ cs, ∀ g, c.ownBlock = some g → (Value.slice (some ⟨W.heap.size, 0, none⟩) 0 n).ownBlock ≠ some g := by
    intro c hc g hg e
    obtain ⟨j, hj⟩ := List.mem_iff_getElem?.1 hc
    have hjl := (List.getElem?_eq_some_iff.1 hj).1
    obtain ⟨r, hr⟩ : ∃ r, s.rs[j]? = some r := ⟨s.rs[j]'(by rw [← h.lc]; exact hjl), List.getElem?_eq_getElem _⟩
    obtain ⟨_, cur', h3⟩ := own_block (h.each j c r hj hr) hg
    have := lt_of_block h3
    simp only [Value.ownBlock, Option.some.injEq] at e
    omega
  refine ⟨⟨(hb _ (by omega) (by omega)).trans h.b0, kk h.r0, h.lc, fun j c r h1 h2 => kk (h.each j c r h1 h2), (hb _ (by omega) (by omega)).trans h.b1, h2, ?_, (hb _ (by omega) (by omega)).trans h.b3⟩, hfree⟩
  exact ⟨by simp, .inr ⟨_, n, cur, rfl, by omega, hl, by simp, hn, by simpa using hc, by simp⟩⟩
theorem own_apart {w : World} {base base' : Nat} {e e' : TypeId} {v v' : Value} {xs xs' : List Value} (h : Own w base e v xs) (h' : Own w base' e' v' xs') (he : e ≠ e') {g : Nat} (hg : v.ownBlock = some g) : v'.ownBlock ≠ some g := by
  intro hg'
  obtain ⟨_, cur, h1⟩ := own_block h hg
  obtain ⟨_, cur', h2⟩ := own_block h' hg'
  rw [h1] at h2
  injection h2 with h2
  injection h2 with _ h2 _
  exact he h2
/-- Bytes onto the record. -/
theorem TB.app {Z : Nat} {s : TSt} {rv : Value} {cs : List Value} {cv cv' : Value} {W W' : World} (h : TB Z s rv cs cv W) (hf : FreeR cs cv) (b : Bt) (hs : Z + 5 ≤ W.heap.size)
    (hb : ∀ i, i < W.heap.size → i ≠ Z + 2 → cv.ownBlock ≠ some i → W'.heap[i]? = W.heap[i]?) (h2 : W'.heap[Z + 2]? = some (.cells #[cv'] 29 (0, 0))) (ho : Own W' (Z + 5) 5 cv' ((s.rc ++ b).map bv))
    (hv : cv'.ownBlock = cv.ownBlock ∨ ∃ g, cv'.ownBlock = some g ∧ W.heap.size ≤ g) :
    TB Z ⟨s.ah, s.rc ++ b, s.rs, s.en⟩ rv cs cv' W' ∧ FreeR cs cv' := by
  have hbx : ∀ i, i < Z + 5 → i ≠ Z + 2 → W'.heap[i]? = W.heap[i]? := fun i hi hn => hb i (by omega) hn fun e => by have := (own_block h.c0 e).1; omega
  refine ⟨⟨(hbx _ (by omega) (by omega)).trans h.b0, row_keep h.r0 fun g hg => ?_, h.lc, fun j c r h1 h3 => row_keep (h.each j c r h1 h3) fun g hg => ?_, (hbx _ (by omega) (by omega)).trans h.b1, h2, ho, (hbx _ (by omega) (by omega)).trans h.b3⟩, ?_⟩
  · obtain ⟨q1, cur, q2⟩ := own_block h.r0 hg
    exact hb g (lt_of_block q2) (by omega) (own_apart h.r0 h.c0 (by decide) hg)
  · obtain ⟨q1, cur, q2⟩ := own_block (h.each j c r h1 h3) hg
    exact hb g (lt_of_block q2) (by omega) (hf c (List.mem_of_getElem? h1) g hg)
  · intro c hc g hg
    rcases hv with e | ⟨g', e, hg'⟩
    · rw [e]; exact hf c hc g hg
    · rw [e]
      obtain ⟨j, hj⟩ := List.mem_iff_getElem?.1 hc
      have hjl := (List.getElem?_eq_some_iff.1 hj).1
      obtain ⟨r, hr⟩ : ∃ r, s.rs[j]? = some r := ⟨s.rs[j]'(by rw [← h.lc]; exact hjl), List.getElem?_eq_getElem _⟩
      obtain ⟨_, cur', h3⟩ := own_block (h.each j c r hj hr) hg
      have := lt_of_block h3
      intro e2
      cases e2
      omega
/-- The record to the records. -/
theorem TB.push {Z : Nat} {s : TSt} {rv rv' : Value} {cs : List Value} {cv : Value} {W W' : World} (h : TB Z s rv cs cv W) (hs : Z + 5 ≤ W.heap.size)
    (hb : ∀ i, i < W.heap.size → i ≠ Z → rv.ownBlock ≠ some i → W'.heap[i]? = W.heap[i]?) (h2 : W'.heap[Z]? = some (.cells #[rv'] 23 (0, 0))) (ho : Own W' (Z + 5) 29 rv' (cs ++ [cv])) :
    TB Z ⟨s.ah, s.rc, s.rs ++ [s.rc], s.en⟩ rv' (cs ++ [cv]) cv W' := by
  have hbx : ∀ i, i < Z + 5 → i ≠ Z → W'.heap[i]? = W.heap[i]? := fun i hi hn => hb i (by omega) hn fun e => by have := (own_block h.r0 e).1; omega
  have hk : ∀ {v : Value} {xs : List Value}, Own W (Z + 5) 5 v xs → Own W' (Z + 5) 5 v xs := by
    intro v xs hv
    refine row_keep hv fun g hg => ?_
    obtain ⟨q1, cur, q2⟩ := own_block hv hg
    exact hb g (lt_of_block q2) (by omega) (own_apart hv h.r0 (by decide) hg)
  refine ⟨h2, ho, by simp [h.lc], fun j c r h1 h3 => ?_, (hbx _ (by omega) (by omega)).trans h.b1, (hbx _ (by omega) (by omega)).trans h.b2, hk h.c0, (hbx _ (by omega) (by omega)).trans h.b3⟩
  have hlc := h.lc
  by_cases hj : j < cs.length
  · rw [List.getElem?_append_left hj] at h1
    simp only at h3
    rw [List.getElem?_append_left (by omega)] at h3
    exact hk (h.each j c r h1 h3)
  · have hjl := (List.getElem?_eq_some_iff.1 h1).1
    simp at hjl
    obtain rfl : j = cs.length := by omega
    rw [List.getElem?_append_right (Nat.le_refl _)] at h1
    simp only at h3
    rw [hlc, List.getElem?_append_right (Nat.le_refl _)] at h3
    simp at h1 h3
    subst h1 h3
    exact hk h.c0
/-- A box of a number or of a part turns. -/
theorem TB.setEn {Z : Nat} {s : TSt} {rv : Value} {cs : List Value} {cv : Value} {W W' : World} (h : TB Z s rv cs cv W) (en : Int) (hs : Z + 5 ≤ W.heap.size) (hb : ∀ i, i < W.heap.size → i ≠ Z + 1 → W'.heap[i]? = W.heap[i]?) (h2 : W'.heap[Z + 1]? = some (.cells #[.int .i64 en] 3 (0, 0))) :
    TB Z ⟨s.ah, s.rc, s.rs, en⟩ rv cs cv W' := by
  have kk : ∀ {e : TypeId} {v : Value} {xs : List Value}, Own W (Z + 5) e v xs → Own W' (Z + 5) e v xs := by
    intro e v xs hv
    refine row_keep hv fun g hg => ?_
    obtain ⟨h1, cur, h3⟩ := own_block hv hg
    exact hb g (lt_of_block h3) (by omega)
  exact ⟨(hb _ (by omega) (by omega)).trans h.b0, kk h.r0, h.lc, fun j c r h1 h3 => kk (h.each j c r h1 h3), h2, (hb _ (by omega) (by omega)).trans h.b2, kk h.c0, (hb _ (by omega) (by omega)).trans h.b3⟩
theorem TB.setAh {Z : Nat} {s : TSt} {rv : Value} {cs : List Value} {cv : Value} {W W' : World} (h : TB Z s rv cs cv W) (p : Prt) (hs : Z + 5 ≤ W.heap.size) (hb : ∀ i, i < W.heap.size → i ≠ Z + 3 → W'.heap[i]? = W.heap[i]?)
    (h2 : W'.heap[Z + 3]? = some (.cells #[.int .i64 p.e, .int .i64 p.n, .int .i64 p.c, .int .i64 p.i, sv p.b] 71 (0, 0))) :
    TB Z ⟨p, s.rc, s.rs, s.en⟩ rv cs cv W' := by
  have kk : ∀ {e : TypeId} {v : Value} {xs : List Value}, Own W (Z + 5) e v xs → Own W' (Z + 5) e v xs := by
    intro e v xs hv
    refine row_keep hv fun g hg => ?_
    obtain ⟨h1, cur, h3⟩ := own_block hv hg
    exact hb g (lt_of_block h3) (by omega)
  exact ⟨(hb _ (by omega) (by omega)).trans h.b0, kk h.r0, h.lc, fun j c r h1 h3 => kk (h.each j c r h1 h3), (hb _ (by omega) (by omega)).trans h.b1, (hb _ (by omega) (by omega)).trans h.b2, kk h.c0, h2⟩
#print axioms TB.app
#print axioms TB.push
end Go.Proofs.YthmjejmignangaaGreatDoor
namespace Go.Proofs.YthmjejmignangaaGreatDoor
open Go.RowKit
/-- While parts are told: the boxes, parts' box, and that nothing ahead has turned. -/
structure TM (Z : Nat) (lv : Value) (w : World) (s : TSt) (W : World) : Prop where
  bx : ∃ rv cs cv, TB Z s rv cs cv W ∧ (s.ah.last = true ∨ FreeR cs cv)
  pb : W.heap[Z + 4]? = some (.cells #[lv] 26 (0, 0))
  bel : Below Z w W
  siz : Z + 5 ≤ W.heap.size
theorem TM.own {Z B : Nat} {lv : Value} {w : World} (hB : Z ≤ B) : OwnFrom B (fun s W => TM Z lv w s W) := by
  intro s W W' row h hg hr
  obtain ⟨rv, cs, cv, hb, hf⟩ := h.bx
  have key : ∀ (i : Nat) (cur : Array Value) (e : TypeId), W.heap[i]? = some (Obj.cells cur e (0, 0)) → W'.heap[i]? = some (Obj.cells cur e (0, 0)) := by
    intro i cur e hi
    rw [hg.block i (lt_of_block hi) fun q => ?_]
    · exact hi
    · obtain ⟨_, o, ho, hc⟩ := hr i q.symm
      rw [hi] at ho
      cases ho
      cases hc
  exact ⟨⟨rv, cs, cv, hb.keep fun i cur e _ hi => key i cur e hi, hf⟩, key _ _ _ h.pb, h.bel.trans ⟨hg.os, hg.tape, hg.output, hg.size, fun i hi => hg.block i (by have := h.siz; omega) fun q => by have := (hr i q.symm).1; omega⟩, Nat.le_trans h.siz hg.size⟩
theorem TM.below {Z : Nat} {lv : Value} {w : World} {s : TSt} {W W' : World} (h : TM Z lv w s W) (b : Below W.heap.size W W') : TM Z lv w s W' :=
  TM.own (Nat.le_refl Z) s W W' none h ⟨b.os, b.tape, b.output, b.size, fun k hk _ => b.block k hk⟩ (fun r e => by cases e)
theorem own_none (w : World) (base : Nat) (e : TypeId) : Own w base e (.slice none 0 0) [] := ⟨by simp, .inl ⟨rfl, rfl⟩⟩
theorem TM.start {Z : Nat} {lv : Value} {w W : World} (hb : Below Z w W) (hs : Z + 5 ≤ W.heap.size) (h0 : W.heap[Z]? = some (.cells #[.slice none 0 0] 23 (0, 0))) (h1 : W.heap[Z + 1]? = some (.cells #[.int .i64 0] 3 (0, 0))) (h2 : W.heap[Z + 2]? = some (.cells #[.slice none 0 0] 29 (0, 0)))
    (h3 : W.heap[Z + 3]? = some (.cells #[.int .i64 0, .int .i64 0, .int .i64 1, .int .i64 0, sv []] 71 (0, 0))) (h4 : W.heap[Z + 4]? = some (.cells #[lv] 26 (0, 0))) : TM Z lv w tStart W :=
  ⟨⟨_, [], _, ⟨h0, own_none _ _ _, rfl, fun j c r h => (by simp at h), h1, h2, own_none _ _ _, h3⟩, .inl (by decide)⟩, h4, hb, hs⟩
#print axioms TM.own
#print axioms TM.start
end Go.Proofs.YthmjejmignangaaGreatDoor
