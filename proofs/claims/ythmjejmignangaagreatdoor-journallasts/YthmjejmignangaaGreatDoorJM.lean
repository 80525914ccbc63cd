/- Layer 16: the boxes of tell while parts are told. Layer 16: what holds while parts are told. Layer 16: a round of tell: the boxes, and all else that must stay. Feeds3 with a loop variable that lies in a box of its own, a new one a round. -/
import Derived.Test.YthmjejmignangaaGreatDoorJI
import Derived.Test.YthmjejmignangaaGreatDoorMW
namespace Go.Proofs.YthmjejmignangaaGreatDoor
open Go.RowKit
/-- The boxes: records at Z, end at Z + 1, record at Z + 2, ahead at Z + 3; what they lead to lies behind them. -/
structure TB (Z : Nat) (s : TSt) (rv : Value) (cs : List Value) (cv : Value) (W : World) : Prop where
  b0 : W.heap[Z]? = some (.cells #[rv] 23 (0, 0))
  r0 : Own W (Z + 5) 29 rv cs
  lc : cs.length = s.rs.length
  each : ∀ (j : Nat) (c : Value) (r : Bt), cs[j]? = some c → s.rs[j]? = some r → Own W (Z + 5) 5 c (r.map bv)
  b1 : W.heap[Z + 1]? = some (.cells #[.int .i64 s.en] 3 (0, 0))
  b2 : W.heap[Z + 2]? = some (.cells #[cv] 29 (0, 0))
  c0 : Own W (Z + 5) 5 cv (s.rc.map bv)
  b3 : W.heap[Z + 3]? = some (.cells #[.int .i64 s.ah.e, .int .i64 s.ah.n, .int .i64 s.ah.c, .int .i64 s.ah.i, sv s.ah.b] 71 (0, 0))
/-- The record's block is none of the records'. -/
def FreeR (cs : List Value) (cv : Value) : Prop := ∀ c ∈ cs, ∀ g, c.ownBlock = some g → cv.ownBlock ≠ some g
/-- An owned row's block: where it lies, what it is. -/
theorem own_block {w : World} {base : Nat} {e : TypeId} {v : Value} {xs : List Value} (h : Own w base e v xs) {g : Nat} (hg : v.ownBlock = some g) : base ≤ g ∧ ∃ cur, w.heap[g]? = some (.cells cur e (0, 0)) := by
  rcases h.2 with ⟨rfl, _⟩ | ⟨g', cap, cur, rfl, hb, hh, _⟩
  · cases hg
  · cases hg
    exact ⟨hb, cur, hh⟩
/-- What is told of the boxes stays where the blocks stay. -/
theorem TB.keep {Z : Nat} {s : TSt} {rv : Value} {cs : List Value} {cv : Value} {W W' : World} (h : TB Z s rv cs cv W) (k : ∀ i cur e, Z ≤ i → W.heap[i]? = some (.cells cur e (0, 0)) → W'.heap[i]? = some (.cells cur e (0, 0))) : TB Z s rv cs cv W' := by
  have kk : ∀ {e : TypeId} {v : Value} {xs : List Value}, Own W (Z + 5) e v xs → Own W' (Z + 5) e v xs := by
    intro e v xs hv
    refine row_keep hv fun g hg => ?_
    obtain ⟨h1, cur, h2⟩ := own_block hv hg
    rw [h2]
    exact k g cur e (by omega) h2
  exact ⟨k _ _ _ (by omega) h.b0, kk h.r0, h.lc, fun j c r h1 h2 => kk (h.each j c r h1 h2), k _ _ _ (by omega) h.b1, k _ _ _ (by omega) h.b2, kk h.c0, k _ _ _ (by omega) h.b3⟩
theorem TB.below {Z : Nat} {s : TSt} {rv : Value} {cs : List Value} {cv : Value} {W W' : World} (h : TB Z s rv cs cv W) (hb : Below W.heap.size W W') : TB Z s rv cs cv W' :=
  h.keep fun i _ _ _ hi => (hb.block i (lt_of_block hi)).trans hi
/-- A new, empty record. -/
theorem TB.fresh {Z : Nat} {s : TSt} {rv : Value} {cs : List Value} {cv : Value} {W W' : World} (h : TB Z s rv cs cv W) {n : Nat} {cur : Array Value} (hn : n ≤ maxLen) (hc : cur.size = n) (hs : Z + 5 ≤ W.heap.size)
    (hb : ∀ i, i < W.heap.size → i ≠ Z + 2 → W'.heap[i]? = W.heap[i]?) (h2 : W'.heap[Z + 2]? = some (.cells #[.slice (some ⟨W.heap.size, 0, none⟩) 0 n] 29 (0, 0))) (hl : W'.heap[W.heap.size]? = some (.cells cur 5 (0, 0))) :
    TB Z ⟨s.ah, [], s.rs, s.en⟩ rv cs (.slice (some ⟨W.heap.size, 0, none⟩) 0 n) W' ∧ FreeR cs (.slice (some ⟨W.heap.size, 0, none⟩) 0 n) := by
  have kk : ∀ {e : TypeId} {v : Value} {xs : List Value}, Own W (Z + 5) e v xs → Own W' (Z + 5) e v xs := by
    intro e v xs hv
    refine row_keep hv fun g hg => ?_
    obtain ⟨h1, cur, h2⟩ := own_block hv hg
    exact hb g (lt_of_block h2) (by omega)
  have hfree : ∀ c ∈ cs, ∀ g, c.ownBlock = some g → (Value.slice (some ⟨W.heap.size, 0, none⟩) 0 n).ownBlock ≠ some g := by
    intro c hc g hg e
    obtain ⟨j, hj⟩ := List.mem_iff_getElem?.1 hc
    have hjl := (List.getElem?_eq_some_iff.1 hj).1
    obtain ⟨r, hr⟩ : ∃ r, s.rs[j]? = some r := ⟨s.rs[j]'(by rw [← h.lc]; exact hjl), List.getElem?_eq_getElem _⟩
    obtain ⟨_, cur', h3⟩ := own_block (h.each j c r hj hr) hg
    have := lt_of_block h3
    simp only [Value.ownBlock, Option.some.injEq] at e
    omega
  refine ⟨⟨(hb _ (by omega) (by omega)).trans h.b0, kk h.r0, h.lc, fun j c r h1 h2 => kk (h.each j c r h1 h2), (hb _ (by omega) (by omega)).trans h.b1, h2, ?_, (hb _ (by omega) (by omega)).trans h.b3⟩, hfree⟩
  exact ⟨by simp, .inr ⟨_, n, cur, rfl, by omega, hl, by simp, hn, by simpa using hc, by simp⟩⟩
theorem own_apart {w : World} {base base' : Nat} {e e' : TypeId} {v v' : Value} {xs xs' : List Value} (h : Own w base e v xs) (h' : Own w base' e' v' xs') (he : e ≠ e') {g : Nat} (hg : v.ownBlock = some g) : v'.ownBlock ≠ some g := by
  intro hg'
  obtain ⟨_, cur, h1⟩ := own_block h hg
  obtain ⟨_, cur', h2⟩ := own_block h' hg'
  rw [h1] at h2
  injection h2 with h2
  injection h2 with _ h2 _
  exact he h2
/-- Bytes onto the record. -/
theorem TB.app {Z : Nat} {s : TSt} {rv : Value} {cs : List Value} {cv cv' : Value} {W W' : World} (h : TB Z s rv cs cv W) (hf : FreeR cs cv) (b : Bt) (hs : Z + 5 ≤ W.heap.size)
    (hb : ∀ i, i < W.heap.size → i ≠ Z + 2 → cv.ownBlock ≠ some i → W'.heap[i]? = W.heap[i]?) (h2 : W'.heap[Z + 2]? = some (.cells #[cv'] 29 (0, 0))) (ho : Own W' (Z + 5) 5 cv' ((s.rc ++ b).map bv))
    (hv : cv'.ownBlock = cv.ownBlock ∨ ∃ g, cv'.ownBlock = some g ∧ W.heap.size ≤ g) :
    TB Z ⟨s.ah, s.rc ++ b, s.rs, s.en⟩ rv cs cv' W' ∧ FreeR cs cv' := by
  have hbx : ∀ i, i < Z + 5 → i ≠ Z + 2 → W'.heap[i]? = W.heap[i]? := fun i hi hn => hb i (by omega) hn fun e => by have := (own_block h.c0 e).1; omega
  refine ⟨⟨(hbx _ (by omega) (by omega)).trans h.b0, row_keep h.r0 fun g hg => ?_, h.lc, fun j c r h1 h3 => row_keep (h.each j c r h1 h3) fun g hg => ?_, (hbx _ (by omega) (by omega)).trans h.b1, h2, ho, (hbx _ (by omega) (by omega)).trans h.b3⟩, ?_⟩
  · obtain ⟨q1, cur, q2⟩ := own_block h.r0 hg
    exact hb g (lt_of_block q2) (by omega) (own_apart h.r0 h.c0 (by decide) hg)
  · obtain ⟨q1, cur, q2⟩ := own_block (h.each j c r h1 h3) hg
    exact hb g (lt_of_block q2) (by omega) (hf c (List.mem_of_getElem? h1) g hg)
  · intro c hc g hg
    rcases hv with e | ⟨g', e, hg'⟩
    · rw [e]; exact hf c hc g hg
    · rw [e]
      obtain ⟨j, hj⟩ := List.mem_iff_getElem?.1 hc
      have hjl := (List.getElem?_eq_some_iff.1 hj).1
      obtain ⟨r, hr⟩ : ∃ r, s.rs[j]? = some r := ⟨s.rs[j]'(by rw [← h.lc]; exact hjl), List.getElem?_eq_getElem _⟩
      obtain ⟨_, cur', h3⟩ := own_block (h.each j c r hj hr) hg
      have := lt_of_block h3
      intro e2
      cases e2
      omega
/-- The record to the records. -/
theorem TB.push {Z : Nat} {s : TSt} {rv rv' : Value} {cs : List Value} {cv : Value} {W W' : World} (h : TB Z s rv cs cv W) (hs : Z + 5 ≤ W.heap.size)
    (hb : ∀ i, i < W.heap.size → i ≠ Z → rv.ownBlock ≠ some i → W'.heap[i]? = W.heap[i]?) (h2 : W'.heap[Z]? = some (.cells #[rv'] 23 (0, 0))) (ho : Own W' (Z + 5) 29 rv' (cs ++ [cv])) :
    TB Z ⟨s.ah, s.rc, s.rs ++ [s.rc], s.en⟩ rv' (cs ++ [cv]) cv W' := by
  have hbx : ∀ i, i < Z + 5 → i ≠ Z → W'.heap[i]? = W.heap[i]? := fun i hi hn => hb i (by omega) hn fun e => by have := (own_block h.r0 e).1; omega
  have hk : ∀ {v : Value} {xs : List Value}, Own W (Z + 5) 5 v xs → Own W' (Z + 5) 5 v xs := by
    intro v xs hv
    refine row_keep hv fun g hg => ?_
    obtain ⟨q1, cur, q2⟩ := own_block hv hg
    exact hb g (lt_of_block q2) (by omega) (own_apart hv h.r0 (by decide) hg)
  refine ⟨h2, ho, by simp [h.lc], fun j c r h1 h3 => ?_, (hbx _ (by omega) (by omega)).trans h.b1, (hbx _ (by omega) (by omega)).trans h.b2, hk h.c0, (hbx _ (by omega) (by omega)).trans h.b3⟩
  have hlc := h.lc
  by_cases hj : j < cs.length
  · rw [List.getElem?_append_left hj] at h1
    simp only at h3
    rw [List.getElem?_append_left (by omega)] at h3
    exact hk (h.each j c r h1 h3)
  · have hjl := (List.getElem?_eq_some_iff.1 h1).1
    simp at hjl
    obtain rfl : j = cs.length := by omega
    rw [List.getElem?_append_right (Nat.le_refl _)] at h1
    simp only at h3
    rw [hlc, List.getElem?_append_right (Nat.le_refl _)] at h3
    simp at h1 h3
    subst h1 h3
    exact hk h.c0
/-- A box of a number or of a part turns. -/
theorem TB.setEn {Z : Nat} {s : TSt} {rv : Value} {cs : List Value} {cv : Value} {W W' : World} (h : TB Z s rv cs cv W) (en : Int) (hs : Z + 5 ≤ W.heap.size) (hb : ∀ i, i < W.heap.size → i ≠ Z + 1 → W'.heap[i]? = W.heap[i]?) (h2 : W'.heap[Z + 1]? = some (.cells #[.int .i64 en] 3 (0, 0))) :
    TB Z ⟨s.ah, s.rc, s.rs, en⟩ rv cs cv W' := by
  have kk : ∀ {e : TypeId} {v : Value} {xs : List Value}, Own W (Z + 5) e v xs → Own W' (Z + 5) e v xs := by
    intro e v xs hv
    refine row_keep hv fun g hg => ?_
    obtain ⟨h1, cur, h3⟩ := own_block hv hg
    exact hb g (lt_of_block h3) (by omega)
  exact ⟨(hb _ (by omega) (by omega)).trans h.b0, kk h.r0, h.lc, fun j c r h1 h3 => kk (h.each j c r h1 h3), h2, (hb _ (by omega) (by omega)).trans h.b2, kk h.c0, (hb _ (by omega) (by omega)).trans h.b3⟩
theorem TB.setAh {Z : Nat} {s : TSt} {rv : Value} {cs : List Value} {cv : Value} {W W' : World} (h : TB Z s rv cs cv W) (p : Prt) (hs : Z + 5 ≤ W.heap.size) (hb : ∀ i, i < W.heap.size → i ≠ Z + 3 → W'.heap[i]? = W.heap[i]?)
    (h2 : W'.heap[Z + 3]? = some (.cells #[.int .i64 p.e, .int .i64 p.n, .int .i64 p.c, .int .i64 p.i, sv p.b] 71 (0, 0))) :
    TB Z ⟨p, s.rc, s.rs, s.en⟩ rv cs cv W' := by
  have kk : ∀ {e : TypeId} {v : Value} {xs : List Value}, Own W (Z + 5) e v xs → Own W' (Z + 5) e v xs := by
    intro e v xs hv
    refine row_keep hv fun g hg => ?_
    obtain ⟨h1, cur, h3⟩ := own_block hv hg
    exact hb g (lt_of_block h3) (by omega)
  exact ⟨(hb _ (by omega) (by omega)).trans h.b0, kk h.r0, h.lc, fun j c r h1 h3 => kk (h.each j c r h1 h3), (hb _ (by omega) (by omega)).trans h.b1, (hb _ (by omega) (by omega)).trans h.b2, kk h.c0, h2⟩
#print axioms TB.app
#print axioms TB.push
end Go.Proofs.YthmjejmignangaaGreatDoor
namespace Go.Proofs.YthmjejmignangaaGreatDoor
open Go.RowKit
/-- While parts are told: the boxes, parts' box, and that nothing ahead has turned. -/
structure TM (Z : Nat) (lv : Value) (w : World) (s : TSt) (W : World) : Prop where
  bx : ∃ rv cs cv, TB Z s rv cs cv W ∧ (s.ah.last = true ∨ FreeR cs cv)
  pb : W.heap[Z + 4]? = some (.cells #[lv] 26 (0, 0))
  bel : Below Z w W
  siz : Z + 5 ≤ W.heap.size
theorem TM.own {Z B : Nat} {lv : Value} {w : World} (hB : Z ≤ B) : OwnFrom B (fun s W => TM Z lv w s W) := by
  intro s W W' row h hg hr
  obtain ⟨rv, cs, cv, hb, hf⟩ := h.bx
  have key : ∀ (i : Nat) (cur : Array Value) (e : TypeId), W.heap[i]? = some (Obj.cells cur e (0, 0)) → W'.heap[i]? = some (Obj.cells cur e (0, 0)) := by
    intro i cur e hi
    rw [hg.block i (lt_of_block hi) fun q => ?_]
    · exact hi
    · obtain ⟨_, o, ho, hc⟩ := hr i q.symm
      rw [hi] at ho
      cases ho
      cases hc
  exact ⟨⟨rv, cs, cv, hb.keep fun i cur e _ hi => key i cur e hi, hf⟩, key _ _ _ h.pb, h.bel.trans ⟨hg.os, hg.tape, hg.output, hg.size, fun i hi => hg.block i (by have := h.siz; omega) fun q => by have := (hr i q.symm).1; omega⟩, Nat.le_trans h.siz hg.size⟩
theorem TM.below {Z : Nat} {lv : Value} {w : World} {s : TSt} {W W' : World} (h : TM Z lv w s W) (b : Below W.heap.size W W') : TM Z lv w s W' :=
  TM.own (Nat.le_refl Z) s W W' none h ⟨b.os, b.tape, b.output, b.size, fun k hk _ => b.block k hk⟩ (fun r e => by cases e)
theorem own_none (w : World) (base : Nat) (e : TypeId) : Own w base e (.slice none 0 0) [] := ⟨by simp, .inl ⟨rfl, rfl⟩⟩
theorem TM.start {Z : Nat} {lv : Value} {w W : World} (hb : Below Z w W) (hs : Z + 5 ≤ W.heap.size) (h0 : W.heap[Z]? = some (.cells #[.slice none 0 0] 23 (0, 0))) (h1 : W.heap[Z + 1]? = some (.cells #[.int .i64 0] 3 (0, 0))) (h2 : W.heap[Z + 2]? = some (.cells #[.slice none 0 0] 29 (0, 0)))
    (h3 : W.heap[Z + 3]? = some (.cells #[.int .i64 0, .int .i64 0, .int .i64 1, .int .i64 0, sv []] 71 (0, 0))) (h4 : W.heap[Z + 4]? = some (.cells #[lv] 26 (0, 0))) : TM Z lv w tStart W :=
  ⟨⟨_, [], _, ⟨h0, own_none _ _ _, rfl, fun j c r h => (by simp at h), h1, h2, own_none _ _ _, h3⟩, .inl (by decide)⟩, h4, hb, hs⟩
#print axioms TM.own
#print axioms TM.start
end Go.Proofs.YthmjejmignangaaGreatDoor
namespace Go.Proofs.YthmjejmignangaaGreatDoor
open Go.RowKit
/-- What must stay beside the four boxes: parts' box, the round's part, what lies below Z, what is no row of cells, a set S of blocks. -/
structure Rs (Z q : Nat) (lv : Value) (S : Nat → Prop) (w W : World) (p : Prt) (V : World) : Prop where
  pb : V.heap[Z + 4]? = some (.cells #[lv] 26 (0, 0))
  bq : V.heap[q]? = some (.cells #[.int .i64 p.e, .int .i64 p.n, .int .i64 p.c, .int .i64 p.i, sv p.b] 71 (0, 0))
  bel : Below Z w V
  siz : Z + 5 ≤ V.heap.size
  kf : KeepsFrom (Z + 5) W V
  kp : KpJ S W V
theorem Rs.turn {Z q : Nat} {lv : Value} {S : Nat → Prop} {w W : World} {p : Prt} {V V' : World} (h : Rs Z q lv S w W p V) (hq : Z + 5 ≤ q) (hS : ∀ k, S k → k < Z ∨ k = Z + 4) (hb : Below Z V V')
    (ht : ∀ i : Nat, i < V.heap.size → V'.heap[i]? = V.heap[i]? ∨ (Z ≤ i ∧ i < Z + 4) ∨ (Z + 5 ≤ i ∧ ∃ cur e, V.heap[i]? = some (.cells cur e (0, 0)) ∧ e ≠ 71)) : Rs Z q lv S w W p V' := by
  have hs := h.siz
  have h4 : V'.heap[Z + 4]? = V.heap[Z + 4]? := by
    rcases ht (Z + 4) (by omega) with e | e | ⟨e, _⟩
    · exact e
    · omega
    · omega
  refine ⟨h4.trans h.pb, ?_, h.bel.trans hb, Nat.le_trans hs hb.size, h.kf.trans ⟨hb.size, fun k o hk ho hc => ?_⟩, fun k hk => ?_⟩
  · rcases ht q (lt_of_block h.bq) with e | e | ⟨_, cur, e, h1, h2⟩
    · exact e.trans h.bq
    · omega
    · rw [h.bq] at h1
      injection h1 with h1
      injection h1 with _ h1 _
      exact absurd h1.symm h2
  · rcases ht k (lt_of_block ho) with e | e | ⟨_, cur, e, h1, h2⟩
    · exact e.trans ho
    · omega
    · rw [ho] at h1
      cases h1
      cases hc
  · refine Eq.trans ?_ (h.kp k hk)
    rcases hS k hk with e | e
    · exact hb.block k e
    · subst e; exact h4
/-- The boxes and the rest. -/
structure BI (Z q : Nat) (lv : Value) (S : Nat → Prop) (w W : World) (p : Prt) (s : TSt) (rv : Value) (cs : List Value) (cv : Value) (V : World) : Prop where
  tb : TB Z s rv cs cv V
  rs : Rs Z q lv S w W p V
section
variable {Z q : Nat} {lv : Value} {S : Nat → Prop} {w W : World} {p : Prt} {s : TSt} {rv : Value} {cs : List Value} {cv : Value} {V V' V1 : World}
theorem BI.call (h : BI Z q lv S w W p s rv cs cv V) (hq : Z + 5 ≤ q) (hS : ∀ k, S k → k < Z ∨ k = Z + 4) (hb : Below V.heap.size V V') : BI Z q lv S w W p s rv cs cv V' :=
  ⟨h.tb.below hb, h.rs.turn hq hS (hb.mono (by have := h.rs.siz; omega)) fun i hi => .inl (hb.block i hi)⟩
theorem BI.cells (h : BI Z q lv S w W p s rv cs cv V) : (V.cell? ⟨Z, 0, none⟩ = some rv ∧ V.frozen? ⟨Z, 0, none⟩ = false) ∧ (V.cell? ⟨Z + 1, 0, none⟩ = some (.int .i64 s.en) ∧ V.frozen? ⟨Z + 1, 0, none⟩ = false) ∧ (V.cell? ⟨Z + 1 + 1, 0, none⟩ = some cv ∧ V.frozen? ⟨Z + 1 + 1, 0, none⟩ = false) := by
  refine ⟨⟨?_, Lib.frozen_of_heap h.tb.b0 0⟩, ⟨?_, Lib.frozen_of_heap h.tb.b1 0⟩, ⟨?_, Lib.frozen_of_heap h.tb.b2 0⟩⟩
  · rw [Lib.cell_of_heap h.tb.b0]; rfl
  · rw [Lib.cell_of_heap h.tb.b1]; rfl
  · rw [Lib.cell_of_heap h.tb.b2]; rfl
theorem BI.fresh (h : BI Z q lv S w W p s rv cs cv V) (hq : Z + 5 ≤ q) (hS : ∀ k, S k → k < Z ∨ k = Z + 4) {n : Nat} (hn : n ≤ maxLen) {cur : Array Value} (hc : cur.size = n) :
    BI Z q lv S w W p ⟨s.ah, [], s.rs, s.en⟩ rv cs (.slice (some ⟨V.heap.size, 0, none⟩) 0 n) ((V.alloc (.cells cur 5)).setCell ⟨Z + 1 + 1, 0, none⟩ (.slice (some ⟨V.heap.size, 0, none⟩) 0 n)) ∧ FreeR cs (.slice (some ⟨V.heap.size, 0, none⟩) 0 n) := by
  have hs := h.rs.siz
  have hb : ∀ i, i < V.heap.size → i ≠ Z + 2 → ((V.alloc (.cells cur 5)).setCell ⟨Z + 1 + 1, 0, none⟩ (.slice (some ⟨V.heap.size, 0, none⟩) 0 n)).heap[i]? = V.heap[i]? := fun i hi hn => (Below.heap_setCell _ _ _ _ (by simpa using hn)).trans (Below.heap_alloc _ _ _ hi)
  obtain ⟨h1, h2⟩ := h.tb.fresh (W' := ((V.alloc (.cells cur 5)).setCell ⟨Z + 1 + 1, 0, none⟩ (.slice (some ⟨V.heap.size, 0, none⟩) 0 n))) hn hc hs hb
    ((heap_setCell_same _ _ _ _ _ _ ((Below.heap_alloc _ _ _ (by omega)).trans h.tb.b2)).trans rfl) ((Below.heap_setCell _ _ _ _ (by simp; omega)).trans (heap_alloc_new V _))
  refine ⟨⟨h1, h.rs.turn hq hS ?_ fun i hi => ?_⟩, h2⟩
  · exact ((Below.refl Z V).alloc (by omega) _).setCell (by simp; omega) _
  · by_cases e : i = Z + 2
    · exact .inr (.inl ⟨by omega, by omega⟩)
    · exact .inl (hb i hi e)
theorem own_turn {Z : Nat} {V : World} {v : Value} {xs : List Value} {e : TypeId} (h : Own V (Z + 5) e v xs) (he : e ≠ 71) {i : Nat} (hi : v.ownBlock = some i) : Z + 5 ≤ i ∧ ∃ cur e, V.heap[i]? = some (.cells cur e (0, 0)) ∧ e ≠ 71 := by
  obtain ⟨h1, cur, h2⟩ := own_block h hi
  exact ⟨h1, cur, _, h2, he⟩
theorem BI.app (h : BI Z q lv S w W p s rv cs cv V) (hq : Z + 5 ≤ q) (hS : ∀ k, S k → k < Z ∨ k = Z + 4) (hf : FreeR cs cv) (b : Bt) {cv' : Value} (ho : Own V1 (Z + 5) 5 cv' ((s.rc ++ b).map bv)) (hst : Step V cv V1 cv') :
    BI Z q lv S w W p ⟨s.ah, s.rc ++ b, s.rs, s.en⟩ rv cs cv' (V1.setCell ⟨Z + 1 + 1, 0, none⟩ cv') ∧ FreeR cs cv' ∧ V1.cell? ⟨Z + 1 + 1, 0, none⟩ = some cv ∧ V1.frozen? ⟨Z + 1 + 1, 0, none⟩ = false := by
  have hs := h.rs.siz
  have hblk : ∀ i, i < V.heap.size → cv.ownBlock ≠ some i → V1.heap[i]? = V.heap[i]? := fun i hi hn => hst.1.block i hi fun e => hn e.symm
  have hb2 : V1.heap[Z + 2]? = some (.cells #[cv] 29 (0, 0)) := (hblk _ (by omega) fun e => by have := (own_block h.tb.c0 e).1; omega).trans h.tb.b2
  have hg : V1.heap.size = (V1.setCell ⟨Z + 1 + 1, 0, none⟩ cv').heap.size := by rw [World.size_setCell]
  have hb : ∀ i, i < V.heap.size → i ≠ Z + 2 → cv.ownBlock ≠ some i → (V1.setCell ⟨Z + 1 + 1, 0, none⟩ cv').heap[i]? = V.heap[i]? := fun i hi hn hc => (Below.heap_setCell _ _ _ _ (by simpa using hn)).trans (hblk i hi hc)
  obtain ⟨h1, h2⟩ := h.tb.app (W' := V1.setCell ⟨Z + 1 + 1, 0, none⟩ cv') (cv' := cv') hf b hs hb ((heap_setCell_same _ _ _ _ _ _ hb2).trans rfl)
    (by
      refine row_keep ho fun g hg => Below.heap_setCell _ _ _ _ ?_
      have := (own_block ho hg).1
      simp
      omega) hst.2
  refine ⟨⟨h1, h.rs.turn hq hS ?_ fun i hi => ?_⟩, h2, by rw [Lib.cell_of_heap hb2]; rfl, Lib.frozen_of_heap hb2 0⟩
  · exact ((Below.refl Z V).grown hst.1 (by omega) fun k hk => by have := (own_block h.tb.c0 hk).1; omega).setCell (by simp; omega) _
  · by_cases e : i = Z + 2
    · exact .inr (.inl ⟨by omega, by omega⟩)
    · by_cases e2 : cv.ownBlock = some i
      · exact .inr (.inr (own_turn h.tb.c0 (by decide) e2))
      · exact .inl (hb i hi e e2)
theorem BI.push (h : BI Z q lv S w W p s rv cs cv V) (hq : Z + 5 ≤ q) (hS : ∀ k, S k → k < Z ∨ k = Z + 4) {rv' : Value} (ho : Own V1 (Z + 5) 29 rv' (cs ++ [cv])) (hst : Step (V.alloc (.cells #[cv] 29)) rv V1 rv') :
    BI Z q lv S w W p ⟨s.ah, s.rc, s.rs ++ [s.rc], s.en⟩ rv' (cs ++ [cv]) cv (V1.setCell ⟨Z, 0, none⟩ rv') ∧ V1.cell? ⟨Z, 0, none⟩ = some rv ∧ V1.frozen? ⟨Z, 0, none⟩ = false := by
  have hs := h.rs.siz
  have hblk : ∀ i, i < V.heap.size → rv.ownBlock ≠ some i → V1.heap[i]? = V.heap[i]? := fun i hi hn => (hst.1.block i (by rw [World.size_alloc]; omega) fun e => hn e.symm).trans (Below.heap_alloc _ _ _ hi)
  have hb0 : V1.heap[Z]? = some (.cells #[rv] 23 (0, 0)) := (hblk _ (by omega) fun e => by have := (own_block h.tb.r0 e).1; omega).trans h.tb.b0
  have hb : ∀ i, i < V.heap.size → i ≠ Z → rv.ownBlock ≠ some i → (V1.setCell ⟨Z, 0, none⟩ rv').heap[i]? = V.heap[i]? := fun i hi hn hc => (Below.heap_setCell _ _ _ _ (by simpa using hn)).trans (hblk i hi hc)
  have h1 := h.tb.push (W' := V1.setCell ⟨Z, 0, none⟩ rv') (rv' := rv') hs hb ((heap_setCell_same _ _ _ _ _ _ hb0).trans rfl)
    (by
      refine row_keep ho fun g hg => Below.heap_setCell _ _ _ _ ?_
      have := (own_block ho hg).1
      simp
      omega)
  refine ⟨⟨h1, h.rs.turn hq hS ?_ fun i hi => ?_⟩, by rw [Lib.cell_of_heap hb0]; rfl, Lib.frozen_of_heap hb0 0⟩
  · exact (((Below.refl Z V).alloc (by omega) _).grown hst.1 (by rw [World.size_alloc]; omega) fun k hk => by have := (own_block h.tb.r0 hk).1; omega).setCell (by simp) _
  · by_cases e : i = Z
    · exact .inr (.inl ⟨by omega, by omega⟩)
    · by_cases e2 : rv.ownBlock = some i
      · exact .inr (.inr (own_turn h.tb.r0 (by decide) e2))
      · exact .inl (hb i hi e e2)
theorem BI.setEn (h : BI Z q lv S w W p s rv cs cv V) (hq : Z + 5 ≤ q) (hS : ∀ k, S k → k < Z ∨ k = Z + 4) (en : Int) : BI Z q lv S w W p ⟨s.ah, s.rc, s.rs, en⟩ rv cs cv (V.setCell ⟨Z + 1, 0, none⟩ (.int .i64 en)) := by
  have hs := h.rs.siz
  have hb : ∀ i, i < V.heap.size → i ≠ Z + 1 → (V.setCell ⟨Z + 1, 0, none⟩ (.int .i64 en)).heap[i]? = V.heap[i]? := fun i hi hn => Below.heap_setCell _ _ _ _ (by simpa using hn)
  refine ⟨h.tb.setEn en hs hb ((heap_setCell_same _ _ _ _ _ _ h.tb.b1).trans rfl), h.rs.turn hq hS ((Below.refl Z V).setCell (by simp) _) fun i hi => ?_⟩
  by_cases e : i = Z + 1
  · exact .inr (.inl ⟨by omega, by omega⟩)
  · exact .inl (hb i hi e)
theorem BI.setAh (h : BI Z q lv S w W p s rv cs cv V) (hq : Z + 5 ≤ q) (hS : ∀ k, S k → k < Z ∨ k = Z + 4) (hb : ∀ i : Nat, i ≠ Z + 3 → V'.heap[i]? = V.heap[i]?) (_ : V'.heap.size = V.heap.size) (hB : Below Z V V')
    (h3 : V'.heap[Z + 3]? = some (.cells #[.int .i64 p.e, .int .i64 p.n, .int .i64 p.c, .int .i64 p.i, sv p.b] 71 (0, 0))) : BI Z q lv S w W p ⟨p, s.rc, s.rs, s.en⟩ rv cs cv V' := by
  have hs := h.rs.siz
  refine ⟨h.tb.setAh p hs (fun i _ hn => hb i hn) h3, h.rs.turn hq hS hB fun i hi => ?_⟩
  by_cases e : i = Z + 3
  · exact .inr (.inl ⟨by omega, by omega⟩)
  · exact .inl (hb i e)
end
/-- A run's bounds. -/
theorem TWf.run : ∀ (l : List (Prt × Bool)) (s : TSt) (k : Nat), TWf s k → (∀ x ∈ l, PFact x) → tAll s l → TWf (tRun s l) (k + l.length)
  | [], s, k, h, _, _ => h
  | x :: l, s, k, h, hp, ⟨h1, h2⟩ => by
    have := TWf.run l _ _ (h.next (hp x (List.mem_cons_self ..)) h1) (fun y hy => hp y (List.mem_cons_of_mem _ hy)) h2
    simp only [tRun, h1, if_true, List.length_cons]
    rw [show k + (l.length + 1) = k + 1 + l.length by omega]
    exact this
end Go.Proofs.YthmjejmignangaaGreatDoor
namespace Go.Proofs.YthmjejmignangaaGreatDoor
open Go.RowKit
theorem range_feeds3b {F : Fence} {n : Nat} {P : Program} {α : Type} {g : Operand} {ps : Array Tmp} {assign body : Code} {Q : Exit → Act → World → Prop} {a : Act} {w : World} (hro : F.round = none) (h1 : 1 ≤ n) {gf : Nat} {lb : Array Value}
    (hg : a.eval g = .func (.func gf) #[] lb) (hFg : F.fn gf) (eg : ∀ args w, (callFunc gf args).run P w = .ok (.enter gf args) w) {encs : α → Array Value} {Kp : World → World → Prop} {xs : List α}
    (hseq : ∀ W, Below w.heap.size w W → Feeds3 F (n - 1) P gf lb encs Kp xs W) (hKt : ∀ {A B C : World}, Kp A B → Kp B C → Kp A C) (hKb : ∀ (W : World) (l : Nat) (o : Obj), w.heap.size ≤ l → Kp W (W.putObj l o)) (hKa : ∀ (W : World) (o : Obj), w.heap.size ≤ W.heap.size → Kp W (W.alloc o)) (hps : ∀ x, (encs x).size = ps.size)
    (I : List α → World → Prop) (R : Code → List α → World → Prop) (hI : OwnFrom w.heap.size I) (hR : ∀ c, OwnFrom w.heap.size (R c)) (h0 : I [] w) (a₁ : α → Nat → Act) (bx : α → Obj)
    (hassign : ∀ (l : Nat) (x : α) (W : World) (K : Act → World → Prop), K (a₁ x W.heap.size) (W.alloc (bx x)) →
      assign.wpIn (F.inRound l) (n - 1 - 1) P (Exit.then K (fun _ _ _ => False)) { tmps := (ps.zip (encs x)).foldl (fun t (p, v) => t.setIfInBounds p v) a.tmps, defers := [] } W)
    (hbody : ∀ (l : Nat) (pre : List α) (x : α) (q : Nat) (W : World), I pre W → w.heap.size ≤ q → W.heap[q]? = some (bx x) → pre ++ [x] <+: xs → body.wpIn (F.inRound l) (n - 1 - 1) P (RoundEnd3 w.heap.size Kp (I (pre ++ [x])) (fun c => R c (pre ++ [x])) W) (a₁ x q) W)
    (hdone : ∀ (D : Nat) (W : World), w.heap.size ≤ D → I xs W → W.heap[D]? = some (.deferred (some [])) → Q .normal { a with defers := { target := .collected D, args := #[] } :: a.defers } W)
    (hstop : ∀ (D : Nat) (c : Code) (pre : List α) (W : World), w.heap.size ≤ D → pre <+: xs → R c pre W → W.heap[D]? = some (.deferred (some [])) → c.wpIn F n P Q { a with defers := { target := .collected D, args := #[] } :: a.defers } W) :
    (Code.rangeFunc g ps assign body).wpIn F n P Q a w := by
  refine wpIn_rangeFunc fun fn hfn => ?_
  rw [hro]
  -- the loop's record in its three states, and the two blocks that the loop lays
  let rec0 : LoopState → Option Code → Loop := fun st pe => { state := st, pending := pe, fn := fn, tmps := a.tmps, params := ps, assign := assign, body := body, defers := w.heap.size }
  let s := w.heap.size
  let W0 := (w.alloc (.deferred (some []))).alloc (.loop (rec0 .ready none))
  have e0 : W0.heap[s]? = some (.deferred (some [])) := (Below.heap_alloc _ _ _ (by simp [s])).trans (World.alloc_heap_new w _)
  have e1 : W0.heap[s + 1]? = some (.loop (rec0 .ready none)) := by
    have := World.alloc_heap_new (w.alloc (.deferred (some []))) (.loop (rec0 .ready none))
    rwa [World.size_alloc] at this
  have hbel : Below w.heap.size w W0 := ((Below.refl _ w).alloc (Nat.le_refl _) _).alloc (by simp) _
  let Rec : Loop → World → Prop := fun r W => W.heap[s + 1]? = some (.loop r) ∧ W.heap[s]? = some (.deferred (some []))
  have recB : ∀ r W W', Rec r W → Below W.heap.size W W' → Rec r W' := fun r W W' h b => ⟨(b.block _ (Array.getElem?_eq_some_iff.1 h.1).1).trans h.1, (b.block _ (Array.getElem?_eq_some_iff.1 h.2).1).trans h.2⟩
  refine ⟨s + 1, [{ target := .collected s, args := #[] }], W0, { target := .fn (.func gf) lb, args := #[.func (.yield (s + 1)) #[] #[]] }, W0, gf, #[.func (.yield (s + 1)) #[] #[]] ++ lb, W0, run_enterLoop_outer _ _ _ _ _, ?_, ?_, ?_, fun _ => h1, ?_⟩
  · simp only [resolve, hg]
    simp [go_sem]
  · intro f' hf'
    simp [Target.leads] at hf'
    subst hf'
    exact hFg
  · simp [invoke, go_sem, eg]
  refine (hseq W0 hbel (s + 1) (fun pre W => I pre W ∧ Rec (rec0 .ready none) W) (fun pre W => ∃ c, R c pre W ∧ Rec (rec0 .done (some c)) W)
    (fun pre W W' h b => ⟨own_belowI hI pre W W' h.1 b, recB _ _ _ h.2 b⟩) (fun pre W W' ⟨c, h⟩ b => ⟨c, own_belowI (hR c) pre W W' h.1 b, recB _ _ _ h.2 b⟩) ?_ ⟨hI.alloc _ (hI.alloc _ h0), e1, e0⟩).mono ?_
  · -- one round
    rintro pre x W ⟨hi, hl, hk⟩ hx
    have hlt : s + 1 < W.heap.size := (Array.getElem?_eq_some_iff.1 hl).1
    have hla : (W.alloc (bx x)).heap[s + 1]? = some (.loop (rec0 .ready none)) := (Below.heap_alloc _ _ _ hlt).trans hl
    have hka : (W.alloc (bx x)).heap[s]? = some (.deferred (some [])) := (Below.heap_alloc _ _ _ (by omega)).trans hk
    have hlt2 : s + 1 < (W.alloc (bx x)).heap.size := by rw [World.size_alloc]; omega
    have hba : (W.alloc (bx x)).heap[W.heap.size]? = some (bx x) := World.alloc_heap_new W _
    refine ⟨fn, _, assign, body, run_yield hl (hps x), roundIn_of_wpIn hfn (hassign _ x W _ ⟨_, run_beginRound hla rfl, ?_⟩)⟩
    have hl2 : ((W.alloc (bx x)).putObj (s + 1) (.loop { rec0 .ready none with state := .busy })).heap[s + 1]? = some (.loop { rec0 .ready none with state := .busy }) := World.putObj_heap_same hlt2
    have hk2 : ((W.alloc (bx x)).putObj (s + 1) (.loop { rec0 .ready none with state := .busy })).heap[s]? = some (.deferred (some [])) := (World.putObj_heap_other (by omega)).trans hka
    refine wpIn_mono (hbody _ pre x W.heap.size _ (hI.putObj _ (hI.alloc _ hi) (by omega) hla rfl) (by omega) ((World.putObj_heap_other (by omega)).trans hba) hx) ?_
    intro e a3 W3 hp
    have tail : KeepsFrom w.heap.size ((W.alloc (bx x)).putObj (s + 1) (.loop { rec0 .ready none with state := .busy })) W3 → W3.heap[s + 1]? = some (.loop { rec0 .ready none with state := .busy }) ∧ W3.heap[s]? = some (.deferred (some [])) ∧ s + 1 < W3.heap.size := fun h3 =>
      ⟨h3.same _ _ (by omega) hl2 rfl, h3.same _ _ (Nat.le_refl _) hk2 rfl, (Array.getElem?_eq_some_iff.1 (h3.same _ _ (by omega) hl2 rfl)).1⟩
    cases e with
    | normal =>
      obtain ⟨hk3, hkp, hi3⟩ := hp
      obtain ⟨t1, t2, t3⟩ := tail hk3
      exact ⟨_, _, run_endRound none t1, .inl ⟨rfl, ⟨hI.putObj _ hi3 (by omega) t1 rfl, World.putObj_heap_same t3, (World.putObj_heap_other (by omega)).trans t2⟩, hKt (hKt (hKt (hKa _ _ (by omega)) (hKb _ _ _ (by omega))) hkp) (hKb _ _ _ (by omega))⟩⟩
    | ret =>
      obtain ⟨hk3, hi3⟩ := hp
      obtain ⟨t1, t2, t3⟩ := tail hk3
      exact ⟨_, _, run_endRound (some .ret) t1, .inr ⟨rfl, .ret, (hR _).putObj _ hi3 (by omega) t1 rfl, World.putObj_heap_same t3, (World.putObj_heap_other (by omega)).trans t2⟩⟩
    | exit id =>
      obtain ⟨hk3, hi3⟩ := hp
      obtain ⟨t1, t2, t3⟩ := tail hk3
      exact ⟨_, _, run_endRound (some (.exit id)) t1, .inr ⟨rfl, .exit id, (hR _).putObj _ hi3 (by omega) t1 rfl, World.putObj_heap_same t3, (World.putObj_heap_other (by omega)).trans t2⟩⟩
    | goto t => exact hp.elim
    | panic ch => exact hp.elim
    | outgrown => exact hp.elim
  · -- behind the iterator
    rintro e W2 ⟨⟨v, rfl⟩, (⟨hi, hl, hk⟩ | ⟨pre, hpre, c, hi, hl, hk⟩)⟩
    · exact ⟨none, _, run_endLoop hl (by simp [rec0]), hdone _ _ (Nat.le_refl _) (hI.putObj _ hi (by omega) hl rfl) ((World.putObj_heap_other (by omega)).trans hk)⟩
    · exact ⟨some c, _, run_endLoop hl (by simp [rec0]), hstop _ c pre _ (Nat.le_refl _) hpre ((hR c).putObj _ hi (by omega) hl rfl) ((World.putObj_heap_other (by omega)).trans hk)⟩
end Go.Proofs.YthmjejmignangaaGreatDoor
