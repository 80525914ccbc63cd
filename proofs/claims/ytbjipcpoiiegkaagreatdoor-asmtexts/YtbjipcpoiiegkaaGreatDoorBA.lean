/- A script that is put together, piece by piece, in memory of one's own. value.readBytes. -/
import Derived.Test.YtbjipcpoiiegkaaGreatDoorAF
import Derived.Test.YtbjipcpoiiegkaaGreatDoorAP
namespace Go.Proofs.YtbjipcpoiiegkaaGreatDoor
open Go.RowKit
/-- Only blocks of this element's type may have turned. -/
def ChgT (t0 : TypeId) (W W' : World) : Prop := ∀ (k : Nat) (cur : Array Value) (t : TypeId) (z : Nat × Nat), t ≠ t0 → W.heap[k]? = some (.cells cur t z) → W'.heap[k]? = some (.cells cur t z)
theorem ChgT.row {t0 : TypeId} {W W' : World} (h : ChgT t0 W W') {base n size : Nat} {e : TypeId} {v : Value} {xs : List Value} (hr : W.ownsRow base e size v n xs) (hne : e ≠ t0) : W'.ownsRow base e size v n xs := by
  refine ⟨hr.1, ?_⟩
  rcases hr.2 with h2 | ⟨g, cap, cur, rfl, hg, hh, r⟩
  · exact .inl h2
  · exact .inr ⟨g, cap, cur, rfl, hg, h g cur e _ hne hh, r⟩
theorem ChgT.step {W W' : World} {base n size : Nat} {e : TypeId} {v v' : Value} {xs : List Value} (hr : W.ownsRow base e size v n xs) (hs : Step W v W' v') : ChgT e W W' := fun k cur t z hne hk => by
  refine (hs.1.block k (lt_of_block hk) fun h => ?_).trans hk
  rcases hr.2 with ⟨rfl, _⟩ | ⟨g, cap, cur, rfl, _, hh, _⟩
  · cases h
  · cases h
    rw [hk] at hh
    cases hh
    exact hne rfl
theorem ChgT.set {W : World} {b o : Nat} {cs : Array Value} {t0 : TypeId} {z : Nat × Nat} {u : Value} (hb : W.heap[b]? = some (.cells cs t0 z)) : ChgT t0 W (W.setCell ⟨b, o, none⟩ u) := fun k cur t z' hne hk => by
  refine (Below.heap_setCell _ _ _ k fun e => ?_).trans hk
  subst e
  rw [hb] at hk
  cases hk
  exact hne rfl
theorem ChgT.below {W W' : World} (hb : Below W.heap.size W W') (t0 : TypeId) : ChgT t0 W W' := fun k _ _ _ _ hk => (hb.block k (lt_of_block hk)).trans hk
/-- A cell of an owned row is set. -/
theorem row_set5 {W : World} {base n size g cap o : Nat} {e : TypeId} {u : Value} {xs : List Value} (h : W.ownsRow base e size (.slice (some ⟨g, 0, none⟩) n cap) n xs) : (W.setCell ⟨g, o, none⟩ u).ownsRow base e size (.slice (some ⟨g, 0, none⟩) n cap) n (xs.set o u) := by
  refine ⟨by simp [h.1], .inr ?_⟩
  rcases h.2 with ⟨h2, _⟩ | ⟨g', cap', cur, e1, hg, hh, r1, r2, r3, r4⟩
  · cases h2
  · cases e1
    refine ⟨g, cap, cur.setIfInBounds o u, rfl, hg, ?_, r1, r2, by simp [r3], ?_⟩
    · have hlt := lt_of_block hh
      have h' : W.heap[g] = .cells cur e (0, 0) := by simpa [Array.getElem?_eq_getElem hlt] using hh
      show (W.heap.modify g _)[g]? = _
      rw [Array.getElem?_eq_getElem (by simpa using hlt), Array.getElem_modify_self, h']
      rfl
    · rw [← r4, Array.toList_setIfInBounds, List.take_set]
/-- The four slices of a function. -/
structure FV where
  a : Value
  b : Value
  l : Value
  c : Value
def FV.cs (x : FV) : List Value := [x.a, x.b, x.l, x.c]
def FOwn (B : Nat) (f : Fn) (x : FV) (W : World) : Prop := HeadRows B f x.a x.b x.l W ∧ W.ownsRow B 23 2 x.c f.code.length (cellsI f.code)
theorem FOwn.chg {B : Nat} {f : Fn} {x : FV} {W W' : World} {t0 : TypeId} (h : FOwn B f x W) (hc : ChgT t0 W W') (h1 : 3 ≠ t0) (h2 : 23 ≠ t0) : FOwn B f x W' :=
  ⟨⟨hc.row h.1.1 h1, hc.row h.1.2.1 h1, hc.row h.1.2.2 h1⟩, hc.row h.2 h2⟩
def cellsF (L : List (Fn × FV)) : List Value := L.flatMap fun x => x.2.cs
theorem cellsF_len (L : List (Fn × FV)) : (cellsF L).length = L.length * 4 := by
  induction L with
  | nil => rfl
  | cons x L ih => simp [cellsF, FV.cs] at ih ⊢; omega
structure RL (B : Nat) (cs : List (List UInt8)) (L : List (Fn × FV)) (v0 v1 : Value) (W : World) : Prop where
  box : W.heap[B]? = some (.cells #[v0, v1] 39 (0, 0))
  rc : W.ownsRow (B + 1) 9 1 v0 cs.length (cellsS cs)
  rf : W.ownsRow (B + 1) 32 4 v1 L.length (cellsF L)
  each : ∀ x ∈ L, FOwn (B + 1) x.1 x.2 W
  far : L.Pairwise fun x y => x.2.c.ownBlock = y.2.c.ownBlock → x.2.c.ownBlock = none
theorem RL.keep {B : Nat} {cs : List (List UInt8)} {L : List (Fn × FV)} {v0 v1 : Value} {W W' : World} (h : RL B cs L v0 v1 W) (hb : Below W.heap.size W W') : RL B cs L v0 v1 W' :=
  ⟨(hb.block _ (lt_of_block h.box)).trans h.box, row_below2 h.rc hb, row_below2 h.rf hb, fun x hx => (h.each x hx).chg (ChgT.below hb 9) (by decide) (by decide), h.far⟩
theorem RL.new (w : World) : RL w.heap.size [] [] (.slice none 0 0) (.slice none 0 0) (w.alloc (.cells #[.slice none 0 0, .slice none 0 0] 39)) :=
  ⟨heap_alloc_new w _, World.ownsRow_nil _ _ _ _, World.ownsRow_nil _ _ _ _, fun x hx => (by cases hx), List.Pairwise.nil⟩
/-- One constant more. -/
theorem RL.const {B : Nat} {cs : List (List UInt8)} {L : List (Fn × FV)} {v0 v1 v' : Value} {W W2 : World} {s : List UInt8} (h : RL B cs L v0 v1 W) (hr : W2.ownsRow (B + 1) 9 1 v' (cs.length + 1) (cellsS cs ++ [.string ⟨s.toArray⟩])) (hs : Step W v0 W2 v') : RL B (cs ++ [s]) L v' v1 (W2.setCell ⟨B, 0, none⟩ v') := by
  have c1 := ChgT.step h.rc hs
  have b2 := c1 B _ _ _ (by decide) h.box
  have c2 : ChgT 39 W2 (W2.setCell ⟨B, 0, none⟩ v') := ChgT.set b2
  refine ⟨set2_0 b2, ?_, c2.row (c1.row h.rf (by decide)) (by decide), fun x hx => ((h.each x hx).chg c1 (by decide) (by decide)).chg c2 (by decide) (by decide), h.far⟩
  have : cellsS (cs ++ [s]) = cellsS cs ++ [.string ⟨s.toArray⟩] := by simp [cellsS]
  rw [this, List.length_append]
  exact c2.row hr (by decide)
/-- One function more. -/
theorem RL.func {B : Nat} {cs : List (List UInt8)} {L : List (Fn × FV)} {v0 v1 v' : Value} {W W2 : World} {f : Fn} {x : FV} (h : RL B cs L v0 v1 W) (hx : FOwn (B + 1) f x W) (hc : x.c.ownBlock = none) (hr : W2.ownsRow (B + 1) 32 4 v' (L.length + 1) (cellsF L ++ x.cs)) (hs : Step W v1 W2 v') : RL B cs (L ++ [(f, x)]) v0 v' (W2.setCell ⟨B, 1, none⟩ v') := by
  have c1 := ChgT.step h.rf hs
  have b2 := c1 B _ _ _ (by decide) h.box
  have c2 : ChgT 39 W2 (W2.setCell ⟨B, 1, none⟩ v') := ChgT.set b2
  refine ⟨set2_1 b2, c2.row (c1.row h.rc (by decide)) (by decide), ?_, fun y hy => ?_, ?_⟩
  · have : cellsF (L ++ [(f, x)]) = cellsF L ++ x.cs := by simp [cellsF]
    rw [this, List.length_append]
    exact c2.row hr (by decide)
  · rcases List.mem_append.1 hy with hy | hy
    · exact ((h.each y hy).chg c1 (by decide) (by decide)).chg c2 (by decide) (by decide)
    · obtain rfl : y = (f, x) := by simpa using hy
      exact (hx.chg c1 (by decide) (by decide)).chg c2 (by decide) (by decide)
  · refine List.pairwise_append.2 ⟨h.far, List.pairwise_singleton _ _, fun y _ z hz e => ?_⟩
    obtain rfl : z = (f, x) := by simpa using hz
    rw [e]
    exact hc
def Fn.add (f : Fn) (x : Int × Int) : Fn := ⟨f.p, f.r, f.l, f.code ++ [x]⟩
/-- One instruction more, at the last function's end. -/
theorem RL.instr {B : Nat} {cs : List (List UInt8)} {L : List (Fn × FV)} {v0 : Value} {g cap : Nat} {W W2 : World} {f : Fn} {y : FV} {c' : Value} {x : Int × Int} (h : RL B cs (L ++ [(f, y)]) v0 (.slice (some ⟨g, 0, none⟩) (L.length + 1) cap) W)
    (hr : W2.ownsRow (B + 1) 23 2 c' (f.code.length + 1) (cellsI f.code ++ [.int .i64 x.1, .int .i64 x.2])) (hs : Step W y.c W2 c') : RL B cs (L ++ [(f.add x, { y with c := c' })]) v0 (.slice (some ⟨g, 0, none⟩) (L.length + 1) cap) (W2.setCell ⟨g, L.length * 4 + 3, none⟩ c') := by
  have hy := h.each (f, y) (by simp)
  have c1 := ChgT.step hy.2 hs
  have rf2 := c1.row h.rf (by decide)
  have hlen : (L ++ [(f, y)]).length = L.length + 1 := by simp
  rw [hlen] at rf2
  have bg : ∃ cur, W2.heap[g]? = some (.cells cur 32 (0, 0)) := by
    rcases rf2.2 with ⟨q, _⟩ | ⟨g', cap', cur, q, _, hh, _⟩
    · cases q
    · cases q
      exact ⟨cur, hh⟩
  obtain ⟨cur, bg⟩ := bg
  have c2 : ChgT 32 W2 (W2.setCell ⟨g, L.length * 4 + 3, none⟩ c') := ChgT.set bg
  refine ⟨c2 B _ _ _ (by decide) (c1 B _ _ _ (by decide) h.box), c2.row (c1.row h.rc (by decide)) (by decide), ?_, fun z hz => ?_, ?_⟩
  · have e : cellsF (L ++ [(f.add x, { y with c := c' })]) = (cellsF (L ++ [(f, y)])).set (L.length * 4 + 3) c' := by
      have e1 : ∀ z : Fn × FV, cellsF (L ++ [z]) = cellsF L ++ z.2.cs := fun z => by simp [cellsF]
      rw [e1, e1, List.set_append, if_neg (by rw [cellsF_len]; omega), cellsF_len, Nat.add_sub_cancel_left]
      rfl
    have hl2 : (L ++ [(f.add x, { y with c := c' })]).length = L.length + 1 := by simp
    rw [e, hl2]
    exact row_set5 rf2
  · rcases List.mem_append.1 hz with hz | hz
    · have o := h.each z (List.mem_append_left _ hz)
      have hf := (List.pairwise_append.1 h.far).2.2 z hz (f, y) (by simp)
      refine FOwn.chg ⟨⟨c1.row o.1.1 (by decide), c1.row o.1.2.1 (by decide), c1.row o.1.2.2 (by decide)⟩, ?_⟩ c2 (by decide) (by decide)
      refine o.2.kept hs.1 ?_
      by_cases q : z.2.c.ownBlock = y.c.ownBlock
      · exact .inl (hf q)
      · exact .inr q
    · obtain rfl : z = (f.add x, { y with c := c' }) := by simpa using hz
      refine ⟨⟨c2.row (c1.row hy.1.1 (by decide)) (by decide), c2.row (c1.row hy.1.2.1 (by decide)) (by decide), c2.row (c1.row hy.1.2.2 (by decide)) (by decide)⟩, ?_⟩
      have : cellsI (f.add x).code = cellsI f.code ++ [.int .i64 x.1, .int .i64 x.2] := by simp [cellsI, Fn.add]
      rw [this, show (f.add x).code.length = f.code.length + 1 by simp [Fn.add]]
      exact c2.row hr (by decide)
  · obtain ⟨p1, _, p3⟩ := List.pairwise_append.1 h.far
    refine List.pairwise_append.2 ⟨p1, List.pairwise_singleton _ _, fun z hz u hu e => ?_⟩
    obtain rfl : u = (f.add x, { y with c := c' }) := by simpa using hu
    simp only at e
    rcases hs.2 with h2 | ⟨k, h2, hk⟩
    · rw [h2] at e
      exact p3 z hz (f, y) (by simp) e
    · have := ((h.each z (List.mem_append_left _ hz)).2.lt k (e.trans h2)).2
      omega
theorem is_of_row5 {W : World} {B base : Nat} {v : Value} {ns : List (Int × Int)} (hB : B ≤ base) (h : W.ownsRow base 23 2 v ns.length (cellsI ns)) : ∃ a c, v = .slice a ns.length c ∧ IsAt (upF B W.cell?) a ns := by
  obtain ⟨a, c, rfl, _, _, hc⟩ := row_form h
  refine ⟨a, c, rfl, ?_⟩
  rcases hc with ⟨_, h0, _⟩ | ⟨g, rfl, hg, _, hcell⟩
  · exact .inl (List.eq_nil_of_length_eq_zero h0)
  · refine .inr ⟨g, 0, rfl, fun j hj => ?_⟩
    have key : ∀ (ns : List (Int × Int)) (j : Nat) (hj : j < ns.length), (cellsI ns)[j * 2]? = some (.int .i64 ns[j].1) ∧ (cellsI ns)[j * 2 + 1]? = some (.int .i64 ns[j].2) := by
      intro ns
      induction ns with
      | nil => intro j hj; simp at hj
      | cons y ns ih =>
        intro j hj
        have e : cellsI (y :: ns) = .int .i64 y.1 :: .int .i64 y.2 :: cellsI ns := by simp [cellsI]
        cases j with
        | zero => rw [e]; exact ⟨rfl, rfl⟩
        | succ j =>
          have := ih j (by simpa using hj)
          rw [e, show (j + 1) * 2 = j * 2 + 1 + 1 by omega, show j * 2 + 1 + 1 + 1 = (j * 2 + 1) + 1 + 1 by omega]
          simpa using this
    unfold upF
    rw [if_pos (show B ≤ g by omega), if_pos (show B ≤ g by omega), Nat.zero_add]
    exact ⟨hcell _ _ (key ns j hj).1, hcell _ _ (key ns j hj).2⟩
theorem ss_of_row5 {W : World} {B base : Nat} {v : Value} {ns : List (List UInt8)} (hB : B ≤ base) (h : W.ownsRow base 9 1 v ns.length (cellsS ns)) : ∃ a c, v = .slice a ns.length c ∧ SsAt (upF B W.cell?) a ns := by
  obtain ⟨a, c, rfl, _, _, hc⟩ := row_form h
  refine ⟨a, c, rfl, ?_⟩
  rcases hc with ⟨_, h0, _⟩ | ⟨g, rfl, hg, _, hcell⟩
  · exact .inl (List.eq_nil_of_length_eq_zero h0)
  · refine .inr ⟨g, 0, rfl, fun j hj => ?_⟩
    unfold upF
    rw [if_pos (show B ≤ g by omega), Nat.zero_add]
    exact hcell j _ (by simp [cellsS, hj])
theorem FOwn.is {B base : Nat} {f : Fn} {x : FV} {W : World} (hB : B ≤ base) (h : FOwn base f x W) : FnIs (upF B W.cell?) f x.a x.b x.l x.c :=
  ⟨ns_of_row5 hB h.1.1, ns_of_row5 hB h.1.2.1, ns_of_row5 hB h.1.2.2, is_of_row5 hB h.2⟩
/-- So the script lies there. -/
theorem RL.is {B : Nat} {cs : List (List UInt8)} {L : List (Fn × FV)} {v0 v1 : Value} {W : World} (h : RL B cs L v0 v1 W) : ScIs (upF (B + 1) W.cell?) ⟨cs, L.map (·.1)⟩ v0 v1 := by
  refine ⟨ss_of_row5 (Nat.le_refl _) h.rc, ?_⟩
  obtain ⟨a, c, rfl, _, _, hc⟩ := row_form h.rf
  refine ⟨a, c, by simp, ?_⟩
  rcases hc with ⟨_, h0, _⟩ | ⟨g, rfl, hg, _, hcell⟩
  · exact .inl (by simpa using h0)
  · refine .inr ⟨g, 0, rfl, fun j hj => ?_⟩
    have hj' : j < L.length := by simpa using hj
    have key : ∀ (L : List (Fn × FV)) (j : Nat) (hj : j < L.length), (cellsF L)[j * 4]? = some L[j].2.a ∧ (cellsF L)[j * 4 + 1]? = some L[j].2.b ∧ (cellsF L)[j * 4 + 2]? = some L[j].2.l ∧ (cellsF L)[j * 4 + 3]? = some L[j].2.c := by
      intro L
      induction L with
      | nil => intro j hj; simp at hj
      | cons y ns ih =>
        intro j hj
        have e : cellsF (y :: ns) = y.2.a :: y.2.b :: y.2.l :: y.2.c :: cellsF ns := by simp [cellsF, FV.cs]
        cases j with
        | zero => rw [e]; exact ⟨rfl, rfl, rfl, rfl⟩
        | succ j =>
          have := ih j (by simpa using hj)
          rw [e, show (j + 1) * 4 = j * 4 + 1 + 1 + 1 + 1 by omega, show j * 4 + 1 + 1 + 1 + 1 + 1 = (j * 4 + 1) + 1 + 1 + 1 + 1 by omega, show j * 4 + 1 + 1 + 1 + 1 + 2 = (j * 4 + 2) + 1 + 1 + 1 + 1 by omega, show j * 4 + 1 + 1 + 1 + 1 + 3 = (j * 4 + 3) + 1 + 1 + 1 + 1 by omega]
          simpa using this
    obtain ⟨k0, k1, k2, k3⟩ := key L j hj'
    have up : ∀ o v, W.cell? ⟨g, o, none⟩ = some v → upF (B + 1) W.cell? ⟨g, o, none⟩ = some v := fun o v q => by
      unfold upF
      rw [if_pos (show B + 1 ≤ g by omega)]
      exact q
    refine ⟨_, _, _, _, up _ _ (by rw [Nat.zero_add]; exact hcell _ _ k0), up _ _ (by rw [Nat.zero_add]; exact hcell _ _ k1), up _ _ (by rw [Nat.zero_add]; exact hcell _ _ k2), up _ _ (by rw [Nat.zero_add]; exact hcell _ _ k3), ?_⟩
    have := (h.each L[j] (List.getElem_mem hj')).is (Nat.le_refl (B + 1))
    simpa using this
end Go.Proofs.YtbjipcpoiiegkaaGreatDoor
namespace Go.Proofs.YtbjipcpoiiegkaaGreatDoor
open Go.RowKit Go.Shelf
attribute [local go_sem high] eq_val eq_val0
theorem wrap_small (x : Int) (h0 : 0 ≤ x) (h1 : x ≤ 9223372036854775807) : IntKind.i64.wrap x = x := by
  rw [IntKind.wrap_i64]; omega
theorem zero_back {W : World} {b : Nat} (h : Boxed3 W b) : ValAt (((W.setCell ⟨b, 0, none⟩ (.int .i64 0)).setCell ⟨b, 1, none⟩ (.int .i64 0)).setCell ⟨b, 2, none⟩ (.string ⟨#[]⟩)).drew b ⟨0, 0, []⟩ := by
  have hh : (((W.setCell ⟨b, 0, none⟩ (.int .i64 0)).setCell ⟨b, 1, none⟩ (.int .i64 0)).setCell ⟨b, 2, none⟩ (.string ⟨#[]⟩)).drew.heap[b]? = some (.cells #[.int .i64 0, .int .i64 0, .string ⟨#[]⟩] 54 (0, 0)) := by
    show (((W.setCell ⟨b, 0, none⟩ (.int .i64 0)).setCell ⟨b, 1, none⟩ (.int .i64 0)).setCell ⟨b, 2, none⟩ (.string ⟨#[]⟩)).heap[b]? = _
    simp [World.setCell, Array.getElem?_modify, show W.heap[b]? = _ from h, Val.box]
  exact ⟨by rw [Lib.cell_of_heap hh]; rfl, by rw [Lib.cell_of_heap hh]; rfl, by rw [Lib.cell_of_heap hh]; rfl⟩
theorem set_box {W : World} {b : Nat} (h : Boxed3 W b) (x : Val) : ValAt (((W.setCell ⟨b, 0, none⟩ (.int .i64 x.t)).setCell ⟨b, 1, none⟩ (.int .i64 x.n)).setCell ⟨b, 2, none⟩ (.string ⟨x.b.toArray⟩)) b x := by
  have hh : (((W.setCell ⟨b, 0, none⟩ (.int .i64 x.t)).setCell ⟨b, 1, none⟩ (.int .i64 x.n)).setCell ⟨b, 2, none⟩ (.string ⟨x.b.toArray⟩)).heap[b]? = some (.cells #[.int .i64 x.t, .int .i64 x.n, .string ⟨x.b.toArray⟩] 54 (0, 0)) := by
    simp [World.setCell, Array.getElem?_modify, show W.heap[b]? = _ from h, Val.box]
  exact ⟨by rw [Lib.cell_of_heap hh]; rfl, by rw [Lib.cell_of_heap hh]; rfl, by rw [Lib.cell_of_heap hh]; rfl⟩
theorem below3b {w W : World} {u v x : Value} (h : Below w.heap.size w W) : Below w.heap.size w (((W.setCell ⟨w.heap.size, 0, none⟩ u).setCell ⟨w.heap.size, 1, none⟩ v).setCell ⟨w.heap.size, 2, none⟩ x).drew :=
  (((h.setCell (p := ⟨w.heap.size, 0, none⟩) (Nat.le_refl _) _).setCell (p := ⟨w.heap.size, 1, none⟩) (Nat.le_refl _) _).setCell (p := ⟨w.heap.size, 2, none⟩) (Nat.le_refl _) _).drew
theorem idx_below (l : List UInt8) (x : UInt8) : Lib.indexByte l x < l.length := by
  induction l with
  | nil => simp [Lib.indexByte]
  | cons a l ih =>
    simp only [Lib.indexByte, List.length_cons]
    split
    · omega
    · split <;> omega
theorem digit_is (x : UInt8) : Lib.indexByte hexDigits x = -1 ∨ ∃ h : Nat, h < 16 ∧ Lib.indexByte hexDigits x = h := by
  have H : ∀ x : UInt8, Lib.indexByte hexDigits x = -1 ∨ (0 ≤ Lib.indexByte hexDigits x ∧ Lib.indexByte hexDigits x < 16) := by
    intro x
    have g := Lib.indexByte_ge hexDigits x
    have l : Lib.indexByte hexDigits x < 16 := idx_below hexDigits x
    omega
  rcases H x with h | h
  · exact .inl h
  · exact .inr ⟨(Lib.indexByte hexDigits x).toNat, by omega, by omega⟩
theorem or_hex (h l : Nat) (hh : h < 16) (hl : l < 16) : bits .or .i64 (wrap64 ((h : Int) * 16)) (l : Int) % 256 = ((16 * h + l : Nat) : Int) := by
  have H : ((List.range 16).all fun a => (List.range 16).all fun b => bits .or .i64 (wrap64 ((a : Int) * 16)) (b : Int) % 256 == ((16 * a + b : Nat) : Int)) = true := by kernel_rfl
  rw [List.all_eq_true] at H
  have H1 := H h (by simpa using hh)
  rw [List.all_eq_true] at H1
  simpa using H1 l (by simpa using hl)
theorem unhex_cons {t : List UInt8} {k : Nat} (h : 2 * k + 1 < t.length) : unhex (t.drop (2 * k)) = if Lib.indexByte hexDigits t[2 * k] < 0 ∨ Lib.indexByte hexDigits t[2 * k + 1] < 0 then none else (unhex (t.drop (2 * (k + 1)))).map (UInt8.ofNat (16 * (Lib.indexByte hexDigits t[2 * k]).toNat + (Lib.indexByte hexDigits t[2 * k + 1]).toNat) :: ·) := by
  rw [List.drop_eq_getElem_cons (by omega), List.drop_eq_getElem_cons h, unhex, show 2 * (k + 1) = 2 * k + 1 + 1 by omega]

set_option maxRecDepth 100000 in
set_option maxHeartbeats 2000000 in
theorem readBytes_any (s : List UInt8) (hs : s.length ≤ 1048576) (w : World) : Calls Tryz.prog 102 #[.string ⟨s.toArray⟩] w (ReadEnd (readB s) w) := by
  have hC : ∀ W, Calls Tryz.prog 107 #[.string ⟨s.toArray⟩, .string ⟨#[39]⟩] W fun e w' => e = .returned (.tuple #[.string ⟨(Lib.trimSuffix s [39]).toArray⟩, .bool (Lib.hasSuffix s [39])]) ∧ w' = W := fun W => Tryz.strings_CutSuffix ⟨s.toArray⟩ ⟨#[39]⟩ W (by show s.toArray.size ≤ _; simp; omega)
  have hT : (Lib.trimSuffix s [39]).length ≤ s.length := by
    unfold Lib.trimSuffix
    split <;> simp
  obtain ⟨r, hr⟩ : ∃ r, r = readB s := ⟨_, rfl⟩
  rw [← hr]
  unfold readB at hr
  generalize Lib.trimSuffix s [39] = t at *
  generalize Lib.hasSuffix s [39] = ok at *
  have hz : ValAt (w.alloc (Val.box ⟨0, 0, []⟩)) w.heap.size ⟨0, 0, []⟩ := val_new w _
  cases ok with
  | false =>
    have hr' : r = none := by rw [hr]; rfl
    subst hr'
    clear hr
    go_enter Tryz.func102, Tryz.ntmps102
    go_wp2_with (go_at_call 107; refine (hC _).mono ?_; rintro e w' ⟨rfl, rfl⟩)
    exact ret_read rfl rfl rfl rfl hz ⟨rfl, (Below.refl _ w).alloc (Nat.le_refl _) _⟩
  | true =>
    by_cases hm : t.length % 2 = 0
    · obtain ⟨m, hm⟩ : ∃ m, t.length = 2 * m := ⟨t.length / 2, by omega⟩
      have hr' : r = (unhex t).map (⟨2, 0, ·⟩) := by rw [hr]; simp [show t.length % 2 = 0 by omega]
      clear hr
      have hmod : ((t.length : Int) % 2 != 0) = false := by simp; omega
      have hdiv : (t.length : Int) / 2 = m := by omega
      obtain ⟨i0, hi, hz0, hz1, hz2⟩ := info_parts (show (Tryz.prog.info? 5).map (fun i => (i.zero, i.size, i.bytes)) = some (some (.int .u8 0), 1, 1) by kernel_rfl)
      go_enter Tryz.func102, Tryz.ntmps102
      go_wp2_with (first | (go_at_call 107; refine (hC _).mono ?_; rintro e w' ⟨rfl, rfl⟩) | (at_make; refine wpList_make_own _ rfl _ _ 73 rfl (w.heap.size + 1) 5 i0 (.int .u8 0) 1 Tryz.underlying73 hi hz0 hz1 _ _ _ m rfl rfl rfl ?b1 ?b2 ?b3 ?_))
      case b1 => rw [hz2]; omega
      case b2 => unfold maxLen; omega
      case b3 => simp
      intro w2 ho hg
      have hb2 : Below w.heap.size w w2 := ((Below.refl _ w).alloc (Nat.le_refl _) _).grown hg (by simp) (fun k h => by cases h)
      have hz2' : Boxed3 w2 w.heap.size := (hg.block _ (by simp) (by simp)).trans (World.alloc_heap_new w _)
      obtain ⟨v0, hv0⟩ : ∃ v0, v0 = Value.slice (some ⟨w.heap.size + 1, 0, none⟩) 0 m := ⟨_, rfl⟩
      rw [← hv0] at ho ⊢
      clear hg hz hv0
      go_wp2
      go_loopw [6, 7] (fun v i wr => ∃ (k : Nat) (xs : List UInt8), k ≤ m ∧ i = .int .i64 (2 * (k : Int)) ∧ xs.length = k ∧ wr.ownsRow (w.heap.size + 1) 5 1 v k (Lib.byteCells xs) ∧ unhex t = (unhex (t.drop (2 * k))).map (xs ++ ·) ∧ Boxed3 wr w.heap.size ∧ Below w.heap.size w wr) (fun _ i _ => 2 * m - (intOf i).toNat)
      case atStart => exact ⟨0, [], Nat.zero_le _, rfl, rfl, ho, by simp, hz2', hb2⟩
      case round =>
        obtain ⟨k, xs, hk, rfl, hxl, hown, hu, hbx, hb⟩ := hrel
        by_cases hlt : k < m
        · have hI : ∀ (c : Int) W, Calls Tryz.prog 108 #[.string ⟨#[48, 49, 50, 51, 52, 53, 54, 55, 56, 57, 97, 98, 99, 100, 101, 102]⟩, .int .u8 c] W fun e w' => e = .returned (.int .i64 (Lib.indexByte hexDigits c.toNat.toUInt8)) ∧ w' = W := fun c W => Tryz.strings_IndexByte ⟨#[48, 49, 50, 51, 52, 53, 54, 55, 56, 57, 97, 98, 99, 100, 101, 102]⟩ c W
          have l0 : 2 * k < t.length := by omega
          have l1 : 2 * k + 1 < t.length := by omega
          have hmm : m ≤ 524288 := by omega
          have hkk : k ≤ 524288 := by omega
          have hwrap : IntKind.i64.wrap (2 * (k : Int) + 1) = 2 * (k : Int) + 1 := wrap_small _ (by omega) (by omega)
          have q0 : (0 : Int) ≤ 2 * (k : Int) + 1 := by omega
          have q1 : 2 * (k : Int) + 1 < 2 * (m : Int) := by omega
          have q2 : (0 : Int) ≤ 2 * (k : Int) + 1 ∧ 2 * (k : Int) + 1 < 2 * (m : Int) := ⟨q0, q1⟩
          have hun := unhex_cons l1
          have e0 : (⟨t.toArray⟩ : ByteArray)[2 * k]'(by show 2 * k < t.toArray.size; simpa using l0) = t[2 * k] := by simp [ByteArray.getElem_eq_getElem_data]
          have e1 : (⟨t.toArray⟩ : ByteArray)[2 * k + 1]'(by show 2 * k + 1 < t.toArray.size; simpa using l1) = t[2 * k + 1] := by simp [ByteArray.getElem_eq_getElem_data]
          generalize t[2 * k] = x at e0 hun
          generalize t[2 * k + 1] = y at e1 hun
          have hf0 : ∀ j, wr.frozen? ⟨w.heap.size, j, none⟩ = false := fun j => Lib.frozen_of_heap hbx j
          have hf0a := hf0 0
          have hf0b := hf0 1
          have hf0c := hf0 2
          have hz0a : wr.cell? ⟨w.heap.size, 0, none⟩ = some (.int .i64 0) := by rw [Lib.cell_of_heap hbx]; rfl
          have hz0b : wr.cell? ⟨w.heap.size, 1, none⟩ = some (.int .i64 0) := by rw [Lib.cell_of_heap hbx]; rfl
          have hz0c : wr.cell? ⟨w.heap.size, 2, none⟩ = some (.string ⟨#[]⟩) := by rw [Lib.cell_of_heap hbx]; rfl
          clear hC
          rcases digit_is x with hA | ⟨h, hh, hA⟩
          · have hrn : r = none := by rw [hr', hu, hun, if_pos (.inl (by rw [hA]; decide))]; rfl
            subst hrn
            clear hr' hu hun
            go_wp2
            go_region_with (first | (go_at_call 108; refine (hI _ _).mono ?_; rintro e w' ⟨rfl, rfl⟩))
            all_goals go_wp2
            all_goals exact ret_read rfl rfl rfl rfl (zero_back hbx) ⟨rfl, below3b hb⟩
          rcases digit_is y with hB | ⟨l, hl, hB⟩
          · have hrn : r = none := by rw [hr', hu, hun, if_pos (.inr (by rw [hB]; decide))]; rfl
            subst hrn
            clear hr' hu hun
            go_wp2
            go_region_with (first | (go_at_call 108; refine (hI _ _).mono ?_; rintro e w' ⟨rfl, rfl⟩))
            all_goals go_wp2
            all_goals exact ret_read rfl rfl rfl rfl (zero_back hbx) ⟨rfl, below3b hb⟩
          · have HU : Hid (unhex t = (unhex (t.drop (2 * (k + 1)))).map ((xs ++ [UInt8.ofNat (16 * h + l)]) ++ ·)) := hid (by
              rw [hu, hun, if_neg (by rw [hA, hB]; omega), hA, hB]
              simp [Option.map_map, Function.comp_def])
            have HO : Hid (bits .or .i64 ((h : Int) * 16) (l : Int) % 256 = ((UInt8.ofNat (16 * h + l)).toNat : Int)) := hid (by
              have e : wrap64 ((h : Int) * 16) = (h : Int) * 16 := by unfold wrap64; omega
              have := or_hex h l hh hl
              rw [e] at this
              rw [this, UInt8.toNat_ofNat']
              omega)
            have HX : Hid (Lib.byteCells (xs ++ [UInt8.ofNat (16 * h + l)]) = Lib.byteCells xs ++ [.int .u8 (bits .or .i64 ((h : Int) * 16) (l : Int) % 256)]) := hid (by rw [HO.out]; simp [Lib.byteCells])
            have hown' : (wr.alloc (.cells #[.int .u8 (bits .or .i64 ((h : Int) * 16) (l : Int) % 256)] 5)).drew.ownsRow (w.heap.size + 1) 5 1 u6 k (Lib.byteCells xs) := hown.alloc _
            have hnw : ∀ j u, [Value.int .u8 (bits .or .i64 ((h : Int) * 16) (l : Int) % 256)][j]? = some u → (wr.alloc (.cells #[.int .u8 (bits .or .i64 ((h : Int) * 16) (l : Int) % 256)] 5)).drew.cell? ((⟨wr.heap.size, 0, none⟩ : Addr).add j) = some u := cell_one_new _ _ _
            have hbs := hb.size
            clear hu hun
            go_wp2
            go_region_with (first | (go_at_call 108; refine (hI _ _).mono ?_; rintro e w' ⟨rfl, rfl⟩))
            all_goals (go_wp2_with (at_builtin; refine wpList_append_own_at _ rfl _ _ 73 rfl (w.heap.size + 1) 5 i0 (.int .u8 0) 1 1 Tryz.underlying73 hi hz0 hz1 hz2 rfl (by decide) u6 k _ rfl hown' ⟨wr.heap.size, 0, none⟩ 1 1 [.int .u8 (bits .or .i64 ((h : Int) * 16) (l : Int) % 256)] rfl rfl hnw (by simp [Value.oneCell']) (by unfold maxLen; omega) (by omega) (by simp; omega) ?_; intro v' w3 hown2 hgrow _ _))
            all_goals
              have hb3 : Below w.heap.size w w3 := ((hb.alloc hb.size _).drew).grown hgrow (by simp; omega) (fun j hj => Nat.le_of_succ_le (hown.lt j hj).1)
              have hlw : w.heap.size < wr.heap.size := (Array.getElem?_eq_some_iff.1 hbx).1
              have hbx3 : Boxed3 w3 w.heap.size := (hgrow.block _ (by simp; omega) (fun e => by have := (hown.lt _ e.symm).1; omega)).trans ((Below.heap_alloc wr _ _ (by omega)).trans hbx)
              rw [← HX.out] at hown2
              go_roundw
              case rel => exact ⟨k + 1, xs ++ [UInt8.ofNat (16 * h + l)], by omega, by rw [show (2 * ((k + 1 : Nat) : Int)) = 2 * (k : Int) + 2 by omega], by simp [hxl], hown2, HU.out, hbx3, hb3⟩
              case measure => simp [intOf]; omega
        · obtain rfl : k = m := by omega
          have hrs : r = some ⟨2, 0, xs⟩ := by rw [hr', hu, List.drop_of_length_le (by omega)]; simp [unhex]
          have hcv : (convert 73 9 u6).run Tryz.prog wr = .ok (.string ⟨xs.toArray⟩) wr := by
            rcases hown.2 with ⟨rfl, h0'⟩ | ⟨g, cap, cur, rfl, hg, hh, rr⟩
            · obtain rfl : xs = [] := by rw [h0'] at hxl; simpa using hxl
              exact run_convert_bytes_nil wr 73 5 Tryz.underlying73 Tryz.underlying5 0 0 9 Tryz.underlying9
            · have hc := World.ownsRow.cells hown (g := g) rfl
              rw [run_convert_bytes_arg wr 73 5 Tryz.underlying73 Tryz.underlying5 g 0 k cap (xs.map fun b => (b.toNat : Int)) (by simp [hxl]) (fun i hi => ?_) 9 Tryz.underlying9]
              · unfold strOfNums
                rw [List.map_map]
                simp [Function.comp_def]
              · have := hc i (Value.int .u8 (xs[i].toNat : Int)) (by simp [Lib.byteCells, show i < xs.length by omega])
                rw [Addr.add_lit] at this
                rw [this]
                simp [List.getD, show i < xs.length by omega]
          have hz0a : wr.cell? ⟨w.heap.size, 0, none⟩ = some (.int .i64 0) := by rw [Lib.cell_of_heap hbx]; rfl
          have hz0b : wr.cell? ⟨w.heap.size, 1, none⟩ = some (.int .i64 0) := by rw [Lib.cell_of_heap hbx]; rfl
          have hz0c : wr.cell? ⟨w.heap.size, 2, none⟩ = some (.string ⟨#[]⟩) := by rw [Lib.cell_of_heap hbx]; rfl
          have hf0a := Lib.frozen_of_heap hbx 0
          have hf0b := Lib.frozen_of_heap hbx 1
          have hf0c := Lib.frozen_of_heap hbx 2
          have hlw : w.heap.size < wr.heap.size := (Array.getElem?_eq_some_iff.1 hbx).1
          subst hrs
          clear hr' hu hC
          go_wp2_with (go_at_call 47; refine (text_any' xs _).mono ?_; rintro e w' ⟨rfl, rfl⟩; simp only [Val.box, Val.v])
          refine ret_read rfl rfl rfl rfl ((set_box hbx ⟨2, 0, xs⟩).keep (keep_alloc _ _)) ⟨rfl, ?_⟩
          exact (((hb.setCell (p := ⟨w.heap.size, 0, none⟩) (Nat.le_refl _) _).setCell (p := ⟨w.heap.size, 1, none⟩) (Nat.le_refl _) _).setCell (p := ⟨w.heap.size, 2, none⟩) (Nat.le_refl _) _).alloc (by simp [World.setCell]; omega) _
    · have hr' : r = none := by rw [hr]; simp [hm]
      subst hr'
      clear hr
      have hmod : ((t.length : Int) % 2 != 0) = true := by simp; omega
      go_enter Tryz.func102, Tryz.ntmps102
      go_wp2_with (go_at_call 107; refine (hC _).mono ?_; rintro e w' ⟨rfl, rfl⟩)
      exact ret_read rfl rfl rfl rfl hz ⟨rfl, (Below.refl _ w).alloc (Nat.le_refl _) _⟩
end Go.Proofs.YtbjipcpoiiegkaaGreatDoor
