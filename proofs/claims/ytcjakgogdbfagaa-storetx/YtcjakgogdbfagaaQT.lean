/- Layer 11: a transaction: Begin, Load, Save. Layer 11: a transaction's Load and Save. -/
import Derived.Test.YtcjakgogdbfagaaQS
namespace Go.Proofs.Ytcjakgogdbfagaa
open Go.RowKit
/-- Where a transaction lies. -/
structure TxB where
  (xb cb tb g sb sg wb wg : Nat)
def TxB.l (b : TxB) : List Nat := [b.xb, b.cb, b.tb, b.g, b.sb, b.sg, b.wb, b.wg]
/-- Its blocks are apart. -/
structure TxD (b : TxB) : Prop where
  (xc : b.xb ≠ b.cb) (xt : b.xb ≠ b.tb) (xg : b.xb ≠ b.g) (xs : b.xb ≠ b.sb) (xh : b.xb ≠ b.sg) (xw : b.xb ≠ b.wb) (xv : b.xb ≠ b.wg) (ct : b.cb ≠ b.tb) (cg : b.cb ≠ b.g) (cs : b.cb ≠ b.sb) (ch : b.cb ≠ b.sg) (cw : b.cb ≠ b.wb) (cv : b.cb ≠ b.wg) (tg : b.tb ≠ b.g) (ts : b.tb ≠ b.sb) (th : b.tb ≠ b.sg) (tw : b.tb ≠ b.wb) (tv : b.tb ≠ b.wg) (gs : b.g ≠ b.sb) (gh : b.g ≠ b.sg) (gw : b.g ≠ b.wb) (gv : b.g ≠ b.wg) (sh : b.sb ≠ b.sg) (sw : b.sb ≠ b.wb) (sv : b.sb ≠ b.wg) (hw : b.sg ≠ b.wb) (hv : b.sg ≠ b.wg) (wv : b.wb ≠ b.wg)
structure TxAt (b : TxB) (L S D : Kvs) (more : Int) (w : World) : Prop where
  box : w.heap[b.xb]? = some (.cells #[.pointer (some ⟨b.tb, 0, none⟩), .pointer (some ⟨b.cb, 0, none⟩)] 65 (0, 0))
  cbx : w.heap[b.cb]? = some (.cells #[.pointer (some ⟨b.sb, 0, none⟩), .pointer (some ⟨b.wb, 0, none⟩), .int .i64 more] 59 (0, 0))
  t : TreeAt b.tb b.g L w
  s : TreeAt b.sb b.sg S w
  d : TreeAt b.wb b.wg D w
  nd : TxD b
theorem load_chg {w : World} {b : Nat} {x0 x1 x2 : Value} (h : w.heap[b]? = some (.cells #[x0, x1, x2] 59 (0, 0))) : (loadVar 59 ⟨b, 0, none⟩).run Try.prog w = .ok (.agg #[x0, x1, x2]) w := by
  have c0 := Lib.cell_of_heap h 0
  have c1 := Lib.cell_of_heap h 1
  have c2 := Lib.cell_of_heap h 2
  simp at c0 c1 c2
  simp [loadVar, go_sem, c0, c1, c2]
theorem ret_chg {fn : Func} {R : Ending → World → Prop} {a : Act} {t : Tmp} {W : World} {b : Nat} {x0 x1 x2 : Value} (h : fn.results = #[.cell t 59]) (ha : a.tmps[t]?.getD undef = .pointer (some ⟨b, 0, none⟩)) (hd : a.defers = []) (hb : W.heap[b]? = some (.cells #[x0, x1, x2] 59 (0, 0))) (hR : R (.returned (.agg #[x0, x1, x2])) W) : bodyPost Try.prog fn R .ret a W :=
  bodyPost_ret (v := .agg #[x0, x1, x2]) (by simp [results, h, ha, asAddr, load_chg hb]) hd hR
def set3c (W : World) (b : Nat) (x0 x1 x2 : Value) : World := ((W.setCell ⟨b, 0, none⟩ x0).setCell ⟨b, 1, none⟩ x1).setCell ⟨b, 2, none⟩ x2
theorem set3c_blk {W : World} {b : Nat} {y0 y1 y2 : Value} (h : W.heap[b]? = some (.cells #[y0, y1, y2] 59 (0, 0))) (x0 x1 x2 : Value) : (set3c W b x0 x1 x2).heap[b]? = some (.cells #[x0, x1, x2] 59 (0, 0)) := by
  unfold set3c
  have e0 := heap_setCell_same W b 0 _ _ x0 h
  have e1 := heap_setCell_same _ b 1 _ _ x1 e0
  have e2 := heap_setCell_same _ b 2 _ _ x2 e1
  rw [e2]
  rfl
theorem set3c_other {W : World} {b i : Nat} {x0 x1 x2 : Value} (h : i ≠ b) : (set3c W b x0 x1 x2).heap[i]? = W.heap[i]? :=
  ((Below.heap_setCell _ _ _ _ h).trans (Below.heap_setCell _ _ _ _ h)).trans (Below.heap_setCell _ _ _ _ h)
theorem below_set3c {B b : Nat} {w W : World} {x0 x1 x2 : Value} (h : Below B w W) (hb : B ≤ b) : Below B w (set3c W b x0 x1 x2) :=
  ((h.setCell (p := ⟨b, 0, none⟩) hb _).setCell (p := ⟨b, 1, none⟩) hb _).setCell (p := ⟨b, 2, none⟩) hb _
theorem noChanges_any (w : World) : Calls Try.prog 27 #[] w fun e w' => ∃ sb wb, e = .returned (.agg #[.pointer (some ⟨sb, 0, none⟩), .pointer (some ⟨wb, 0, none⟩), .int .i64 0]) ∧ Hid (∃ sg wg, TreeAt sb sg [] w' ∧ TreeAt wb wg [] w' ∧ [sb, sg, wb, wg].Nodup ∧ w.heap.size ≤ sb ∧ w.heap.size ≤ sg ∧ w.heap.size ≤ wb ∧ w.heap.size ≤ wg ∧ Below w.heap.size w w') := by
  have HN := hidb (newTree_any (w.alloc (.cells #[.pointer none, .pointer none, .int .i64 0] 59)))
  have HN2 := hidb newTree_any
  have HE : Hid (∀ sb w1 wb w2, (∃ g, TreeAt sb g [] w1 ∧ (w.alloc (.cells #[.pointer none, .pointer none, .int .i64 0] 59)).heap.size ≤ sb ∧ (w.alloc (.cells #[.pointer none, .pointer none, .int .i64 0] 59)).heap.size ≤ g ∧ Below (w.alloc (.cells #[.pointer none, .pointer none, .int .i64 0] 59)).heap.size (w.alloc (.cells #[.pointer none, .pointer none, .int .i64 0] 59)) w1) → (∃ g, TreeAt wb g [] w2 ∧ w1.heap.size ≤ wb ∧ w1.heap.size ≤ g ∧ Below w1.heap.size w1 w2) →
      w2.heap[w.heap.size]? = some (.cells #[.pointer none, .pointer none, .int .i64 0] 59 (0, 0)) ∧ (∃ sg wg, TreeAt sb sg [] (set3c w2 w.heap.size (.pointer (some ⟨sb, 0, none⟩)) (.pointer (some ⟨wb, 0, none⟩)) (.int .i64 0)) ∧ TreeAt wb wg [] (set3c w2 w.heap.size (.pointer (some ⟨sb, 0, none⟩)) (.pointer (some ⟨wb, 0, none⟩)) (.int .i64 0)) ∧ [sb, sg, wb, wg].Nodup ∧ w.heap.size ≤ sb ∧ w.heap.size ≤ sg ∧ w.heap.size ≤ wb ∧ w.heap.size ≤ wg ∧ Below w.heap.size w (set3c w2 w.heap.size (.pointer (some ⟨sb, 0, none⟩)) (.pointer (some ⟨wb, 0, none⟩)) (.int .i64 0)))) := hidb fun sb w1 wb w2 ⟨sg, t1, x1, x2, b1⟩ ⟨wg, t2, y1, y2, b2⟩ => by
    have hs : (w.alloc (.cells #[.pointer none, .pointer none, .int .i64 0] 59)).heap.size = w.heap.size + 1 := by simp
    rw [hs] at x1 x2
    have s1 := b1.size
    have l1 := t1.lts
    have l2 := t2.lts
    have t1' := t1.below b2
    have hB : Below w.heap.size w w2 := ((Below.refl _ w).alloc (Nat.le_refl _) _).trans ((b1.mono (by omega)).trans (b2.mono (by omega)))
    refine ⟨(b2.block _ (by omega)).trans ((b1.block _ (by omega)).trans (heap_alloc_new w _)), sg, wg, t1'.keep (set3c_other (by omega)) (set3c_other (by omega)), t2.keep (set3c_other (by omega)) (set3c_other (by omega)), ?_, by omega, by omega, by omega, by omega, below_set3c hB (Nat.le_refl _)⟩
    simp only [List.nodup_cons, List.mem_cons, List.not_mem_nil, or_false, not_or]
    refine ⟨⟨l1.2.2, ?_, ?_⟩, ⟨?_, ?_⟩, l2.2.2, ?_⟩ <;> first | omega | exact ⟨by simp, List.nodup_nil⟩
  go_enter Try.func27, Try.ntmps27
  go_wp2_with (first
    | (go_at_call 53; refine HN.out.mono ?_; clear HN; rintro e w1 ⟨sb, rfl, K1⟩; replace HN2 := hidb (HN2.out w1))
    | (go_at_call 53; refine HN2.out.mono ?_; clear HN2; rintro e w2 ⟨wb, rfl, K2⟩; obtain ⟨hb2, hE⟩ := HE.out sb w1 wb w2 K1.out K2.out; have q0 := Lib.cell_of_heap hb2 0; have q1 := Lib.cell_of_heap hb2 1; have q2 := Lib.cell_of_heap hb2 2; have z0 := Lib.frozen_of_heap hb2 0; have z1 := Lib.frozen_of_heap hb2 1; have z2 := Lib.frozen_of_heap hb2 2; simp at q0 q1 q2; replace HE := hidb hE; clear hE; have HB2 := hidb hb2; clear hb2)
    | fail)
  exact ret_chg rfl rfl rfl (set3c_blk HB2.out _ _ _) ⟨sb, wb, rfl, hidb HE.out⟩
theorem txmade_any (xb : Nat) (w : World) (t : Nat) (c : w.cell? ⟨xb, 0, none⟩ = some (.pointer (some ⟨t, 0, none⟩))) : Calls Try.prog 32 #[.pointer (some ⟨xb, 0, none⟩)] w fun e w' => e = .returned (.bool true) ∧ w' = w := by
  go_enter Try.func32, Try.ntmps32
  go_wp2_with fail
  go_ret
  exact ⟨rfl, rfl⟩
/-- A new transaction of a store. -/
theorem begin_any (sb tb g : Nat) (L : Kvs) (w : World) (h : StAt sb tb g L w) : Calls Try.prog 5 #[.pointer (some ⟨sb, 0, none⟩)] w fun e w' => ∃ xb, e = .returned (.pointer (some ⟨xb, 0, none⟩)) ∧ Hid (∃ b : TxB, b.xb = xb ∧ b.tb = tb ∧ b.g = g ∧ TxAt b L [] [] 0 w' ∧ w.heap.size ≤ b.xb ∧ w.heap.size ≤ b.cb ∧ w.heap.size ≤ b.sb ∧ w.heap.size ≤ b.sg ∧ w.heap.size ≤ b.wb ∧ w.heap.size ≤ b.wg ∧ Below w.heap.size w w') := by
  have c := h.c
  have HM := hidb (stmade_any sb w tb c)
  have HN := hidb (noChanges_any w)
  have HS := hidb h
  have HE : Hid (∀ s2 d2 w2, (∃ sg wg, TreeAt s2 sg [] w2 ∧ TreeAt d2 wg [] w2 ∧ [s2, sg, d2, wg].Nodup ∧ w.heap.size ≤ s2 ∧ w.heap.size ≤ sg ∧ w.heap.size ≤ d2 ∧ w.heap.size ≤ wg ∧ Below w.heap.size w w2) → (w2.cell? ⟨sb, 0, none⟩ = some (.pointer (some ⟨tb, 0, none⟩)) ∧ sb < w2.heap.size) ∧ ∀ o1 o2, o1 = .cells #[.pointer (some ⟨s2, 0, none⟩), .pointer (some ⟨d2, 0, none⟩), .int .i64 0] 59 (0, 0) → o2 = .cells #[.pointer (some ⟨tb, 0, none⟩), .pointer (some ⟨w2.heap.size, 0, none⟩)] 65 (0, 0) →
      (∃ b : TxB, b.xb = w2.heap.size + 1 ∧ b.tb = tb ∧ b.g = g ∧ TxAt b L [] [] 0 ((w2.alloc o1).alloc o2) ∧ w.heap.size ≤ b.xb ∧ w.heap.size ≤ b.cb ∧ w.heap.size ≤ b.sb ∧ w.heap.size ≤ b.sg ∧ w.heap.size ≤ b.wb ∧ w.heap.size ≤ b.wg ∧ Below w.heap.size w ((w2.alloc o1).alloc o2))) := hidb fun s2 d2 w2 ⟨sg, wg, t1, t2, nd, x1, x2, x3, x4, hb⟩ => by
    have h2 := h.below hb
    have hsz := hb.size
    have l0 := h.lts
    have lt := h.t.lts
    have l1 := t1.lts
    have l2 := t2.lts
    refine ⟨⟨h2.c, h2.lts.1⟩, fun o1 o2 e1 e2 => ?_⟩
    have hB : Below w2.heap.size w2 ((w2.alloc o1).alloc o2) := ((Below.refl _ w2).alloc (Nat.le_refl _) o1).alloc (by simp) o2
    refine ⟨⟨w2.heap.size + 1, w2.heap.size, tb, g, s2, sg, d2, wg⟩, rfl, rfl, rfl, ⟨?_, ?_, h2.t.below hB, t1.below hB, t2.below hB, ?_⟩, by show w.heap.size ≤ w2.heap.size + 1; omega, by show w.heap.size ≤ w2.heap.size; omega, x1, x2, x3, x4, hb.trans (hB.mono hsz)⟩
    · have := heap_alloc_new (w2.alloc o1) o2
      rw [World.size_alloc] at this
      rw [this, e2]
    · show ((w2.alloc o1).alloc o2).heap[w2.heap.size]? = _
      rw [Below.heap_alloc _ _ _ (by simp), heap_alloc_new w2 o1, e1]
    · simp only [List.nodup_cons, List.mem_cons, List.not_mem_nil, or_false, not_or] at nd
      obtain ⟨⟨q1, q2, q3⟩, ⟨q4, q5⟩, q6, _⟩ := nd
      have r1 := h.t.lts.2.2
      clear hB e1 e2
      constructor
      · dsimp only; first | assumption | (clear q1 q2 q3 q4 q5 q6 r1; omega)
      · dsimp only; first | assumption | (clear q1 q2 q3 q4 q5 q6 r1; omega)
      · dsimp only; first | assumption | (clear q1 q2 q3 q4 q5 q6 r1; omega)
      · dsimp only; first | assumption | (clear q1 q2 q3 q4 q5 q6 r1; omega)
      · dsimp only; first | assumption | (clear q1 q2 q3 q4 q5 q6 r1; omega)
      · dsimp only; first | assumption | (clear q1 q2 q3 q4 q5 q6 r1; omega)
      · dsimp only; first | assumption | (clear q1 q2 q3 q4 q5 q6 r1; omega)
      · dsimp only; first | assumption | (clear q1 q2 q3 q4 q5 q6 r1; omega)
      · dsimp only; first | assumption | (clear q1 q2 q3 q4 q5 q6 r1; omega)
      · dsimp only; first | assumption | (clear q1 q2 q3 q4 q5 q6 r1; omega)
      · dsimp only; first | assumption | (clear q1 q2 q3 q4 q5 q6 r1; omega)
      · dsimp only; first | assumption | (clear q1 q2 q3 q4 q5 q6 r1; omega)
      · dsimp only; first | assumption | (clear q1 q2 q3 q4 q5 q6 r1; omega)
      · dsimp only; first | assumption | (clear q1 q2 q3 q4 q5 q6 r1; omega)
      · dsimp only; first | assumption | (clear q1 q2 q3 q4 q5 q6 r1; omega)
      · dsimp only; first | assumption | (clear q1 q2 q3 q4 q5 q6 r1; omega)
      · dsimp only; first | assumption | (clear q1 q2 q3 q4 q5 q6 r1; omega)
      · dsimp only; first | assumption | (clear q1 q2 q3 q4 q5 q6 r1; omega)
      · dsimp only; first | assumption | (clear q1 q2 q3 q4 q5 q6 r1; omega)
      · dsimp only; first | assumption | (clear q1 q2 q3 q4 q5 q6 r1; omega)
      · dsimp only; first | assumption | (clear q1 q2 q3 q4 q5 q6 r1; omega)
      · dsimp only; first | assumption | (clear q1 q2 q3 q4 q5 q6 r1; omega)
      · dsimp only; first | assumption | (clear q1 q2 q3 q4 q5 q6 r1; omega)
      · dsimp only; first | assumption | (clear q1 q2 q3 q4 q5 q6 r1; omega)
      · dsimp only; first | assumption | (clear q1 q2 q3 q4 q5 q6 r1; omega)
      · dsimp only; first | assumption | (clear q1 q2 q3 q4 q5 q6 r1; omega)
      · dsimp only; first | assumption | (clear q1 q2 q3 q4 q5 q6 r1; omega)
      · dsimp only; first | assumption | (clear q1 q2 q3 q4 q5 q6 r1; omega)
  clear h
  go_enter Try.func5, Try.ntmps5
  go_wp2_with (first
    | (go_at_call 26; refine HM.out.mono ?_; clear HM; rintro e w1 ⟨rfl, rfl⟩)
    | (go_at_call 27; refine HN.out.mono ?_; clear HN; rintro e w2 ⟨s2, d2, rfl, K2⟩; obtain ⟨⟨q1, q2⟩, hE⟩ := HE.out s2 d2 w2 K2.out; replace HE := hidb hE; clear hE)
    | fail)
  go_ret
  exact ⟨_, rfl, hidb (HE.out _ _ rfl rfl)⟩
end Go.Proofs.Ytcjakgogdbfagaa
namespace Go.Proofs.Ytcjakgogdbfagaa
open Go.RowKit
section
variable {b : TxB} {L S D : Kvs} {more : Int} {w : World}
theorem TxAt.x0 (h : TxAt b L S D more w) : w.cell? ⟨b.xb, 0, none⟩ = some (.pointer (some ⟨b.tb, 0, none⟩)) := Lib.cell_of_heap h.box 0
theorem TxAt.x1 (h : TxAt b L S D more w) : w.cell? ⟨b.xb, 1, none⟩ = some (.pointer (some ⟨b.cb, 0, none⟩)) := Lib.cell_of_heap h.box 1
theorem TxAt.y0 (h : TxAt b L S D more w) : w.cell? ⟨b.cb, 0, none⟩ = some (.pointer (some ⟨b.sb, 0, none⟩)) := Lib.cell_of_heap h.cbx 0
theorem TxAt.y1 (h : TxAt b L S D more w) : w.cell? ⟨b.cb, 1, none⟩ = some (.pointer (some ⟨b.wb, 0, none⟩)) := Lib.cell_of_heap h.cbx 1
theorem TxAt.y2 (h : TxAt b L S D more w) : w.cell? ⟨b.cb, 2, none⟩ = some (.int .i64 more) := Lib.cell_of_heap h.cbx 2
theorem TxAt.keepAll {w' : World} (h : TxAt b L S D more w) (k : ∀ i ∈ b.l, w'.heap[i]? = w.heap[i]?) : TxAt b L S D more w' :=
  ⟨(k _ (by simp [TxB.l])).trans h.box, (k _ (by simp [TxB.l])).trans h.cbx, h.t.keep (k _ (by simp [TxB.l])) (k _ (by simp [TxB.l])), h.s.keep (k _ (by simp [TxB.l])) (k _ (by simp [TxB.l])), h.d.keep (k _ (by simp [TxB.l])) (k _ (by simp [TxB.l])), h.nd⟩
theorem TxAt.drewN (h : TxAt b L S D more w) (M : Nat) : TxAt b L S D more (w.drewN M) := h.keepAll fun _ _ => rfl
theorem TxAt.lts (h : TxAt b L S D more w) : ∀ i ∈ b.l, i < w.heap.size := fun i hi => by
  simp only [TxB.l, List.mem_cons, List.not_mem_nil, or_false] at hi
  rcases hi with rfl | rfl | rfl | rfl | rfl | rfl | rfl | rfl
  · exact heap_ltb h.box
  · exact heap_ltb h.cbx
  · exact h.t.lts.1
  · exact h.t.lts.2.1
  · exact h.s.lts.1
  · exact h.s.lts.2.1
  · exact h.d.lts.1
  · exact h.d.lts.2.1
theorem TxAt.below {w' : World} (h : TxAt b L S D more w) (k : Below w.heap.size w w') : TxAt b L S D more w' := h.keepAll fun i hi => k.block i (h.lts i hi)
end
/-- What a transaction shows of a key. -/
def loadL (L S D : Kvs) (k : Bt) : Option Bt := if (getL D k).isSome then none else match getL S k with
  | some v => some v
  | none => getL L k
set_option maxRecDepth 100000 in
set_option maxHeartbeats 1000000 in
theorem load_any (b : TxB) (L S D : Kvs) (more : Int) (w : World) (k : Bt) (h : TxAt b L S D more w) : Calls Try.prog 13 #[.pointer (some ⟨b.xb, 0, none⟩), sv k] w fun e w' => e = .returned (.tuple #[sv ((loadL L S D k).getD []), .bool (loadL L S D k).isSome]) ∧ ∃ m, w' = w.drewN m := by
  have HM := hidb (txmade_any b.xb w b.tb h.x0)
  have HD := hidb (has_t b.wb b.wg D w k h.d)
  have HG := hidb fun M => get_t b.sb b.sg S (w.drewN M) k (h.s.drewN M)
  have HT := hidb fun M => get_t b.tb b.g L (w.drewN M) k (h.t.drewN M)
  have x0 := h.x0
  have x1 := h.x1
  have y0 := h.y0
  have y1 := h.y1
  clear h
  generalize b.xb = xb at *
  generalize b.tb = tb at *
  generalize b.cb = cb at *
  generalize b.sb = sb at *
  generalize b.wb = wb at *
  unfold loadL
  cases hd : getL D k with
  | some u =>
    rw [hd] at HD
    clear HG HT
    go_enter Try.func13, Try.ntmps13
    go_wp2_with (first
      | (go_at_call 32; refine HM.out.mono ?_; clear HM; rintro e w1 ⟨rfl, rfl⟩)
      | (go_at_call 39; refine HD.out.mono ?_; clear HD; rintro e w2 ⟨rfl, m2, rfl⟩)
      | fail)
    go_ret2
    exact ⟨rfl, m2, rfl⟩
  | none =>
    rw [hd] at HD
    cases hs : getL S k with
    | some u =>
      rw [hs] at HG
      clear HT
      go_enter Try.func13, Try.ntmps13
      go_wp2_with (first
        | (go_at_call 32; refine HM.out.mono ?_; clear HM; rintro e w1 ⟨rfl, rfl⟩)
        | (go_at_call 39; refine HD.out.mono ?_; clear HD; rintro e w2 ⟨rfl, m2, rfl⟩)
        | (go_at_call 40; refine (HG.out _).mono ?_; clear HG; rintro e w3 ⟨rfl, m3, rfl⟩)
        | fail)
      go_ret2
      exact ⟨rfl, _, rfl⟩
    | none =>
      rw [hs] at HG
      simp only [Option.isSome_none, Bool.false_eq_true, if_false]
      generalize (getL L k).getD [] = v at *
      generalize (getL L k).isSome = bb at *
      go_enter Try.func13, Try.ntmps13
      go_wp2_with (first
        | (go_at_call 32; refine HM.out.mono ?_; clear HM; rintro e w1 ⟨rfl, rfl⟩)
        | (go_at_call 39; refine HD.out.mono ?_; clear HD; rintro e w2 ⟨rfl, m2, rfl⟩)
        | (go_at_call 40; refine (HG.out _).mono ?_; clear HG; rintro e w3 ⟨rfl, m3, rfl⟩)
        | (go_at_call 40; refine (HT.out _).mono ?_; clear HT; rintro e w4 ⟨rfl, m4, rfl⟩)
        | fail)
      go_ret2
      exact ⟨rfl, _, rfl⟩
section
variable {b : TxB} {L S D : Kvs} {more : Int} {w w' : World}
theorem TxAt.wipe {D' : Kvs} (h : TxAt b L S D more w) (t : TreeAt b.wb b.wg D' w') (k : Kt (fun i => i = b.wb ∨ i = b.wg) w w') : TxAt b L S D' more w' :=
  ⟨(k.block _ (heap_ltb h.box) (fun e => e.elim (fun e => h.nd.xw e) (fun e => h.nd.xv e))).trans h.box, (k.block _ (heap_ltb h.cbx) (fun e => e.elim (fun e => h.nd.cw e) (fun e => h.nd.cv e))).trans h.cbx, h.t.kt k (fun e => e.elim (fun e => h.nd.tw e) (fun e => h.nd.tv e)) (fun e => e.elim (fun e => h.nd.gw e) (fun e => h.nd.gv e)), h.s.kt k (fun e => e.elim (fun e => h.nd.sw e) (fun e => h.nd.sv e)) (fun e => e.elim (fun e => h.nd.hw e) (fun e => h.nd.hv e)), t, h.nd⟩
theorem ne_new {x y sg' n : Nat} (hx : x < n) (hne : x ≠ y) (hs : sg' = y ∨ n ≤ sg') : x ≠ sg' := by
  rcases hs with rfl | h
  · exact hne
  · exact Nat.ne_of_lt (Nat.lt_of_lt_of_le hx h)
theorem TxAt.save {S' : Kvs} {sg' : Nat} (h : TxAt b L S D more w) (t : TreeAt b.sb sg' S' w') (hs : sg' = b.sg ∨ w.heap.size ≤ sg') (k : Kt (fun i => i = b.sb ∨ i = b.sg) w w') : TxAt { b with sg := sg' } L S' D more w' :=
  ⟨(k.block _ (heap_ltb h.box) (fun e => e.elim (fun e => h.nd.xs e) (fun e => h.nd.xh e))).trans h.box, (k.block _ (heap_ltb h.cbx) (fun e => e.elim (fun e => h.nd.cs e) (fun e => h.nd.ch e))).trans h.cbx, h.t.kt k (fun e => e.elim (fun e => h.nd.ts e) (fun e => h.nd.th e)) (fun e => e.elim (fun e => h.nd.gs e) (fun e => h.nd.gh e)), t, h.d.kt k (fun e => e.elim (fun e => h.nd.sw.symm e) (fun e => h.nd.hw.symm e)) (fun e => e.elim (fun e => h.nd.sv.symm e) (fun e => h.nd.hv.symm e)),
    ⟨h.nd.xc, h.nd.xt, h.nd.xg, h.nd.xs, ne_new (heap_ltb h.box) h.nd.xh hs, h.nd.xw, h.nd.xv, h.nd.ct, h.nd.cg, h.nd.cs, ne_new (heap_ltb h.cbx) h.nd.ch hs, h.nd.cw, h.nd.cv, h.nd.tg, h.nd.ts, ne_new (h.t.lts.1) h.nd.th hs, h.nd.tw, h.nd.tv, h.nd.gs, ne_new (h.t.lts.2.1) h.nd.gh hs, h.nd.gw, h.nd.gv, ne_new (h.s.lts.1) h.nd.sh hs, h.nd.sw, h.nd.sv, (ne_new (h.d.lts.1) h.nd.hw.symm hs).symm, (ne_new (h.d.lts.2.1) h.nd.hv.symm hs).symm, h.nd.wv⟩⟩
theorem TxAt.setMore (h : TxAt b L S D more w) (m' : Int) : TxAt b L S D m' (w.setCell ⟨b.cb, 2, none⟩ (.int .i64 m')) :=
  ⟨(Below.heap_setCell _ _ _ _ h.nd.xc).trans h.box, by rw [heap_setCell_same _ _ _ _ _ _ h.cbx]; rfl, h.t.keep (Below.heap_setCell _ _ _ _ h.nd.ct.symm) (Below.heap_setCell _ _ _ _ h.nd.cg.symm), h.s.keep (Below.heap_setCell _ _ _ _ h.nd.cs.symm) (Below.heap_setCell _ _ _ _ h.nd.ch.symm), h.d.keep (Below.heap_setCell _ _ _ _ h.nd.cw.symm) (Below.heap_setCell _ _ _ _ h.nd.cv.symm), h.nd⟩
end
/-- What a call of a transaction leaves that changes it alone. -/
def XEnd (b : TxB) (L S' D' : Kvs) (m' : Int) (v : Value) (w : World) (e : Ending) (w' : World) : Prop := e = .returned v ∧ Hid (∃ sg', TxAt { b with sg := sg' } L S' D' m' w' ∧ (sg' = b.sg ∨ w.heap.size ≤ sg') ∧ Kt (fun i => i = b.cb ∨ i = b.sb ∨ i = b.sg ∨ i = b.wb ∨ i = b.wg) w w')
def saveE (L S D : Kvs) (more : Int) (k v : Bt) : Int := if longB k v then 41 else if loadL L S D k = none ∧ 512 ≤ (L.length : Int) + more then 45 else 0
theorem XEnd.same {b : TxB} {L S D : Kvs} {more : Int} {w : World} (h : TxAt b L S D more w) (m : Nat) (v : Value) : XEnd b L S D more v w (.returned v) (w.drewN m) := ⟨rfl, hidb ⟨b.sg, h.drewN m, .inl rfl, (Kt.refl _ w).drewN m⟩⟩
/-- Save, the key's size being right. -/
theorem save_ok_of {b : TxB} {L S D : Kvs} {more : Int} {w W : World} {k v : Bt} (h : TxAt b L S D more W) (hk0 : Kt (fun i => i = b.cb ∨ i = b.sb ∨ i = b.sg ∨ i = b.wb ∨ i = b.wg) w W) (hw : w.heap.size = W.heap.size) (hk : k.length ≤ 281474976710656) (hv : v.length ≤ 281474976710656) (hS : (S.length + 2) * 46 ≤ 140737488355328) :
    Calls Try.prog 35 #[.pointer (some ⟨b.wb, 0, none⟩), sv k] W fun e w2 => ∃ r, e = .returned (.bool r) ∧ (w2.cell? ⟨b.xb, 1, none⟩ = some (.pointer (some ⟨b.cb, 0, none⟩)) ∧ w2.cell? ⟨b.cb, 0, none⟩ = some (.pointer (some ⟨b.sb, 0, none⟩))) ∧
      Hid (Calls Try.prog 36 #[.pointer (some ⟨b.sb, 0, none⟩), sv k, sv v] w2 fun e w3 => e = .returned (.tuple #[]) ∧ Hid (XEnd b L (putL S k v) (delL D k) more (.int .i64 0) w (.returned (.int .i64 0)) w3)) := by
  refine (remove_any b.wb b.wg D W k h.d).mono fun e w2 ⟨e1, H⟩ => ⟨_, e1, ?_⟩
  obtain ⟨t2, k2⟩ := H.out
  have h2 := h.wipe t2 k2
  refine ⟨⟨h2.x1, h2.y0⟩, hidb ((put_any b.sb b.sg S w2 k v h2.s hk hv hS).mono fun e w3 ⟨e2, H3⟩ => ⟨e2, ?_⟩)⟩
  obtain ⟨g', t3, x3, k3⟩ := H3.out
  have h3 := h2.save t3 x3 k3
  have hsz := k2.size
  refine hidb ⟨rfl, hidb ⟨g', h3, x3.imp id fun x => by omega, ?_⟩⟩
  exact (hk0.trans (k2.mono (R := fun i => i = b.cb ∨ i = b.sb ∨ i = b.sg ∨ i = b.wb ∨ i = b.wg) fun i _ e => by rcases e with e | e <;> simp [e]) fun _ _ e => e).trans (k3.mono (R := fun i => i = b.cb ∨ i = b.sb ∨ i = b.sg ∨ i = b.wb ∨ i = b.wg) fun i _ e => by rcases e with e | e <;> simp [e]) fun _ _ e => e
end Go.Proofs.Ytcjakgogdbfagaa
