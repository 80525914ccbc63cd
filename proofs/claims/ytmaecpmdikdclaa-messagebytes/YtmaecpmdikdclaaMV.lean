/- Layer 17: the document's Fold of any records. -/
import Derived.Test.YtmaecpmdikdclaaMU
import Derived.Test.YtmaecpmdikdclaaME
namespace Go.Proofs.Ytmaecpmdikdclaa
open Go.RowKit
/-- As SStep, where the row may come to be none. -/
def SStepD (b : Nat) (w : World) (v : Value) (w' : World) (v' : Value) : Prop := Chg w w' (STurn b v) ∧ (v'.ownBlock = v.ownBlock ∨ v'.ownBlock = none ∨ ∃ g, v'.ownBlock = some g ∧ w.heap.size ≤ g)
theorem SStepD.refl (b : Nat) (w : World) (v : Value) : SStepD b w v w v := ⟨Chg.refl _ _, .inl rfl⟩
theorem SStepD.trans {b : Nat} {a1 a2 a3 : World} {u v x : Value} (s : SStepD b a1 u a2 v) (t : SStepD b a2 v a3 x) : SStepD b a1 u a3 x := by
  refine ⟨s.1.trans t.1 fun i hi h => ?_, ?_⟩
  · rcases h with h | h
    · exact .inl h
    · rcases s.2 with e | e | ⟨g, e, hg⟩
      · exact .inr (e ▸ h)
      · rw [e] at h; cases h
      · rw [e] at h; injection h with h; omega
  · rcases t.2 with e | e | ⟨g, e, hg⟩
    · rw [e]; exact s.2
    · exact .inr (.inl e)
    · exact .inr (.inr ⟨g, e, Nat.le_trans s.1.size hg⟩)
theorem SStepD.below {b : Nat} {w w' : World} {v : Value} (hb : Below w.heap.size w w') : SStepD b w v w' v := ⟨Chg.of_below hb, .inl rfl⟩
theorem SStepD.bel {w0 w w' : World} {b : Nat} {v v' : Value} (h : SStepD b w v w' v') (hb : Below w0.heap.size w0 w) (h1 : w0.heap.size ≤ b) (h2 : ∀ k, v.ownBlock = some k → w0.heap.size ≤ k) : Below w0.heap.size w0 w' :=
  hb.trans (h.1.below hb.size fun i e => by
    rcases e with e | e
    · omega
    · exact h2 i e)
/-- A state in its box. -/
structure SAtD (w : World) (base b : Nat) (s : St17) (v : Value) : Prop where
  box : w.heap[b]? = some (.cells #[.int .i64 s.vw, .int .i64 s.nm, .int .i64 s.cm, v] 70 (0, 0))
  row : w.ownsRow base 114 2 v s.log.length (cellsE s.log)
theorem SAtD.own_ne {w : World} {base b : Nat} {s : St17} {v : Value} (h : SAtD w base b s v) : v.ownBlock ≠ some b := fun e => by
  rcases h.row.2 with ⟨rfl, _⟩ | ⟨g, cap, cur, rfl, _, hh, _⟩
  · cases e
  · injection e with e
    have hb := h.box
    rw [← (show g = b from e), hh] at hb
    injection hb with hb
    injection hb with _ ht _
    exact absurd ht (by decide)
theorem SAtD.below {w w' : World} {base b : Nat} {s : St17} {v : Value} (h : SAtD w base b s v) (hb : Below w.heap.size w w') : SAtD w' base b s v := ⟨(hb.block _ (lt_of_block h.box)).trans h.box, row_below2 h.row hb⟩
theorem SAtD.c {w : World} {base b : Nat} {s : St17} {v : Value} (h : SAtD w base b s v) : w.cell? ⟨b, 0, none⟩ = some (.int .i64 s.vw) ∧ w.cell? ⟨b, 1, none⟩ = some (.int .i64 s.nm) ∧ w.cell? ⟨b, 2, none⟩ = some (.int .i64 s.cm) ∧ w.cell? ⟨b, 3, none⟩ = some v ∧ ∀ k, w.frozen? ⟨b, k, none⟩ = false :=
  ⟨by rw [Lib.cell_of_heap h.box]; rfl, by rw [Lib.cell_of_heap h.box]; rfl, by rw [Lib.cell_of_heap h.box]; rfl, by rw [Lib.cell_of_heap h.box]; rfl, fun k => Lib.frozen_of_heap h.box k⟩
theorem SAtD.set_cm {w : World} {base b : Nat} {s : St17} {v : Value} (h : SAtD w base b s v) (x : Int) : SAtD (w.setCell ⟨b, 2, none⟩ (.int .i64 x)) base b ⟨s.vw, s.nm, x, s.log⟩ v ∧ SStepD b w v (w.setCell ⟨b, 2, none⟩ (.int .i64 x)) v := by
  refine ⟨⟨by rw [heap_setCell_same _ _ _ _ _ _ h.box]; rfl, row_chg4 h.row (Chg.setCell w ⟨b, 2, none⟩ _) fun g e e2 => h.own_ne (by rw [e]; exact congrArg some e2)⟩, (Chg.setCell w ⟨b, 2, none⟩ _).mono fun _ _ e => .inl e, .inl rfl⟩
theorem SAtD.set_vn {w : World} {base b : Nat} {s : St17} {v : Value} (h : SAtD w base b s v) (x y : Int) : SAtD ((w.setCell ⟨b, 0, none⟩ (.int .i64 x)).setCell ⟨b, 1, none⟩ (.int .i64 y)) base b ⟨x, y, s.cm, s.log⟩ v ∧ SStepD b w v ((w.setCell ⟨b, 0, none⟩ (.int .i64 x)).setCell ⟨b, 1, none⟩ (.int .i64 y)) v := by
  have k := (Chg.setCell w ⟨b, 0, none⟩ (.int .i64 x)).trans (Chg.setCell _ ⟨b, 1, none⟩ (.int .i64 y)) fun _ _ e => e
  refine ⟨⟨by rw [heap_setCell_same _ _ _ _ _ _ (heap_setCell_same _ _ _ _ _ _ h.box)]; rfl, row_chg4 h.row k fun g e e2 => h.own_ne (by rw [e]; exact congrArg some e2)⟩, k.mono fun _ _ e => .inl e, .inl rfl⟩
theorem SAtD.set_log {w : World} {base b : Nat} {s : St17} {v u : Value} {L : List Ent} (h : SAtD w base b s v) (hu : w.ownsRow base 114 2 u L.length (cellsE L)) (hub : u.ownBlock ≠ some b) : SAtD (w.setCell ⟨b, 3, none⟩ u) base b ⟨s.vw, s.nm, s.cm, L⟩ u :=
  ⟨by rw [heap_setCell_same _ _ _ _ _ _ h.box]; rfl, row_chg4 hu (Chg.setCell w ⟨b, 3, none⟩ _) fun g e e2 => hub (by rw [e]; exact congrArg some e2)⟩
theorem elemN_entD : ElemN Try.prog 22 114 2 24 := by
  obtain ⟨i, hi, hz0, hz1, hz2⟩ := info_parts (show (Try.prog.info? 114).map (fun i => (i.zero, i.size, i.bytes)) = some (some (.agg #[.int .i64 0, .string ⟨#[]⟩]), 2, 24) by kernel_rfl)
  exact ⟨Try.underlying22, ⟨i, _, hi, hz0, hz1, hz2, rfl⟩, by decide⟩
theorem cellsE_one' (L : List Ent) : ∀ u ∈ cellsE L, u.oneCell' = true := by
  intro u hu
  unfold cellsE at hu
  obtain ⟨x, _, hx⟩ := List.mem_flatMap.1 hu
  simp only [List.mem_cons, List.not_mem_nil, or_false] at hx
  rcases hx with rfl | rfl <;> simp [Value.oneCell']
theorem lies_es {w : World} {a : Option Addr} {n c : Nat} {L : List Ent} (hn : L.length = n) (h : EsAt w.cell? a L) : Lies w (.slice a n c) n (cellsE L) := by
  cases a with
  | none =>
    rcases h with h | ⟨b, off, e, _⟩
    · subst h; subst hn; exact .inl ⟨c, rfl, rfl, rfl⟩
    · cases e
  | some ad =>
    refine .inr ⟨ad, c, rfl, fun j u hu => ?_⟩
    rcases h with h | ⟨b, off, e, h⟩
    · subst h; simp [cellsE] at hu
    · injection e with e
      subst e
      have hj : j < (cellsE L).length := (List.getElem?_eq_some_iff.1 hu).1
      rw [cellsE_len] at hj
      obtain ⟨h1, h2⟩ := cellsE_get L (j / 2) (by omega)
      obtain ⟨k1, k2⟩ := h (j / 2) (by omega)
      rw [Addr.add_lit]
      by_cases he : j % 2 = 0
      · have e0 : j / 2 * 2 = j := by omega
        rw [e0] at h1 k1
        rw [h1] at hu
        injection hu with hu
        rw [k1, hu]
      · have e0 : j / 2 * 2 + 1 = j := by omega
        rw [e0] at h2
        rw [h2] at hu
        injection hu with hu
        rw [← hu, ← k2]
        congr 2
        omega
theorem es_takeE {C : Addr → Option Value} {a : Option Addr} {L : List Ent} (h : EsAt C a L) (k : Nat) : EsAt C a (L.take k) := by
  rcases h with h | ⟨b, off, e, h⟩
  · subst h; exact .inl (by simp)
  · refine .inr ⟨b, off, e, fun j hj => ?_⟩
    rw [List.length_take] at hj
    simp only [List.getElem_take]
    exact h j (by omega)
theorem step_app0E {P : Program} (w : World) {ops : Array Oper} {o : Oper} {a : Act} {K : Act → World → Prop} {Q : Exit → Act → World → Prop} {X : Prop} (hgd : o.guard = none) (s x : Operand) (t : TypeId) (ho : o.op = .call { callee := .builtin .append, args := #[s, x], argTypes := #[t, t] })
    {e : TypeId} {size bytes : Nat} (E : ElemN P t e size bytes) (base g : Nat) (hg : base ≤ g) (hgl : w.heap[g]? = some (.cells #[] e (0, 0))) (hv : a.eval s = .slice (some ⟨g, 0, none⟩) 0 0) (y : Value) (hyv : a.eval x = y) (m : Nat) (news : List Value) (hy : Lies w y m news) (hl : news.length = m * size) (h1 : ∀ u ∈ news, u.oneCell' = true)
    (h63 : m ≤ maxLen) (hbytes : m * bytes ≤ 140737488355328) (hbase : base ≤ w.heap.size)
    (h : ∀ v' w', w'.ownsRow base e size v' m news → Below w.heap.size w w' → K (a.put o.dst v') w') :
    if Region.wanted o (yielded ops a.tmps) = true then Oper.wp P o a w K Q else X := by
  have hw : Region.wanted o (yielded ops a.tmps) = true := by simp [Region.wanted, hgd]
  rw [if_pos hw]
  exact wp_app0 w s x t ho E base g hg hgl hv y hyv m news hy hl h1 h63 hbytes hbase h
theorem load_stD {w : World} {b : Nat} {x0 x1 x2 x3 : Value} (h : w.heap[b]? = some (.cells #[x0, x1, x2, x3] 70 (0, 0))) : (loadVar 70 ⟨b, 0, none⟩).run Try.prog w = .ok (.agg #[x0, x1, x2, x3]) w := by
  simp [loadVar, go_sem, Lib.cell_of_heap h]
theorem es_of_rowD {w : World} {base n : Nat} {v : Value} {L : List Ent} (h : w.ownsRow base 114 2 v n (cellsE L)) : n = L.length ∧ ∃ a c, v = .slice a n c ∧ EsAt w.cell? a L := es_of_row h
/-- How the document's Fold ends. -/
def FoldEndD (R : List Rec17) (w : World) (e : Ending) (w' : World) : Prop := Below w.heap.size w w' ∧ ((foldS zeroS R = none ∧ e = .returned (.tuple #[.agg #[.int .i64 0, .int .i64 0, .int .i64 0, .slice none 0 0], .bool false])) ∨ ∃ s a c, foldS zeroS R = some s ∧ e = .returned (.tuple #[.agg #[.int .i64 s.vw, .int .i64 s.nm, .int .i64 s.cm, .slice a s.log.length c], .bool true]) ∧ w'.ownsRow (w.heap.size + 1) 114 2 (.slice a s.log.length c) s.log.length (cellsE s.log))
/-- A log that is laid anew: the row, and the box behind the store. -/
theorem satD_app {w3 w6 : World} {base b : Nat} {s : St17} {v v' : Value} {L : List Ent} (H : SAtD w3 base b s v) (hb : Below w3.heap.size w3 w6) (hr : w6.ownsRow w3.heap.size 114 2 v' L.length (cellsE L)) (hbase : base ≤ w3.heap.size) :
    (w6.cell? ⟨b, 3, none⟩ = some v ∧ w6.frozen? ⟨b, 3, none⟩ = false ∧ b < w6.heap.size) ∧ SAtD (w6.setCell ⟨b, 3, none⟩ v') base b ⟨s.vw, s.nm, s.cm, L⟩ v' ∧ SStepD b w3 v (w6.setCell ⟨b, 3, none⟩ v') v' := by
  have hlt := lt_of_block H.box
  have H6 := H.below hb
  have hv' : v'.ownBlock ≠ some b := fun e => by have := (row_lt4 hr b e).1; omega
  refine ⟨⟨H6.c.2.2.2.1, H6.c.2.2.2.2 3, lt_of_block H6.box⟩, H6.set_log (row_lower4 hr hbase) hv', (Chg.of_below hb).trans (Chg.setCell w6 ⟨b, 3, none⟩ v') (fun i _ e => .inl e), ?_⟩
  rcases hr.2 with ⟨e, _⟩ | ⟨g, cap, cur, e, hg, _⟩
  · exact .inr (.inl (by rw [e]; rfl))
  · exact .inr (.inr ⟨g, by rw [e]; rfl, hg⟩)
set_option maxRecDepth 100000 in
set_option maxHeartbeats 4000000 in
theorem rfold_any17 (a : Option Addr) (n c : Nat) (R : List Rec17) (w : World) (hn : R.length = n) (hN : RsAt17 w.cell? a R) (hm : n ≤ 9000000000000) : Calls Try.prog 31 #[.slice a n c] w (FoldEndD R w) := by
  obtain ⟨W1, hW1⟩ : ∃ W, W = (w.alloc (.cells #[.int .i64 0, .int .i64 0, .int .i64 0, .slice none 0 0] 70)).alloc (.cells #[.int .i64 0, .int .i64 0, .int .i64 0, .slice none 0 0] 70) := ⟨_, rfl⟩
  have hz1 : W1.heap.size = w.heap.size + 2 := by rw [hW1]; simp
  have hb1 : Below w.heap.size w W1 := by rw [hW1]; exact (two_boxes _ _ _ _ _).2
  have hB1 : W1.heap[w.heap.size + 1]? = some (.cells #[.int .i64 0, .int .i64 0, .int .i64 0, .slice none 0 0] 70 (0, 0)) := by rw [hW1]; exact (two_boxes _ _ _ _ _).1
  have hR1 : W1.heap[w.heap.size]? = some (.cells #[.int .i64 0, .int .i64 0, .int .i64 0, .slice none 0 0] 70 (0, 0)) := by rw [hW1, Below.heap_alloc _ _ _ (by simp)]; exact heap_alloc_new w _
  have hS1 : SAtD W1 (w.heap.size + 1) (w.heap.size + 1) zeroS (.slice none 0 0) := ⟨hB1, World.ownsRow_nil _ _ _ _⟩
  have HN := hid hn
  have HZ := hid hN
  clear hn hN
  go_enter Try.func31, Try.ntmps31
  go_wp2_with fail
  rw [← hW1]
  clear hW1
  go_loopw [5] (fun iv wr => ∃ (k : Nat) (s : St17) (v : Value), iv = .int .i64 k ∧ k ≤ n ∧ Hid (foldS zeroS (R.take k) = some s) ∧ Hid (s.log.length ≤ 2048 ∧ SAtD wr (w.heap.size + 1) (w.heap.size + 1) s v ∧ SStepD (w.heap.size + 1) W1 (.slice none 0 0) wr v)) (fun iv _ => n - (intOf iv).toNat)
  case atStart => exact ⟨0, zeroS, _, rfl, Nat.zero_le _, hid (by rw [List.take_zero]; rfl), hid ⟨by decide, hS1, SStepD.refl _ _ _⟩⟩
  case round =>
    obtain ⟨k, s, v, rfl, hk, HF, HS⟩ := hrel
    have hbr : Below w.heap.size w wr := HS.out.2.2.bel hb1 (by omega) (fun k e => by cases e)
    have keep : ∀ {w9 : World} {v9 : Value}, SStepD (w.heap.size + 1) W1 (.slice none 0 0) w9 v9 → w9.heap[w.heap.size]? = some (.cells #[.int .i64 0, .int .i64 0, .int .i64 0, .slice none 0 0] 70 (0, 0)) := fun h => (h.1.block _ (by omega) (fun e => by
      rcases e with e | e
      · omega
      · cases e)).trans hR1
    by_cases hlt : k < n
    · have hkl : k < R.length := by rw [HN.out]; exact hlt
      obtain ⟨zb, zo, e1, y0, y1, y2, y3, la, lc, y4, hI⟩ := HZ.out.get hkl
      have z0 := below_keep hbr _ _ y0
      have z1 := below_keep hbr _ _ y1
      have z2 := below_keep hbr _ _ y2
      have z3 := below_keep hbr _ _ y3
      have z4 := below_keep hbr _ _ y4
      clear y0 y1 y2 y3 y4
      subst e1
      have hnext := fold_take_succ hkl HF.out
      have hnone : fol s R[k] = none → foldS zeroS R = none := fun h => fold_take_none (k := k + 1) (by rw [hnext]; exact h)
      obtain ⟨W2, hW2⟩ : ∃ W, W = wr.alloc (.cells #[.int .i64 R[k].kd, .int .i64 R[k].vw, .int .i64 R[k].nm, .int .i64 R[k].op, .slice la R[k].log.length lc] 48) := ⟨_, rfl⟩
      have hb2 : Below wr.heap.size wr W2 := by rw [hW2]; exact (Below.refl _ wr).alloc (Nat.le_refl _) _
      have bX2 : W2.heap[wr.heap.size]? = some (.cells #[.int .i64 R[k].kd, .int .i64 R[k].vw, .int .i64 R[k].nm, .int .i64 R[k].op, .slice la R[k].log.length lc] 48 (0, 0)) := by rw [hW2]; exact heap_alloc_new wr _
      have hC := rrightRec17_any R[k] la R[k].log.length lc W2 rfl (hI.es.keep (below_keep (hbr.trans (hb2.mono hbr.size)))) hI.sm
      have hfacts : R[k].ok = true → ((1 ≤ R[k].kd ∧ R[k].kd ≤ 3) ∧ 0 ≤ R[k].op ∧ R[k].op ≤ 1099511627776) ∧ R[k].log.length ≤ 2048 := fun h => by
        obtain ⟨a, _, _, b, c⟩ := Rec17.facts h
        exact ⟨⟨a, b⟩, (logOk.facts c).1⟩
      have hfol : fol s R[k] = if R[k].ok = false then none else if R[k].kd = 1 then folV s R[k].vw R[k].nm else if R[k].kd = 2 then folL s R[k].op.toNat R[k].log else folC s R[k].op := rfl
      have HL := hid fun t (h : fol s R[k] = some t) => fol_len h HS.out.1
      have HX := hid hnext
      have HO := hid hnone
      have hEs := fun W (h : Below W2.heap.size W2 W) => hI.es.keep (below_keep ((hbr.trans (hb2.mono hbr.size)).trans (h.mono (hbr.trans (hb2.mono hbr.size)).size)))
      clear hnext hnone hI HZ HF
      generalize fol s R[k] = o at *
      generalize R[k].ok = ok at *
      generalize R[k].kd = kd at *
      generalize R[k].vw = vw at *
      generalize R[k].nm = nm at *
      generalize R[k].op = op at *
      generalize R[k].log = LL at *
      generalize hP : R.take (k + 1) = P at *
      have HP := hid hP
      clear hP
      have HFol := hid hfol
      clear hfol
      -- what stands behind RightRecord
      have facts : ∀ w3, Below W2.heap.size W2 w3 → ((w3.cell? ⟨wr.heap.size, 0, none⟩ = some (.int .i64 kd) ∧ w3.cell? ⟨wr.heap.size, 1, none⟩ = some (.int .i64 vw) ∧ w3.cell? ⟨wr.heap.size, 2, none⟩ = some (.int .i64 nm) ∧ w3.cell? ⟨wr.heap.size, 3, none⟩ = some (.int .i64 op) ∧ w3.cell? ⟨wr.heap.size, 4, none⟩ = some (.slice la LL.length lc)) ∧ wr.heap.size < w3.heap.size) ∧ SAtD w3 (w.heap.size + 1) (w.heap.size + 1) s v ∧ SStepD (w.heap.size + 1) W1 (.slice none 0 0) w3 v ∧ Below w.heap.size w w3 ∧ w3.heap[w.heap.size]? = some (.cells #[.int .i64 0, .int .i64 0, .int .i64 0, .slice none 0 0] 70 (0, 0)) := fun w3 h => by
        have e := (h.block _ (lt_of_block bX2)).trans bX2
        have hb := hb2.trans (h.mono hb2.size)
        have hst := HS.out.2.2.trans (SStepD.below (b := w.heap.size + 1) (v := v) hb)
        refine ⟨⟨⟨?_, ?_, ?_, ?_, ?_⟩, lt_of_block e⟩, HS.out.2.1.below hb, hst, hbr.trans (hb.mono hbr.size), keep hst⟩ <;> (rw [Lib.cell_of_heap e]; rfl)
      have hS2048 := HS.out.1
      obtain ⟨va, vc, rfl, hvc, _, _⟩ := row_form HS.out.2.1.row
      clear HS bX2 hb2 keep
      have HFail : Hid (o = none → ∀ w3, Below w.heap.size w w3 → w3.heap[w.heap.size]? = some (.cells #[.int .i64 0, .int .i64 0, .int .i64 0, .slice none 0 0] 70 (0, 0)) → FoldEndD R w (.returned (.tuple #[.agg #[.int .i64 0, .int .i64 0, .int .i64 0, .slice none 0 0], .bool false])) (setN w3 w.heap.size 0 [.int .i64 0, .int .i64 0, .int .i64 0, .slice none 0 0]) ∧ (setN w3 w.heap.size 0 [.int .i64 0, .int .i64 0, .int .i64 0, .slice none 0 0]).heap[w.heap.size]? = some (.cells #[.int .i64 0, .int .i64 0, .int .i64 0, .slice none 0 0] 70 (0, 0))) := hid fun ho w3 hb hR => ⟨⟨setN_below _ _ hb (Nat.le_refl _) (Nat.le_refl _), .inl ⟨HO.out ho, rfl⟩⟩, setN_all [.int .i64 0, .int .i64 0, .int .i64 0, .slice none 0 0] hR rfl⟩
      clear HO
      go_wp2_with fail
      rw [← hW2]
      clear hW2
      refine hC.mono ?_
      clear hC
      rintro e w3 ⟨rfl, hb3⟩
      obtain ⟨⟨⟨r0, r1, r2, r3, r4⟩, rl⟩, hSt, hSS, hBw, bR3⟩ := facts w3 hb3
      have hEs3 := hEs w3 hb3
      clear facts hEs hb3
      have q0 : w3.cell? ⟨w.heap.size, 0, none⟩ = some (.int .i64 0) := by rw [Lib.cell_of_heap bR3]; rfl
      have q1 : w3.cell? ⟨w.heap.size, 1, none⟩ = some (.int .i64 0) := by rw [Lib.cell_of_heap bR3]; rfl
      have q2 : w3.cell? ⟨w.heap.size, 2, none⟩ = some (.int .i64 0) := by rw [Lib.cell_of_heap bR3]; rfl
      have q3 : w3.cell? ⟨w.heap.size, 3, none⟩ = some (.slice none 0 0) := by rw [Lib.cell_of_heap bR3]; rfl
      have f0 := Lib.frozen_of_heap bR3 0
      have f1 := Lib.frozen_of_heap bR3 1
      have f2 := Lib.frozen_of_heap bR3 2
      have f3 := Lib.frozen_of_heap bR3 3
      have ql := lt_of_block bR3
      obtain ⟨s0, s1, s2, s3, sfr⟩ := hSt.c
      have sl := lt_of_block hSt.box
      have HFl := hid fun ho => HFail.out ho w3 hBw bR3
      clear HFail
      have HSt := hid hSt
      have HSS := hid hSS
      have HEs := hid hEs3
      have hsz3 : w.heap.size + 2 ≤ w3.heap.size := by omega
      clear hSt hSS hEs3 hBw bR3
      have HNext : Hid (∀ t w9 v9, o = some t → SAtD w9 (w.heap.size + 1) (w.heap.size + 1) t v9 → SStepD (w.heap.size + 1) w3 (.slice va s.log.length vc) w9 v9 → Hid (foldS zeroS P = some t) ∧ Hid (t.log.length ≤ 2048 ∧ SAtD w9 (w.heap.size + 1) (w.heap.size + 1) t v9 ∧ SStepD (w.heap.size + 1) W1 (.slice none 0 0) w9 v9)) := hid fun t w9 v9 ho h1 h2 => ⟨hid (by rw [HX.out, ho]), hid ⟨HL.out t ho, h1, HSS.out.trans h2⟩⟩
      clear HX HL HSS
      cases ok with
      | false =>
        have HE := hid (HFl.out (by rw [HFol.out]; rfl))
        clear HFl HNext HSt HEs HFol
        generalize s.log.length = sln at *
        go_wp2_with fail
        exact ret_box2 rfl rfl rfl rfl (load_stD HE.out.2) HE.out.1
      | true =>
        obtain ⟨⟨⟨k1, k2⟩, k3, k4⟩, k5⟩ := hfacts rfl
        clear hfacts
        by_cases e1 : kd = 1
        · subst e1
          have HFo : Hid (o = folV s vw nm) := hid (by rw [HFol.out]; rfl)
          by_cases h1 : vw < s.vw
          · skip
            have HE := hid (HFl.out (by rw [HFo.out]; unfold folV; rw [if_pos (.inl h1)]))
            clear HFl HNext HSt HEs HFol
            generalize s.log.length = sln at *
            go_wp2_with fail
            exact ret_box2 rfl rfl rfl rfl (load_stD HE.out.2) HE.out.1
          · by_cases h2 : nm > vw
            · skip
              have HE := hid (HFl.out (by rw [HFo.out]; unfold folV; rw [if_pos (.inr h2)]))
              clear HFl HNext HSt HEs HFol
              generalize s.log.length = sln at *
              go_wp2_with fail
              exact ret_box2 rfl rfl rfl rfl (load_stD HE.out.2) HE.out.1
            · have hY := HSt.out.set_vn vw nm
              have HE := HNext.out ⟨vw, nm, s.cm, s.log⟩ _ _ (by rw [HFo.out]; unfold folV; rw [if_neg (by omega)]) hY.1 hY.2
              clear HFl HNext HSt HEs HFol
              have g0 := sfr 0
              have g1 := sfr 1
              go_wp2_with fail
              exact ⟨⟨k + 1, _, _, by go_num, by omega, by rw [HP.out]; exact HE.1, HE.2⟩, by simp [intOf]; omega⟩
        · by_cases e2 : kd = 2
          · subst e2
            obtain ⟨kk, rfl⟩ : ∃ z : Nat, op = z := ⟨op.toNat, by omega⟩
            have HFo : Hid (o = folL s kk LL) := hid (by rw [HFol.out]; rfl)
            by_cases h1 : kk > s.log.length
            · skip
              have HE := hid (HFl.out (by rw [HFo.out]; unfold folL; rw [if_pos (.inl h1)]))
              clear HFl HNext HSt HEs HFol
              generalize s.log.length = sln at *
              go_wp2_with fail
              exact ret_box2 rfl rfl rfl rfl (load_stD HE.out.2) HE.out.1
            · by_cases h2 : kk + LL.length > 2048
              · have h2' : ((2048 : Int) - (kk : Int)) < (LL.length : Int) := by omega
                have HE := hid (HFl.out (by rw [HFo.out]; unfold folL; rw [if_pos (.inr h2)]))
                clear HFl HNext HSt HEs HFol
                generalize s.log.length = sln at *
                generalize LL.length = lln at *
                go_wp2_with fail
                exact ret_box2 rfl rfl rfl rfl (load_stD HE.out.2) HE.out.1
              · have HE0 : Hid (o = some ⟨s.vw, s.nm, s.cm, s.log.take kk ++ LL⟩) := hid (by rw [HFo.out]; unfold folL; rw [if_neg (by omega)])
                clear HFl HFol HFo
                have hkv : kk ≤ vc := by omega
                have hcut := row_cut HSt.out.row kk (by omega)
                rw [← cellsE_take] at hcut
                obtain ⟨ez, _, _, ev, hEc⟩ := es_of_rowD hcut
                injection ev with ev1 ev2 ev3
                subst ev1 ev3
                have htl : (s.log.take kk).length = kk := by rw [List.length_take]; omega
                have HLa := hid fun W (h : Below w3.heap.size w3 W) => lies_es (c := vc) htl (hEc.keep (below_keep h))
                have HLb := hid fun W (h : Below w3.heap.size w3 W) => lies_es (c := lc) rfl (HEs.out.keep (below_keep h))
                have hl1 : Hid ((cellsE (s.log.take kk)).length = kk * 2) := hid (by rw [cellsE_len, htl])
                have hl2 := hid (cellsE_len LL)
                have o1 := hid (cellsE_one' (s.log.take kk))
                have o2 := hid (cellsE_one' LL)
                have HB0 : Hid (Below w3.heap.size w3 (w3.drew.alloc (.cells #[] 114))) := hid ((Below.refl _ w3).drew.alloc (Nat.le_refl _) _)
                have HK : Hid (∀ w4, Below w3.heap.size w3 w4 → ((w4.cell? ⟨wr.heap.size, 3, none⟩ = some (.int .i64 (kk : Int)) ∧ w4.cell? ⟨wr.heap.size, 4, none⟩ = some (.slice la LL.length lc) ∧ wr.heap.size < w4.heap.size) ∧ w4.cell? ⟨w.heap.size + 1, 3, none⟩ = some (.slice va s.log.length vc) ∧ w.heap.size + 1 < w4.heap.size)) := hid fun w4 h => ⟨⟨below_keep h _ _ r3, below_keep h _ _ r4, by have := h.size; omega⟩, below_keep h _ _ s3, by have := h.size; omega⟩
                have HE5 : Hid (∀ w5 v5, Below w3.heap.size w3 w5 → w5.ownsRow w3.heap.size 114 2 v5 (kk + LL.length) (cellsE (s.log.take kk) ++ cellsE LL) → (w5.cell? ⟨w.heap.size + 1, 3, none⟩ = some (.slice va s.log.length vc) ∧ w5.frozen? ⟨w.heap.size + 1, 3, none⟩ = false ∧ w.heap.size + 1 < w5.heap.size) ∧ Hid (foldS zeroS P = some ⟨s.vw, s.nm, s.cm, s.log.take kk ++ LL⟩) ∧ Hid ((s.log.take kk ++ LL).length ≤ 2048 ∧ SAtD (w5.setCell ⟨w.heap.size + 1, 3, none⟩ v5) (w.heap.size + 1) (w.heap.size + 1) ⟨s.vw, s.nm, s.cm, s.log.take kk ++ LL⟩ v5 ∧ SStepD (w.heap.size + 1) W1 (.slice none 0 0) (w5.setCell ⟨w.heap.size + 1, 3, none⟩ v5) v5)) := hid fun w5 v5 hb hr => by
                  have hr2 : w5.ownsRow w3.heap.size 114 2 v5 (s.log.take kk ++ LL).length (cellsE (s.log.take kk ++ LL)) := by rw [cellsE_app, List.length_append, htl]; exact hr
                  obtain ⟨x1, x2, x3⟩ := satD_app HSt.out hb hr2 (by omega)
                  exact ⟨x1, HNext.out _ _ _ HE0.out x2 x3⟩
                obtain ⟨⟨d3, d4, dl⟩, ds, dsl⟩ := HK.out w3.drew (Below.refl _ _).drew
                clear HSt HEs HNext hcut hEc HE0 htl ez
                generalize cellsE (s.log.take kk) = C1 at *
                generalize cellsE LL = C2 at *
                generalize s.log.length = sln at *
                generalize hll : LL.length = lln at *
                have HLL := hid hll
                clear hll
                go_wp2_with fail
                go_region_law (first
                  | (refine step_app0E _ (by rfl) (.tmp 63) (.tmp 68) 22 (by rfl) elemN_entD w3.heap.size w3.heap.size (Nat.le_refl _) (heap_alloc_new w3.drew _) (by rfl) _ (by rfl) kk C1 (HLa.out _ HB0.out) hl1.out o1.out (by simp only [maxLen]; omega) (by omega) (by simp) ?_; intro v4 w4 hr4 hb4; replace hb4 : Below w3.heap.size w3 w4 := HB0.out.trans (hb4.mono HB0.out.size); obtain ⟨⟨j3, j4, jl⟩, js, jsl⟩ := HK.out w4 hb4)
                  | (refine step_appN _ (by rfl) (.tmp 69) (.tmp 71) 22 (by rfl) elemN_entD w3.heap.size v4 kk C1 (by rfl) hr4 _ (by rfl) lln C2 (HLb.out w4 hb4) hl2.out o2.out (by simp only [maxLen]; omega) (by omega) (by have := hb4.size; omega) ?_; intro v5 w5 hr5 hs5; have hb5 : Below w3.heap.size w3 w5 := hb4.trans (hs5.below hb4.size fun g e => (row_lt4 hr4 g e).1); obtain ⟨⟨p3, pf, pl⟩, px, py⟩ := HE5.out w5 v5 hb5 hr5; obtain ⟨a5, c5, hv5, _⟩ := row_form hr5; subst hv5; clear hs5))
                all_goals
                  try simp [Act.put]
                  go_wp2_with fail
                  exact ⟨⟨k + 1, _, _, by go_num, by omega, by rw [HP.out]; exact px, py⟩, by simp [intOf]; omega⟩
          · obtain rfl : kd = 3 := by omega
            have HFo : Hid (o = folC s op) := hid (by rw [HFol.out]; rfl)
            by_cases h1 : op > s.log.length
            · skip
              have HE := hid (HFl.out (by rw [HFo.out]; unfold folC; rw [if_pos (.inl h1)]))
              clear HFl HNext HSt HEs HFol
              generalize s.log.length = sln at *
              go_wp2_with fail
              exact ret_box2 rfl rfl rfl rfl (load_stD HE.out.2) HE.out.1
            · by_cases h2 : op < s.cm
              · skip
                have HE := hid (HFl.out (by rw [HFo.out]; unfold folC; rw [if_pos (.inr h2)]))
                clear HFl HNext HSt HEs HFol
                generalize s.log.length = sln at *
                go_wp2_with fail
                exact ret_box2 rfl rfl rfl rfl (load_stD HE.out.2) HE.out.1
              · have hY := HSt.out.set_cm op
                have HE := HNext.out ⟨s.vw, s.nm, op, s.log⟩ _ _ (by rw [HFo.out]; unfold folC; rw [if_neg (by omega)]) hY.1 hY.2
                clear HFl HNext HSt HEs HFol
                have g2 := sfr 2
                go_wp2_with fail
                exact ⟨⟨k + 1, _, _, by go_num, by omega, by rw [HP.out]; exact HE.1, HE.2⟩, by simp [intOf]; omega⟩
    · have e : R.take k = R := List.take_of_length_le (by rw [HN.out]; omega)
      have HE := hid HF.out
      rw [e] at HE
      obtain ⟨_, h3, h4⟩ := HS.out
      have b3 := keep h4
      obtain ⟨va, vc, rfl, _, _, _⟩ := row_form h3.row
      obtain ⟨c0, c1, c2, c3, _⟩ := h3.c
      have r0 : wr.cell? ⟨w.heap.size, 0, none⟩ = some (.int .i64 0) := by rw [Lib.cell_of_heap b3]; rfl
      have r1 : wr.cell? ⟨w.heap.size, 1, none⟩ = some (.int .i64 0) := by rw [Lib.cell_of_heap b3]; rfl
      have r2 : wr.cell? ⟨w.heap.size, 2, none⟩ = some (.int .i64 0) := by rw [Lib.cell_of_heap b3]; rfl
      have r3 : wr.cell? ⟨w.heap.size, 3, none⟩ = some (.slice none 0 0) := by rw [Lib.cell_of_heap b3]; rfl
      have f0 := Lib.frozen_of_heap b3 0
      have f1 := Lib.frozen_of_heap b3 1
      have f2 := Lib.frozen_of_heap b3 2
      have f3 := Lib.frozen_of_heap b3 3
      have fin : FoldEndD R w (.returned (.tuple #[.agg #[.int .i64 s.vw, .int .i64 s.nm, .int .i64 s.cm, .slice va s.log.length vc], .bool true])) (setN wr w.heap.size 0 [.int .i64 s.vw, .int .i64 s.nm, .int .i64 s.cm, .slice va s.log.length vc]) := ⟨setN_below _ _ hbr (Nat.le_refl _) (Nat.le_refl _), .inr ⟨s, va, vc, HE.out, rfl, row_chg4 h3.row (setN_chg _ _ _) fun g e q => by have := (row_lt4 h3.row g e).1; omega⟩⟩
      have hset := setN_all [.int .i64 s.vw, .int .i64 s.nm, .int .i64 s.cm, .slice va s.log.length vc] b3 rfl
      clear keep h3 h4 b3 HS HF hbr
      generalize s.log.length = sl at *
      go_wp2_with fail
      exact ret_box2 rfl rfl rfl rfl (load_stD hset) fin
end Go.Proofs.Ytmaecpmdikdclaa
