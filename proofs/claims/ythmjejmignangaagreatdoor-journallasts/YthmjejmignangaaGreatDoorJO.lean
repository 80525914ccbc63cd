/- Layer 16: journal.tell: the walk. -/
import Derived.Test.YthmjejmignangaaGreatDoorJM
import Derived.Sort.CutIn
import Derived.Test.YthmjejmignangaaGreatDoorWE
import Derived.Scope
import Derived.BigRegionIn
namespace Go.Proofs.YthmjejmignangaaGreatDoor
open Go.RowKit Go.Shelf
attribute [local go_sem] Oper.semAt_some
theorem wpIn_scope_wide {n : Nat} {P : Program} {c : Code} {Q : Exit → Act → World → Prop} {a : Act} {w : World} (h : c.wpIn Fence.wide n P (Exit.noGoto Q) a w) : (Code.scope c).wpIn Fence.wide n P Q a w := wpIn_wide.2 (wp_scope_straight (wpIn_wide.1 h))
/-- What tell has answered. -/
def TellEnd (s : TSt) (w : World) (e : Ending) (W : World) : Prop := ∃ rv cs, e = .returned (.tuple #[rv, .int .i64 s.en]) ∧ Own W w.heap.size 29 rv cs ∧ cs.length = s.rs.length ∧ (∀ (j : Nat) (c : Value) (r : Bt), cs[j]? = some c → s.rs[j]? = some r → Own W w.heap.size 5 c (r.map bv)) ∧ Below w.heap.size w W
theorem secJ_keep {W W' : World} {a : Option Addr} {S : List Sec} (h : SecJ W a S) (hk : ∀ q, a = some ⟨q, 0, none⟩ → W'.heap[q]? = W.heap[q]?) : SecJ W' a S := by
  intro k y hy
  obtain ⟨q, q1, q2, q3, q4⟩ := h k y hy
  have e := hk q q1
  refine ⟨q, q1, ?_, ?_, ?_⟩
  · rw [Array.getElem?_eq_getElem q2] at e
    exact (Array.getElem?_eq_some_iff.1 e).1
  · rw [← q3]; simp only [World.cell?, e]
  · rw [← q4]; simp only [World.cell?, e]
theorem row_lower16 {w : World} {base base' n size : Nat} {e : TypeId} {v : Value} {xs : List Value} (h : w.ownsRow base e size v n xs) (hb : base' ≤ base) : w.ownsRow base' e size v n xs := by
  refine ⟨h.1, ?_⟩
  rcases h.2 with h2 | ⟨g, cap, cur, rfl, hg, r⟩
  · exact .inl h2
  · exact .inr ⟨g, cap, cur, rfl, Nat.le_trans hb hg, r⟩
theorem results_cells16 {fn : Func} {t u : Tmp} {ty uy : TypeId} (h : fn.results = #[.cell t ty, .cell u uy]) (tmps : Array Value) (P : Program) (w : World) (a b : Addr) (v x : Value) (ha : tmps[t]?.getD undef = .pointer (some a)) (hb : tmps[u]?.getD undef = .pointer (some b)) (hl : (loadVar ty a).run P w = .ok v w) (hm : (loadVar uy b).run P w = .ok x w) :
    (results fn tmps).run P w = .ok (.tuple #[v, x]) w := by
  simp [results, h, ha, hb, asAddr, hl, hm]
theorem load_recs16 {w : World} {b : Nat} {v : Value} (h : w.cell? ⟨b, 0, none⟩ = some v) : (loadVar 23 ⟨b, 0, none⟩).run Tryz.prog w = .ok v w := by
  simp [loadVar, go_sem, h]
theorem load_int16 {w : World} {b : Nat} {v : Value} (h : w.cell? ⟨b, 0, none⟩ = some v) : (loadVar 3 ⟨b, 0, none⟩).run Tryz.prog w = .ok v w := by
  simp [loadVar, go_sem, h]
theorem set_same16 {W : World} {b : Nat} {v : Value} {t : TypeId} (h : W.heap[b]? = some (.cells #[v] t (0, 0))) (i : Nat) : (W.setCell ⟨b, 0, none⟩ v).heap[i]? = W.heap[i]? := by
  by_cases e : i = b
  · subst e
    rw [heap_setCell_same _ _ _ _ _ _ h, h]
    rfl
  · exact Below.heap_setCell _ _ _ _ e
theorem TM.same {Z : Nat} {lv : Value} {w : World} {s : TSt} {W W2 : World} (h : TM Z lv w s W) (hh : ∀ i : Nat, W2.heap[i]? = W.heap[i]?) (hb : Below Z w W2) (hs : W2.heap.size = W.heap.size) : TM Z lv w s W2 := by
  obtain ⟨rv, cs, cv, hx, hf⟩ := h.bx
  exact ⟨⟨rv, cs, cv, hx.keep fun i cur e _ hi => (hh i).trans hi, hf⟩, (hh _).trans h.pb, hb, by rw [hs]; exact h.siz⟩
/-- The return writes back what the boxes hold. -/
theorem TM.back {Z : Nat} {lv : Value} {w : World} {s : TSt} {W : World} (h : TM Z lv w s W) {rv : Value} {cs : List Value} {cv : Value} (hx : TB Z s rv cs cv W) : TM Z lv w s ((W.setCell ⟨Z, 0, none⟩ rv).setCell ⟨Z + 1, 0, none⟩ (.int .i64 s.en)).drew ∧ (∀ i : Nat, ((W.setCell ⟨Z, 0, none⟩ rv).setCell ⟨Z + 1, 0, none⟩ (.int .i64 s.en)).drew.heap[i]? = W.heap[i]?) := by
  have e : ∀ i : Nat, ((W.setCell ⟨Z, 0, none⟩ rv).setCell ⟨Z + 1, 0, none⟩ (.int .i64 s.en)).drew.heap[i]? = W.heap[i]? := fun i => by
    have e0 := set_same16 hx.b0
    exact (set_same16 ((e0 _).trans hx.b1) i).trans (e0 i)
  exact ⟨h.same e (((h.bel.setCell (p := ⟨Z, 0, none⟩) (Nat.le_refl _) _).setCell (p := ⟨Z + 1, 0, none⟩) (Nat.le_succ _) _).drew) (by simp [World.size_setCell, World.drew]), e⟩
theorem tell_fin {Z D' : Nat} {lv : Value} {w : World} {s : TSt} {W : World} (hI : TM Z lv w s W) (hZ : Z = w.heap.size) (hD : Z + 5 ≤ D') (hK : W.heap[D']? = some (.deferred (some []))) :
    ∃ rv, (W.putObj D' (.deferred none)).cell? ⟨Z, 0, none⟩ = some rv ∧ (W.putObj D' (.deferred none)).cell? ⟨Z + 1, 0, none⟩ = some (.int .i64 s.en) ∧ TellEnd s w (.returned (.tuple #[rv, .int .i64 s.en])) (W.putObj D' (.deferred none)) := by
  have h3 := TM.own (B := Z) (lv := lv) (w := w) (Nat.le_refl Z) s W (W.putObj D' (.deferred none)) (some D') hI (grownBy_putObj' W D' (.deferred none)) (by rintro i e; cases e; exact ⟨by omega, _, hK, rfl⟩)
  obtain ⟨rv, cs, cv, hx, hf⟩ := h3.bx
  refine ⟨rv, Lib.cell_of_heap hx.b0 0, Lib.cell_of_heap hx.b1 0, rv, cs, rfl, row_lower16 hx.r0 (by omega), hx.lc, fun j c r h1 h2 => row_lower16 (hx.each j c r h1 h2) (by omega), ?_⟩
  rw [← hZ]
  exact h3.bel
/-- A round's end: the part is told. -/
theorem jo_normal {Z q : Nat} {lv : Value} {S : Nat → Prop} {w W : World} {p : Prt} {pre : List (Prt × Bool)} {s s' : TSt} {rv : Value} {cs : List Value} {cv : Value} {V : World} {R : Code → World → Prop} {act : Act} (hs : s = tRun tStart pre) (hA : tAll tStart pre) (ho : tOk s (p, true) = true) (hn : s' = tNext s p)
    (h : BI Z q lv S w W p s' rv cs cv V) (hf : s'.ah.last = true ∨ FreeR cs cv) : RoundEnd3 (Z + 5) (KpJ S) (fun W => TM Z lv w (tRun tStart (pre ++ [(p, true)])) W ∧ tAll tStart (pre ++ [(p, true)])) R W .normal act V := by
  subst hs
  obtain ⟨q1, q2⟩ := tAll_snoc pre tStart (p, true) hA ho
  refine ⟨h.rs.kf, h.rs.kp, ?_, q1⟩
  rw [q2, ← hn]
  exact ⟨⟨rv, cs, cv, h.tb, hf⟩, h.rs.pb, h.rs.bel, h.rs.siz⟩
/-- A round's end: here all stops. -/
theorem jo_stop {Z q : Nat} {lv : Value} {S : Nat → Prop} {w W : World} {p : Prt} {ok : Bool} {pre all : List (Prt × Bool)} {s : TSt} {rv : Value} {cs : List Value} {cv : Value} {V : World} {I : World → Prop} {act : Act} (hs : s = tRun tStart pre) (hA : tAll tStart pre) (hx : pre ++ [(p, ok)] <+: all) (ho : tOk s (p, ok) = false)
    (h : BI Z q lv S w W p s rv cs cv V) (hf : s.ah.last = true ∨ FreeR cs cv) : RoundEnd3 (Z + 5) (KpJ S) I (fun c W => c = .exit 0 ∧ TM Z lv w (tRun tStart all) W) W (.exit 0) act V := by
  subst hs
  obtain ⟨r, rfl⟩ := hx
  refine ⟨h.rs.kf, rfl, ?_⟩
  rw [List.append_assoc, List.singleton_append, tRun_stop pre r tStart (p, ok) hA ho]
  exact ⟨⟨rv, cs, cv, h.tb, hf⟩, h.rs.pb, h.rs.bel, h.rs.siz⟩
theorem BI.rd {Z q : Nat} {lv : Value} {S : Nat → Prop} {w W : World} {p : Prt} {s : TSt} {rv : Value} {cs : List Value} {cv : Value} {V : World} (h : BI Z q lv S w W p s rv cs cv V) :
    (V.cell? ⟨q, 0, none⟩ = some (.int .i64 p.e) ∧ V.cell? ⟨q, 1, none⟩ = some (.int .i64 p.n) ∧ V.cell? ⟨q, 2, none⟩ = some (.int .i64 p.c) ∧ V.cell? ⟨q, 3, none⟩ = some (.int .i64 p.i) ∧ V.cell? ⟨q, 4, none⟩ = some (sv p.b) ∧ q < V.heap.size) ∧
    (V.cell? ⟨Z + 1 + 1 + 1, 0, none⟩ = some (.int .i64 s.ah.e) ∧ V.cell? ⟨Z + 1 + 1 + 1, 1, none⟩ = some (.int .i64 s.ah.n) ∧ V.cell? ⟨Z + 1 + 1 + 1, 2, none⟩ = some (.int .i64 s.ah.c) ∧ V.cell? ⟨Z + 1 + 1 + 1, 3, none⟩ = some (.int .i64 s.ah.i) ∧ V.cell? ⟨Z + 1 + 1 + 1, 4, none⟩ = some (sv s.ah.b) ∧ Z + 1 + 1 + 1 < V.heap.size) :=
  ⟨part_cells h.rs.bq, part_cells (q := Z + 1 + 1 + 1) h.tb.b3⟩
theorem set5_16 {V : World} {b : Nat} {t : TypeId} {o0 o1 o2 o3 o4 : Value} (h : V.heap[b]? = some (.cells #[o0, o1, o2, o3, o4] t (0, 0))) (v0 v1 v2 v3 v4 : Value) :
    (((((V.setCell ⟨b, 0, none⟩ v0).setCell ⟨b, 1, none⟩ v1).setCell ⟨b, 2, none⟩ v2).setCell ⟨b, 3, none⟩ v3).setCell ⟨b, 4, none⟩ v4).heap[b]? = some (.cells #[v0, v1, v2, v3, v4] t (0, 0)) := by
  have h0 := (heap_setCell_same V b 0 _ _ v0 h).trans rfl
  have h1 := (heap_setCell_same _ b 1 _ _ v1 h0).trans rfl
  have h2 := (heap_setCell_same _ b 2 _ _ v2 h1).trans rfl
  have h3 := (heap_setCell_same _ b 3 _ _ v3 h2).trans rfl
  exact (heap_setCell_same _ b 4 _ _ v4 h3).trans rfl
theorem BI.ahead {Z q : Nat} {lv : Value} {S : Nat → Prop} {w W : World} {p : Prt} {s : TSt} {rv : Value} {cs : List Value} {cv : Value} {V : World} (h : BI Z q lv S w W p s rv cs cv V) (hq : Z + 5 ≤ q) (hS : ∀ k, S k → k < Z ∨ k = Z + 4) :
    BI Z q lv S w W p ⟨p, s.rc, s.rs, s.en⟩ rv cs cv (((((V.setCell ⟨Z + 1 + 1 + 1, 0, none⟩ (.int .i64 p.e)).setCell ⟨Z + 1 + 1 + 1, 1, none⟩ (.int .i64 p.n)).setCell ⟨Z + 1 + 1 + 1, 2, none⟩ (.int .i64 p.c)).setCell ⟨Z + 1 + 1 + 1, 3, none⟩ (.int .i64 p.i)).setCell ⟨Z + 1 + 1 + 1, 4, none⟩ (sv p.b)) := by
  refine h.setAh hq hS (fun i hi => ?_) (by simp only [World.size_setCell]) ?_ (set5_16 h.tb.b3 _ _ _ _ _)
  · have hn : i ≠ Z + 1 + 1 + 1 := by omega
    exact (Below.heap_setCell _ _ _ i (by exact hn)).trans ((Below.heap_setCell _ _ _ i (by exact hn)).trans ((Below.heap_setCell _ _ _ i (by exact hn)).trans ((Below.heap_setCell _ _ _ i (by exact hn)).trans (Below.heap_setCell _ _ _ i (by exact hn)))))
  · exact (((((Below.refl Z V).setCell (by simp; omega) _).setCell (by simp; omega) _).setCell (by simp; omega) _).setCell (by simp; omega) _).setCell (by simp; omega) _
/-- A new, empty record. -/
theorem make16 (c : Int) (n : Nat) (hn : (n : Int) = c) (hc : c ≤ 1000000) : ∀ V : World, (Instr.makeSlice 29 (.int .i64 0) (.int .i64 c)).run Tryz.prog V = .ok (.slice (some ⟨V.heap.size, 0, none⟩) 0 n) (V.alloc (.cells (madeCells #[.int .u8 0] n) 5)) := by
  intro V
  obtain ⟨i0, hi, hz0, hz1, hz2⟩ := info_parts (show (Tryz.prog.info? 5).map (fun i => (i.zero, i.size, i.bytes)) = some (some (.int .u8 0), 1, 1) by kernel_rfl)
  have hr := run_make (P := Tryz.prog) V 29 5 i0 (.int .u8 0) Tryz.underlying29 hi hz0 .i64 .i64 (0 : Int) c (by omega) (by omega) (by rw [hz2]; omega) (by omega)
  subst hn
  simpa only [Int.toNat_natCast, Int.toNat_zero, hz1, Nat.mul_one, Value.cells] using hr
set_option maxRecDepth 100000 in
set_option maxHeartbeats 2000000 in
theorem tell_any (a : Option Addr) (c m : Nat) (L : List Sec) (hm : L.length = m) (hL : ∀ s ∈ L, s.b.length ≤ 9223372036854775807) (hmm : m ≤ 5864062014805) (w : World) (h : SecJ w a L) (ha : ∀ q, a = some ⟨q, 0, none⟩ → q < w.heap.size) :
    Calls Tryz.prog 25 #[.slice a m c] w (TellEnd (tRun tStart (L.map partS)) w) := by
  refine (callsIn_wide (n := 3)).1 ?_
  refine callsIn_of_wp_marks Tryz.func25 rfl trivial ?_ rfl
  simp only [Tryz.ntmps25, List.size_toArray, List.length_cons, List.length_nil, Nat.reduceAdd, Nat.reduceSub, Array.replicate_succ, Array.replicate_zero, List.push_toArray, List.append_toArray, List.nil_append, List.cons_append]
  have hp := fun W => hidb (parts_call a m c W)
  have Hh := hidb h
  have Ha := hidb ha
  clear h ha
  gi_wp2
  refine wpIn_scope_wide ?_
  gi_wp2
  refine wpIn_label ?_
  gi_wp2_with (first
    | (refine ⟨trivial, ?_⟩; gi_at_call 24; refine (callsIn_wide.2 (hp _).out).mono ?_; clear hp; rintro e w' ⟨rfl, rfl⟩)
    | fail)
  obtain ⟨Z, hZ⟩ : ∃ Z, Z = w.heap.size := ⟨_, rfl⟩
  obtain ⟨Wc, hWc⟩ : ∃ Wc, Wc = ((((w.alloc (.cells #[.slice none 0 0] 23)).alloc (.cells #[.int .i64 0] 3)).alloc (.cells #[.slice none 0 0] 29)).alloc (.cells #[.int .i64 0, .int .i64 0, .int .i64 1, .int .i64 0, .string { data := #[] }] 71)).alloc (.cells #[.slice a m c] 26) := ⟨_, rfl⟩
  have HT : Hid (TM Z (.slice a m c) w tStart Wc ∧ Wc.heap.size = Z + 5) := hidb (by
    subst hWc
    refine ⟨TM.start ?_ ?_ ?_ ?_ ?_ ?_ ?_, ?_⟩
    · rw [hZ]; exact (((((Below.refl _ w).alloc (Nat.le_refl _) _).alloc (by simp) _).alloc (by simp <;> omega) _).alloc (by simp <;> omega) _).alloc (by simp <;> omega) _
    · simp only [World.size_alloc]; omega
    all_goals subst hZ
    · rw [Below.heap_alloc _ _ _ (by simp <;> omega), Below.heap_alloc _ _ _ (by simp <;> omega), Below.heap_alloc _ _ _ (by simp <;> omega), Below.heap_alloc _ _ _ (by simp), heap_alloc_new]
    · rw [Below.heap_alloc _ _ _ (by simp <;> omega), Below.heap_alloc _ _ _ (by simp <;> omega), Below.heap_alloc _ _ _ (by simp), show w.heap.size + 1 = (w.alloc (.cells #[.slice none 0 0] 23)).heap.size by simp, heap_alloc_new]
    · rw [Below.heap_alloc _ _ _ (by simp <;> omega), Below.heap_alloc _ _ _ (by simp), show w.heap.size + 2 = ((w.alloc (.cells #[.slice none 0 0] 23)).alloc (.cells #[.int .i64 0] 3)).heap.size by simp, heap_alloc_new]
    · rw [Below.heap_alloc _ _ _ (by simp), show w.heap.size + 3 = (((w.alloc (.cells #[.slice none 0 0] 23)).alloc (.cells #[.int .i64 0] 3)).alloc (.cells #[.slice none 0 0] 29)).heap.size by simp, heap_alloc_new]
    · rw [show w.heap.size + 4 = ((((w.alloc (.cells #[.slice none 0 0] 23)).alloc (.cells #[.int .i64 0] 3)).alloc (.cells #[.slice none 0 0] 29)).alloc (.cells #[.int .i64 0, .int .i64 0, .int .i64 1, .int .i64 0, .string { data := #[] }] 71)).heap.size by simp, heap_alloc_new]
    · simp only [World.size_alloc])
  rw [← hWc, ← hZ]
  clear hWc
  have HZ := hidb hZ
  have Hm := hidb hm
  have HL := hidb hL
  clear hZ hm hL
  have hszc := HT.out.2
  refine range_feeds3b (Kp := KpJ fun k => k = Z + 1 + 1 + 1 + 1 ∨ ∃ q, a = some ⟨q, 0, none⟩ ∧ k = q) (xs := L.map partS) (encs := fun x : Prt × Bool => #[x.1.v, .bool x.2]) rfl (by decide) (gf := 48) (lb := #[.pointer (some ⟨Z + 1 + 1 + 1 + 1, 0, none⟩)]) rfl trivial (enters_of Tryz.func48 (by kernel_rfl) rfl)
    (fun W hW => by
      have hI := HT.out.1.below hW
      have hz := HZ.out
      refine parts_feeds 2 (by decide) (Z + 1 + 1 + 1 + 1) a c m L Hm.out HL.out (by omega) _ W ?_ (Lib.cell_of_heap hI.pb 0) ?_
      · rintro k (rfl | ⟨q, q1, rfl⟩)
        · have := hI.siz; omega
        · have := Ha.out k q1; have := hI.siz; omega
      · intro W' hk
        refine secJ_keep Hh.out fun q q1 => (hk q (.inr ⟨q, q1, rfl⟩)).trans (hI.bel.block q ?_)
        have := Ha.out q q1
        omega)
    (fun h k => h.trans k) (fun W l o hl k hk => World.putObj_heap_other (by
      have hz := HZ.out
      rcases hk with rfl | ⟨q, q1, rfl⟩
      · omega
      · have := Ha.out _ q1; omega)) (fun W o hW k hk => Below.heap_alloc _ _ _ (by
      have hz := HZ.out
      rcases hk with rfl | ⟨q, q1, rfl⟩
      · omega
      · have := Ha.out _ q1; omega)) (fun _ => rfl)
    (fun pre W => TM Z (.slice a m c) w (tRun tStart pre) W ∧ tAll tStart pre) (fun c' _ W => c' = .exit 0 ∧ TM Z (.slice a m c) w (tRun tStart (L.map partS)) W)
    (fun pre X Y row h hg hrow => ⟨TM.own (B := Wc.heap.size) (by omega) _ X Y row h.1 hg hrow, h.2⟩) (fun c' pre X Y row h hg hrow => ⟨h.1, TM.own (B := Wc.heap.size) (by omega) _ X Y row h.2 hg hrow⟩) ⟨HT.out.1, trivial⟩
    (fun x q => { tmps := #[.slice a m c, undef, .pointer (some ⟨Z, 0, none⟩), .pointer (some ⟨Z + 1, 0, none⟩), .pointer (some ⟨Z + 1 + 1, 0, none⟩), .pointer (some ⟨Z + 1 + 1 + 1, 0, none⟩), .pointer (some ⟨q, 0, none⟩), .bool x.2, .agg #[.int .i64 0, .int .i64 0, .int .i64 1], .agg #[.int .i64 0, .int .i64 0, .int .i64 1, .int .i64 0, .string { data := #[] }], .slice a m c, .func (.func 48) #[] #[.pointer (some ⟨Z + 1 + 1 + 1 + 1, 0, none⟩)], x.1.v, .bool x.2, undef, undef, undef, undef, undef, undef, undef, undef, undef, undef, undef, undef, undef, undef, undef, undef, undef, undef, undef, undef, undef, undef, undef, undef, undef, undef, undef, undef, undef, undef, undef, undef, undef, undef], defers := [] })
    (fun x => .cells #[.int .i64 x.1.e, .int .i64 x.1.n, .int .i64 x.1.c, .int .i64 x.1.i, sv x.1.b] 71) ?assign ?body ?done ?stop
  case assign =>
    intro l x W K hK
    obtain ⟨⟨pe, pn, pc, pi, pb⟩, ok⟩ := x
    simp only [Prt.v] at hK ⊢
    gi_wp2
    exact hK
  case stop =>
    rintro D' c' pre W hD hpre ⟨rfl, hI⟩ hK
    obtain ⟨rv, cs, cv, hb, hf⟩ := hI.bx
    obtain ⟨ra, rc, rfl, hcl⟩ := row_form hb.r0
    clear hcl
    have c0 := Lib.cell_of_heap hb.b0 0
    have c1 := Lib.cell_of_heap hb.b1 0
    have f0 := Lib.frozen_of_heap hb.b0 0
    have f1 := Lib.frozen_of_heap hb.b1 0
    simp at c0 c1
    gi_wp2
    gi_region
    obtain ⟨hI2, hh⟩ := hI.back hb
    generalize ((W.setCell ⟨Z, 0, none⟩ (.slice ra cs.length rc)).setCell ⟨Z + 1, 0, none⟩ (.int .i64 (tRun tStart (L.map partS)).en)).drew = W2 at *
    have hK2 := (hh D').trans hK
    obtain ⟨rv, r0, r1, HE⟩ := tell_fin hI2 HZ.out (by omega) hK2
    clear hI2 hh hI hK hb hf f0 f1 c0 c1
    gi_wp2
    refine ⟨by simp, .inl ⟨_, _, rfl, run_takeDeferred hK2, ?_⟩⟩
    exact ⟨_, results_cells16 rfl _ _ _ ⟨Z, 0, none⟩ ⟨Z + 1, 0, none⟩ _ _ rfl rfl (load_recs16 r0) (load_int16 r1), HE⟩
  case done =>
    rintro D' W hD hI0 hK
    have hI := hI0.1
    clear hI0
    obtain ⟨rv, cs, cv, hb, hf⟩ := hI.bx
    obtain ⟨ra, rc, rfl, hcl⟩ := row_form hb.r0
    clear hcl
    have c0 := Lib.cell_of_heap hb.b0 0
    have c1 := Lib.cell_of_heap hb.b1 0
    have f0 := Lib.frozen_of_heap hb.b0 0
    have f1 := Lib.frozen_of_heap hb.b1 0
    simp at c0 c1
    gi_wp2
    gi_region
    obtain ⟨hI2, hh⟩ := hI.back hb
    generalize ((W.setCell ⟨Z, 0, none⟩ (.slice ra cs.length rc)).setCell ⟨Z + 1, 0, none⟩ (.int .i64 (tRun tStart (L.map partS)).en)).drew = W2 at *
    have hK2 := (hh D').trans hK
    obtain ⟨rv, r0, r1, HE⟩ := tell_fin hI2 HZ.out (by omega) hK2
    clear hI2 hh hI hK hb hf f0 f1 c0 c1
    gi_wp2
    refine ⟨by simp, .inl ⟨_, _, rfl, run_takeDeferred hK2, ?_⟩⟩
    exact ⟨_, results_cells16 rfl _ _ _ ⟨Z, 0, none⟩ ⟨Z + 1, 0, none⟩ _ _ rfl rfl (load_recs16 r0) (load_int16 r1), HE⟩
  case body =>
    rintro l pre x q W ⟨hI, hA⟩ hq hbx hx
    obtain ⟨p, ok⟩ := x
    simp only at hbx ⊢
    obtain ⟨s, hs⟩ : ∃ s, s = tRun tStart pre := ⟨_, rfl⟩
    have hmem : ∀ x ∈ pre ++ [(p, ok)], PFact x := fun x hx' => by
      obtain ⟨sec, _, rfl⟩ := List.mem_map.1 (hx.subset hx')
      exact partS_fact sec
    have hPF : PFact (p, ok) := hmem _ (by simp)
    have hWf : TWf s pre.length := by
      have := TWf.run pre tStart 0 TWf.start (fun x hx' => hmem x (List.mem_append_left _ hx')) hA
      rw [Nat.zero_add] at this
      rw [hs]
      exact this
    have hpl : pre.length + 1 ≤ 5864062014805 := by
      have := hx.length_le
      simp only [List.length_append, List.length_map, List.length_cons, List.length_nil, Hm.out] at this
      omega
    clear hmem
    rw [← hs] at hI
    rw [hszc] at hq ⊢
    obtain ⟨S, hSd⟩ : ∃ S : Nat → Prop, S = fun k => k = Z + 1 + 1 + 1 + 1 ∨ ∃ q, a = some ⟨q, 0, none⟩ ∧ k = q := ⟨_, rfl⟩
    have hS : ∀ k, S k → k < Z ∨ k = Z + 4 := by
      subst hSd
      rintro k (rfl | ⟨q, q1, rfl⟩)
      · exact .inr rfl
      · have := Ha.out k q1
        have := HZ.out
        exact .inl (by omega)
    rw [← hSd]
    clear hSd
    obtain ⟨rv, cs, cv, hb, hf⟩ := hI.bx
    have B0 : BI Z q (.slice a m c) S w W p s rv cs cv W := ⟨hb, ⟨hI.pb, hbx, hI.bel, hI.siz, KeepsFrom.refl _ _, KpJ.refl _ _⟩⟩
    clear hb hI hbx HT Hh Ha HZ Hm HL
    cases ok with
    | false =>
      have hE := fun (act : Act) => jo_stop (I := fun W => TM Z (.slice a m c) w (tRun tStart (pre ++ [(p, false)])) W ∧ tAll tStart (pre ++ [(p, false)])) (act := act) hs hA hx (by simp [tOk]) B0 hf
      clear B0 hf hs hA hx
      gi_wp2
      exact hE _
    | true =>
      have hsm : p.sm := hPF.1
      have HFol := hidb (fun V => fol_any p s.ah hsm hWf.sm hWf.n V)
      obtain ⟨⟨x0, x1, x2, x3, x4, xl⟩, ⟨y0, y1, y2, y3, y4, yl⟩⟩ := B0.rd
      cases hfo : p.fol s.ah with
      | false =>
        rw [hfo] at HFol
        have HE := hidb (fun (act : Act) V (hb1 : Below W.heap.size W V) => jo_stop (I := fun W => TM Z (.slice a m c) w (tRun tStart (pre ++ [(p, true)])) W ∧ tAll tStart (pre ++ [(p, true)])) (act := act) hs hA hx (by simp [tOk, hfo]) (B0.call hq hS hb1) hf)
        clear B0 hf hs hA hx
        gi_wp2_with (first
          | (refine ⟨trivial, ?_⟩; gi_at_call 50; refine (CallsIn.inRound l (callsIn_wide.2 (HFol.out _))).mono ?_; clear HFol; rintro e V1 ⟨rfl, hb1⟩)
          | fail)
        exact HE.out _ _ hb1
      | true =>
        rw [hfo] at HFol
        have hok : tOk s (p, true) = true := by simp [tOk, hfo]
        obtain ⟨r1, r2, r3, r4, r5, r6⟩ := recN_len hWf hPF hok
        simp only at r1 r2 r3 r4 r5 r6
        have HB0 := hidb B0
        clear B0
        have HEN := hidb (fun (act : Act) (s' : TSt) (hn : s' = tNext s p) rv cs cv V (h : BI Z q (.slice a m c) S w W p s' rv cs cv V) (hf : s'.ah.last = true ∨ FreeR cs cv) => jo_normal (R := fun c_1 W => c_1 = Code.exit 0 ∧ TM Z (.slice a m c) w (tRun tStart (L.map partS)) W) (act := act) hs hA hok hn h hf)
        clear hs hA hx
        have hbl : (p.b.length : Int) ≤ 43 := by have := (hPF.2 rfl).2; simp only at this; omega
        have hrl := hWf.rl
        have hen := hWf.en
        have hrsl := hWf.rsl
        have hai := hWf.i
        have HLast := hidb (fun V => last_any p hsm V)
        clear hPF hWf hsm
        gi_upto_region 8 with (first
          | (refine ⟨trivial, ?_⟩; gi_at_call 50; refine (CallsIn.inRound l (callsIn_wide.2 (HFol.out _))).mono ?_; clear HFol; rintro e V1 ⟨rfl, hb1⟩)
          | fail)
        have B1 := HB0.out.call hq hS hb1
        clear HB0 hb1 x0 x1 x2 x3 x4 xl y0 y1 y2 y3 y4 yl
        obtain ⟨⟨x0, x1, x2, x3, x4, xl⟩, -⟩ := B1.rd
        obtain ⟨-, -, c2, f2⟩ := B1.cells
        by_cases hi0 : p.i = 0
        · rw [hi0] at x3
          obtain ⟨cp, hcp⟩ : ∃ cp : Nat, (cp : Int) = p.c * 43 := ⟨(p.c * 43).toNat, by omega⟩
          have hw : IntKind.i64.wrap (p.c * 43) = p.c * 43 := by rw [IntKind.wrap_i64]; omega
          have hmk := make16 (p.c * 43) cp hcp (by omega)
          obtain ⟨-, -, c2', f2'⟩ := (B1.call hq hS ((Below.refl _ V1).alloc (Nat.le_refl _) (.cells (madeCells #[.int .u8 0] cp) 5))).cells
          gi_upto_region 10 with fail
          clear c2' f2'
          obtain ⟨B2, F2⟩ := B1.fresh hq hS (n := cp) (by unfold maxLen; omega) (cur := madeCells #[.int .u8 0] cp) (by simp [madeCells])
          clear hmk hw
          obtain ⟨V2, hV2⟩ : ∃ V2, V2 = (V1.alloc (.cells (madeCells #[.int .u8 0] cp) 5)).setCell ⟨Z + 1 + 1, 0, none⟩ (.slice (some ⟨V1.heap.size, 0, none⟩) 0 cp) := ⟨_, rfl⟩
          rw [← hV2] at B2 ⊢
          obtain ⟨cv2, hcv2⟩ : ∃ z, z = Value.slice (some ⟨V1.heap.size, 0, none⟩) 0 cp := ⟨_, rfl⟩
          rw [← hcv2] at B2 F2 ⊢
          have HI0 := hidb hi0
          clear hi0 hcp hcv2 hV2 x0 x1 x2 x3 x4 xl c2 f2 B1 hf
          obtain ⟨cv3, V3, hr, ho3, hst3⟩ := run_app (P := Tryz.prog) V2 (ty := 29) elem_u8 (Z + 5) cv2 (([] : Bt).map bv) B2.tb.c0 (sv p.b) (p.b.map bv) (src_str V2 Tryz.underlying9 p.b) (by simp only [List.length_map, List.length_nil]; unfold maxLen; omega) (by simp only [List.length_map, List.length_nil]; omega) (by have := B2.rs.siz; omega)
          rw [← List.map_append] at ho3
          obtain ⟨ca3, cc3, e3, -⟩ := row_form ho3
          generalize ((([] : Bt) ++ p.b).map bv).length = n3 at e3
          subst e3
          obtain ⟨B4, F4, c3, f3⟩ := B2.app hq hS F2 p.b ho3 hst3
          replace B4 : BI Z q (.slice a m c) S w W p ⟨s.ah, [] ++ p.b, s.rs, s.en⟩ rv cs (.slice ca3 n3 cc3) _ := B4
          obtain ⟨⟨x0, x1, x2, x3, x4, xl⟩, -⟩ := B2.rd
          obtain ⟨-, -, c2, f2⟩ := B2.cells
          gi_upto_region 11 with (gi_at_builtin; refine wpListIn_app_run rfl _ _ _ _ rfl rfl rfl hr ?_)
          clear hr ho3 hst3 c3 f3 c2 f2 x0 x1 x2 x3 x4 xl F2 B2
          generalize V3.setCell ⟨Z + 1 + 1, 0, none⟩ (.slice ca3 n3 cc3) = V4 at *
          obtain ⟨⟨x0, x1, x2, x3, x4, xl⟩, -⟩ := B4.rd
          cases hla : p.last with
          | true =>
            rw [hla] at HLast
            gi_upto_region 12 with (first
              | (refine ⟨trivial, ?_⟩; gi_at_call 51; refine (CallsIn.inRound l (callsIn_wide.2 (HLast.out _))).mono ?_; clear HLast; rintro e V5 ⟨rfl, hb5⟩)
              | fail)
            have B5 := B4.call hq hS hb5
            clear B4 hb5 x0 x1 x2 x3 x4 xl
            obtain ⟨⟨x0, x1, x2, x3, x4, xl⟩, -⟩ := B5.rd
            obtain ⟨⟨c0, f0⟩, ⟨c1, f1⟩, ⟨c2, f2⟩⟩ := B5.cells
            have hlc := B5.tb.lc
            simp only at hlc
            obtain ⟨rv6, V6, hr6, ho6, hst6⟩ := run_app (P := Tryz.prog) (V5.alloc (.cells #[.slice ca3 n3 cc3] 29)) (ty := 23) elem_bytes (Z + 5) rv cs (Own.below B5.tb.r0 ((Below.refl _ V5).alloc (Nat.le_refl _) _)) (.slice (some ⟨V5.heap.size, 0, none⟩) 1 1) [.slice ca3 n3 cc3] (src_one V5 Tryz.underlying23 (.slice ca3 n3 cc3) (.slice ca3 n3 cc3) 29 rfl rfl 1) (by simp only [List.length_cons, List.length_nil]; unfold maxLen; omega) (by simp only [List.length_cons, List.length_nil]; omega) (by have := B5.rs.siz; rw [World.size_alloc]; omega)
            obtain ⟨ra6, rc6, e6, -⟩ := row_form ho6
            generalize (cs ++ [Value.slice ca3 n3 cc3]).length = n6 at e6
            subst e6
            obtain ⟨B7, c7, f7⟩ := B5.push hq hS ho6 hst6
            clear ho6 hst6 hlc
            gi_upto_region 13 with (gi_at_builtin; refine wpListIn_app_run rfl _ _ _ _ rfl rfl rfl hr6 ?_)
            clear hr6 c7 f7 c0 f0 c1 f1 c2 f2 x0 x1 x2 x3 x4 xl
            generalize V6.setCell ⟨Z, 0, none⟩ (.slice ra6 n6 rc6) = V7 at *
            obtain ⟨⟨x0, x1, x2, x3, x4, xl⟩, -⟩ := B7.rd
            obtain ⟨-, ⟨c1, f1⟩, -⟩ := B7.cells
            simp only at c1
            have hw2 : IntKind.i64.wrap (s.en + p.c) = s.en + p.c := by rw [IntKind.wrap_i64]; omega
            have B8 := B7.setEn hq hS (s.en + p.c)
            gi_upto_region 14 with fail
            clear hw2 c1 f1 x0 x1 x2 x3 x4 xl
            generalize V7.setCell ⟨Z + 1, 0, none⟩ (.int .i64 (s.en + p.c)) = V8 at *
            clear B7 B5
            obtain ⟨⟨x0, x1, x2, x3, x4, xl⟩, ⟨y0, y1, y2, y3, y4, yl⟩⟩ := B8.rd
            have HB9 := hidb (B8.ahead hq hS)
            have hfz := fun k => Lib.frozen_of_heap B8.tb.b3 k
            clear B8
            gi_wp2
            have hN : (⟨p, [] ++ p.b, s.rs ++ [[] ++ p.b], s.en + p.c⟩ : TSt) = tNext s p := by
              unfold tNext recN
              rw [if_pos HI0.out, hla]
              rfl
            exact HEN.out _ _ hN _ _ _ _ HB9.out (.inl hla)
          | false =>
            rw [hla] at HLast
            gi_upto_region 14 with (first
              | (refine ⟨trivial, ?_⟩; gi_at_call 51; refine (CallsIn.inRound l (callsIn_wide.2 (HLast.out _))).mono ?_; clear HLast; rintro e V8 ⟨rfl, hb5⟩)
              | fail)
            have B8 := B4.call hq hS hb5
            clear B4 hb5 x0 x1 x2 x3 x4 xl
            obtain ⟨⟨x0, x1, x2, x3, x4, xl⟩, ⟨y0, y1, y2, y3, y4, yl⟩⟩ := B8.rd
            have HB9 := hidb (B8.ahead hq hS)
            have hfz := fun k => Lib.frozen_of_heap B8.tb.b3 k
            clear B8
            gi_wp2
            have hN : (⟨p, [] ++ p.b, s.rs, s.en⟩ : TSt) = tNext s p := by
              unfold tNext recN
              rw [if_pos HI0.out, hla]
              rfl
            exact HEN.out _ _ hN _ _ _ _ HB9.out (.inr F4)
        · have hne : (p.i == 0) = false := by simp [hi0]
          have F2 : FreeR cs cv := by
            rcases hf with e | e
            · rw [r6 hi0] at e; cases e
            · exact e
          gi_upto_region 10 with fail
          have HI0 := hidb hi0
          clear hi0 hne
          obtain ⟨cv3, V3, hr, ho3, hst3⟩ := run_app (P := Tryz.prog) V1 (ty := 29) elem_u8 (Z + 5) cv (s.rc.map bv) B1.tb.c0 (sv p.b) (p.b.map bv) (src_str V1 Tryz.underlying9 p.b) (by simp only [List.length_map]; unfold maxLen; omega) (by simp only [List.length_map]; omega) (by have := B1.rs.siz; omega)
          rw [← List.map_append] at ho3
          obtain ⟨ca3, cc3, e3, -⟩ := row_form ho3
          generalize ((s.rc ++ p.b).map bv).length = n3 at e3
          subst e3
          obtain ⟨B4, F4, c3, f3⟩ := B1.app hq hS F2 p.b ho3 hst3
          replace B4 : BI Z q (.slice a m c) S w W p ⟨s.ah, s.rc ++ p.b, s.rs, s.en⟩ rv cs (.slice ca3 n3 cc3) _ := B4
          gi_upto_region 11 with (gi_at_builtin; refine wpListIn_app_run rfl _ _ _ _ rfl rfl rfl hr ?_)
          clear hr ho3 hst3 c3 f3 c2 f2 x0 x1 x2 x3 x4 xl F2 B1
          generalize V3.setCell ⟨Z + 1 + 1, 0, none⟩ (.slice ca3 n3 cc3) = V4 at *
          obtain ⟨⟨x0, x1, x2, x3, x4, xl⟩, -⟩ := B4.rd
          cases hla : p.last with
          | true =>
            rw [hla] at HLast
            gi_upto_region 12 with (first
              | (refine ⟨trivial, ?_⟩; gi_at_call 51; refine (CallsIn.inRound l (callsIn_wide.2 (HLast.out _))).mono ?_; clear HLast; rintro e V5 ⟨rfl, hb5⟩)
              | fail)
            have B5 := B4.call hq hS hb5
            clear B4 hb5 x0 x1 x2 x3 x4 xl
            obtain ⟨⟨x0, x1, x2, x3, x4, xl⟩, -⟩ := B5.rd
            obtain ⟨⟨c0, f0⟩, ⟨c1, f1⟩, ⟨c2, f2⟩⟩ := B5.cells
            have hlc := B5.tb.lc
            simp only at hlc
            obtain ⟨rv6, V6, hr6, ho6, hst6⟩ := run_app (P := Tryz.prog) (V5.alloc (.cells #[.slice ca3 n3 cc3] 29)) (ty := 23) elem_bytes (Z + 5) rv cs (Own.below B5.tb.r0 ((Below.refl _ V5).alloc (Nat.le_refl _) _)) (.slice (some ⟨V5.heap.size, 0, none⟩) 1 1) [.slice ca3 n3 cc3] (src_one V5 Tryz.underlying23 (.slice ca3 n3 cc3) (.slice ca3 n3 cc3) 29 rfl rfl 1) (by simp only [List.length_cons, List.length_nil]; unfold maxLen; omega) (by simp only [List.length_cons, List.length_nil]; omega) (by have := B5.rs.siz; rw [World.size_alloc]; omega)
            obtain ⟨ra6, rc6, e6, -⟩ := row_form ho6
            generalize (cs ++ [Value.slice ca3 n3 cc3]).length = n6 at e6
            subst e6
            obtain ⟨B7, c7, f7⟩ := B5.push hq hS ho6 hst6
            clear ho6 hst6 hlc
            gi_upto_region 13 with (gi_at_builtin; refine wpListIn_app_run rfl _ _ _ _ rfl rfl rfl hr6 ?_)
            clear hr6 c7 f7 c0 f0 c1 f1 c2 f2 x0 x1 x2 x3 x4 xl
            generalize V6.setCell ⟨Z, 0, none⟩ (.slice ra6 n6 rc6) = V7 at *
            obtain ⟨⟨x0, x1, x2, x3, x4, xl⟩, -⟩ := B7.rd
            obtain ⟨-, ⟨c1, f1⟩, -⟩ := B7.cells
            simp only at c1
            have hw2 : IntKind.i64.wrap (s.en + p.c) = s.en + p.c := by rw [IntKind.wrap_i64]; omega
            have B8 := B7.setEn hq hS (s.en + p.c)
            gi_upto_region 14 with fail
            clear hw2 c1 f1 x0 x1 x2 x3 x4 xl
            generalize V7.setCell ⟨Z + 1, 0, none⟩ (.int .i64 (s.en + p.c)) = V8 at *
            clear B7 B5
            obtain ⟨⟨x0, x1, x2, x3, x4, xl⟩, ⟨y0, y1, y2, y3, y4, yl⟩⟩ := B8.rd
            have HB9 := hidb (B8.ahead hq hS)
            have hfz := fun k => Lib.frozen_of_heap B8.tb.b3 k
            clear B8
            gi_wp2
            have hN : (⟨p, s.rc ++ p.b, s.rs ++ [s.rc ++ p.b], s.en + p.c⟩ : TSt) = tNext s p := by
              unfold tNext recN
              rw [if_neg HI0.out, hla]
              rfl
            exact HEN.out _ _ hN _ _ _ _ HB9.out (.inl hla)
          | false =>
            rw [hla] at HLast
            gi_upto_region 14 with (first
              | (refine ⟨trivial, ?_⟩; gi_at_call 51; refine (CallsIn.inRound l (callsIn_wide.2 (HLast.out _))).mono ?_; clear HLast; rintro e V8 ⟨rfl, hb5⟩)
              | fail)
            have B8 := B4.call hq hS hb5
            clear B4 hb5 x0 x1 x2 x3 x4 xl
            obtain ⟨⟨x0, x1, x2, x3, x4, xl⟩, ⟨y0, y1, y2, y3, y4, yl⟩⟩ := B8.rd
            have HB9 := hidb (B8.ahead hq hS)
            have hfz := fun k => Lib.frozen_of_heap B8.tb.b3 k
            clear B8
            gi_wp2
            have hN : (⟨p, s.rc ++ p.b, s.rs, s.en⟩ : TSt) = tNext s p := by
              unfold tNext recN
              rw [if_neg HI0.out, hla]
              rfl
            exact HEN.out _ _ hN _ _ _ _ HB9.out (.inr F4)
end Go.Proofs.YthmjejmignangaaGreatDoor
