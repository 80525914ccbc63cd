/- Layer 15: a file's write. -/
import Derived.Test.YthmjejmignangaaGreatDoorEC
namespace Go.Proofs.YthmjejmignangaaGreatDoor
open Go.RowKit
/-- What a call leaves that changes a file. -/
structure FMid (g g1 : Fg) (f1 : Fl) (w W : World) : Prop where
  at_ : FlAt W g1 f1
  fb : g1.fb = g.fb
  has : ∀ k, g1.has k → g.has k ∨ w.heap.size ≤ k
  kt : Kt g.has w W
def FEnd (g : Fg) (f' : Fl) (w : World) (w' : World) : Prop := ∃ g', FMid g g' f' w w'
theorem FMid.start {g : Fg} {f : Fl} {w : World} (h : FlAt w g f) : FMid g g f w w := ⟨h, rfl, fun _ h => .inl h, Kt.refl _ _⟩
theorem FMid.below {g g1 : Fg} {f1 : Fl} {w W W' : World} (h : FMid g g1 f1 w W) (k : Below W.heap.size W W') : FMid g g1 f1 w W' := ⟨h.at_.below k, h.fb, h.has, h.kt.trans (Kt.below (S := g.has) k) fun _ _ x => x⟩
theorem FMid.kts {g g1 : Fg} {f1 : Fl} {w W W' : World} (h : FMid g g1 f1 w W) (k : Kt g1.has W W') : Kt g.has w W' := h.kt.trans k fun i hi x => (h.has i x).resolve_right (by omega)
theorem FMid.fbs {g g1 : Fg} {f1 : Fl} {w W : World} (h : FMid g g1 f1 w W) : g.has g1.fb := .inl h.fb
/-- The slice of what is sure has turned. -/
theorem FMid.row {g g1 : Fg} {f1 : Fl} {w W W' : World} (h : FMid g g1 f1 w W) (v' : Value) (cs : List Cl) (hs : Step W g1.sl W' v') (hr : W'.ownsRow 0 76 2 v' cs.length (secCs (cs.map Cl.s))) (hl : cs.length ≤ 65536) (hc : f1.cs.length ≤ cs.length) (hw : ∀ k, (Fl.mk f1.name cs).wr k = f1.wr k) :
    FMid g ⟨g1.fb, v', g1.mp⟩ ⟨f1.name, cs⟩ w (W'.setCell ⟨g1.fb, 1, none⟩ v') := by
  have hsz := hs.1.size
  have F := h.at_
  have ob : v'.ownBlock ≠ some g1.fb := by
    rcases hs.2 with e | ⟨q, e, hq⟩
    · rw [e]; exact F.a1
    · rw [e]; intro x; injection x with x; have := heap_ltb F.box; omega
  have hhas : ∀ k, v'.ownBlock = some k → g1.sl.ownBlock = some k ∨ W.heap.size ≤ k := fun k hk => by
    rcases hs.2 with e | ⟨q, e, hq⟩
    · exact .inl (e ▸ hk)
    · rw [e] at hk; injection hk with hk; subst hk; exact .inr hq
  have bx : W'.heap[g1.fb]? = some (.cells #[sv f1.name, g1.sl, .map g1.mp] 116 (0, 0)) := (hs.1.block _ (heap_ltb F.box) (Ne.symm F.a1)).trans F.box
  have K1 : Kt g1.has W W' := Kt.step hs fun k hk => .inr (.inl hk)
  refine ⟨⟨?_, ?_, ?_, hl, ob, F.a2, ?_⟩, h.fb, ?_, ?_⟩
  · exact (heap_setCell_same _ _ _ _ _ _ bx).trans rfl
  · exact row_keep hr fun k hk => Below.heap_setCell _ _ _ _ (fun e => ob (by rw [hk, e]))
  · have M := F.map
    refine MapS.congr (m := f1.wr) ?_ hw
    have : MapS W' g1.mp f1.cs.length f1.wr := M.keep fun b hb => hs.1.block b (M.lt b hb) fun e => F.a3 b e.symm hb
    have M2 : MapS (W'.setCell ⟨g1.fb, 1, none⟩ v') g1.mp f1.cs.length f1.wr := this.keep fun b hb => Below.heap_setCell _ _ _ _ (fun e => F.a2 (by rw [hb, e]))
    rcases M2 with x | ⟨b, D, N, e1, e2, e3, T⟩
    · exact .inl x
    · exact .inr ⟨b, D, N, e1, e2, e3, T.k, fun k v hk => ⟨Nat.lt_of_lt_of_le (T.v k v hk).1 hc, (T.v k v hk).2⟩⟩
  · intro k hk
    rcases hhas k hk with e | e
    · exact F.a3 k e
    · intro x; have := F.map.lt k x; omega
  · intro k hk
    rcases hk with e | e | e
    · exact h.has k (.inl e)
    · rcases hhas k e with e | e
      · exact h.has k (.inr (.inl e))
      · exact .inr (Nat.le_trans h.kt.size e)
    · exact h.has k (.inr (.inr e))
  · exact (h.kts K1).set fun _ => h.fbs
/-- The map was made. -/
theorem FMid.made {g g1 : Fg} {f1 : Fl} {w W : World} (h : FMid g g1 f1 w W) (hm : g1.mp = none) : FMid g ⟨g1.fb, g1.sl, some W.heap.size⟩ f1 w ((W.alloc (.map #[] 0)).setCell ⟨g1.fb, 2, none⟩ (.map (some W.heap.size))) := by
  have F := h.at_
  have F2 := F.below ((Below.refl _ W).alloc (Nat.le_refl _) (.map #[] 0))
  have hlt := heap_ltb F.box
  have hw : ∀ k, f1.wr k = none := by
    rcases F.map with ⟨_, x⟩ | ⟨b, D, N, e1, _⟩
    · exact x
    · rw [hm] at e1; cases e1
  refine ⟨⟨?_, ?_, ?_, F.len, F.a1, ?_, ?_⟩, h.fb, ?_, ?_⟩
  · exact (heap_setCell_same _ _ _ _ _ _ F2.box).trans rfl
  · exact row_keep F2.row fun k hk => Below.heap_setCell _ _ _ _ (fun e => F.a1 (by rw [hk, e]))
  · refine MapS.congr (m := fun _ => none) ?_ hw
    exact (MapS.made W _).keep fun b hb => Below.heap_setCell _ _ _ _ (fun e => by injection hb with hb; have e : b = g1.fb := e; omega)
  · intro e; injection e with e; have e : W.heap.size = g1.fb := e; omega
  · intro k hk e; injection e with e; have := (F.row.lt k hk).2; omega
  · intro k hk
    rcases hk with e | e | e
    · exact h.has k (.inl e)
    · exact h.has k (.inr (.inl e))
    · injection e with e; exact .inr (e ▸ h.kt.size)
  · exact (h.kt.alloc _).set fun _ => h.fbs
/-- A sector is written into the map. -/
theorem FMid.put {g g1 : Fg} {f1 : Fl} {w W W' : World} {b : Nat} (h : FMid g g1 f1 w W) (hm : g1.mp = some b) (k : Kt (fun i => i = b) W W') (cs : List Cl) (hl : cs.length = f1.cs.length) (hs : cs.map Cl.s = f1.cs.map Cl.s) (M : MapS W' (some b) f1.cs.length (Fl.mk f1.name cs).wr) : FMid g g1 ⟨f1.name, cs⟩ w W' := by
  have F := h.at_
  have bx : W'.heap[g1.fb]? = some (.cells #[sv f1.name, g1.sl, .map g1.mp] 116 (0, 0)) := (k.block _ (heap_ltb F.box) (fun e => F.a2 (by rw [hm, e]))).trans F.box
  refine ⟨⟨bx, ?_, ?_, by rw [hl]; exact F.len, F.a1, F.a2, F.a3⟩, h.fb, h.has, h.kts (k.mono fun i _ e => .inr (.inr (by rw [hm, e])))⟩
  · show W'.ownsRow 0 _ 2 g1.sl cs.length (secCs (cs.map Cl.s))
    rw [hl, hs]
    exact row_keep F.row fun j hj => k.block j (F.row.lt j hj).2 fun e => F.a3 j hj (by rw [hm, e])
  · show MapS W' g1.mp cs.length _
    rw [hl, hm]
    exact M
set_option maxRecDepth 100000 in
theorem elemSec : ElemN Tryz.prog 26 76 2 24 := ⟨Tryz.underlying26, by refine ⟨_, _, rfl, rfl, rfl, rfl, rfl⟩, by omega⟩
theorem wr_nth (f : Fl) (k : Nat) : f.wr k = (f.cs[k]?).bind Cl.n := rfl
theorem sure_wrC_in {cs : List Cl} {at_ : Nat} (x : Sec) (h : at_ < cs.length) : (wrC cs at_ x).map Cl.s = cs.map Cl.s := by
  unfold wrC
  rw [dif_pos h, List.map_set]
  apply List.ext_getElem?
  intro k
  rw [List.getElem?_set]
  split
  · rename_i e; subst e; simp [h]
  · rfl
theorem sure_wrC_new {cs : List Cl} {at_ : Nat} (x : Sec) (h : at_ = cs.length) : (wrC cs at_ x).map Cl.s = cs.map Cl.s ++ [noSec] := by
  unfold wrC
  rw [dif_neg (by omega), List.map_append]
  rfl
theorem len_wrC {cs : List Cl} {at_ : Nat} (x : Sec) : (wrC cs at_ x).length = if at_ < cs.length then cs.length else cs.length + 1 := by
  unfold wrC
  split <;> simp
theorem wr_wrC {cs : List Cl} {at_ : Nat} (nm : Bt) (x : Sec) (h : at_ ≤ cs.length) : ∀ k, (Fl.mk nm (wrC cs at_ x)).wr k = mput (Fl.mk nm cs).wr at_ x k := by
  intro k
  rw [wr_nth]
  unfold mput
  rw [wr_nth]
  show ((wrC cs at_ x)[k]?).bind Cl.n = if k = at_ then some x else (cs[k]?).bind Cl.n
  unfold wrC
  by_cases e : at_ < cs.length
  · rw [dif_pos e, List.getElem?_set]
    by_cases e2 : at_ = k
    · subst e2; rw [if_pos rfl, if_pos rfl, if_pos e]; rfl
    · rw [if_neg e2, if_neg (Ne.symm e2)]
  · rw [dif_neg e]
    have e3 : at_ = cs.length := by omega
    subst e3
    by_cases e2 : k = cs.length
    · subst e2; rw [if_pos rfl, List.getElem?_append_right (Nat.le_refl _)]; simp
    · rw [if_neg e2]
      by_cases e4 : k < cs.length
      · rw [List.getElem?_append_left e4]
      · rw [List.getElem?_append_right (by omega), List.getElem?_eq_none (by simp; omega), List.getElem?_eq_none (by omega)]
theorem map_neq_nil (b : Nat) (w : World) : (binOp .eql 112 (.map (some b)) (.map none)).run Tryz.prog w = .ok (.bool false) w := by kernel_rfl
theorem map_eq_nil (w : World) : (binOp .eql 112 (.map none) (.map none)).run Tryz.prog w = .ok (.bool true) w := by kernel_rfl
theorem setCell_alloc15 {w : World} {b j : Nat} {v : Value} {o : Obj} (h : b < w.heap.size) : (w.alloc o).setCell ⟨b, j, none⟩ v = (w.setCell ⟨b, j, none⟩ v).alloc o := by
  unfold World.setCell World.alloc
  congr 1
  apply Array.ext_getElem?
  intro i
  simp only [Array.getElem?_modify, Array.getElem?_push, Array.size_modify]
  by_cases e : b = i
  · subst e
    rw [if_pos rfl, if_neg (by omega), if_neg (by omega), if_pos rfl]
  · rw [if_neg e]
    split
    · rfl
    · rfl
theorem wrC_app (cs : List Cl) (x : Sec) : wrC (cs ++ [⟨noSec, none⟩]) cs.length x = wrC cs cs.length x := by
  unfold wrC
  rw [dif_pos (by simp), dif_neg (by omega)]
  simp
/-- The last step. -/
theorem FMid.last {g g1 : Fg} {f1 : Fl} {w W : World} {b at_ : Nat} (h : FMid g g1 f1 w W) (hm : g1.mp = some b) (hat : at_ < f1.cs.length) (x : Sec) : ∃ w2, (Instr.mapUpdate 112 (.map (some b)) (.int .i64 at_) (.agg #[sv x.b, .bool x.bad])).run Tryz.prog W.drew = .ok () w2 ∧ Hid (FEnd g ⟨f1.name, wrC f1.cs at_ x⟩ w w2) := by
  have M1 : MapS W.drew (some b) f1.cs.length f1.wr := hm ▸ h.at_.map
  obtain ⟨w2, hu, M2, K2, z2⟩ := M1.put at_ x f1.cs.length (Nat.le_refl _) hat (by have := h.at_.len; omega)
  refine ⟨w2, hu, hidb ⟨g1, h.put hm ?_ (wrC f1.cs at_ x) (by rw [len_wrC, if_pos hat]) (sure_wrC_in x hat) ?_⟩⟩
  · exact ⟨K2.os, K2.tape, K2.output, K2.size, fun i hi hn => K2.block i hi fun e => hn (by injection e)⟩
  · exact MapS.congr M2 (wr_wrC f1.name x (Nat.le_of_lt hat))
set_option maxRecDepth 100000 in
set_option maxHeartbeats 1000000 in
theorem write_in (w : World) (g : Fg) (f : Fl) (at_ : Nat) (x : Sec) (h : FlAt w g f) (hat : at_ < f.cs.length) (b : Nat) (hm : g.mp = some b) :
    Calls Tryz.prog 80 #[.pointer (some ⟨g.fb, 1, none⟩), .int .i64 at_, x.v] w fun e w' => e = .returned (.tuple #[]) ∧ Hid (FEnd g ⟨f.name, wrC f.cs at_ x⟩ w w') := by
  have c1 := h.c1
  have c2 := h.c2
  have hlt := heap_ltb h.box
  obtain ⟨a, c, e, h1, h2⟩ := h.form
  have hl := h.len
  rw [e] at c1
  rw [hm] at c2
  have hm1 := map_neq_nil b
  have hne : ((at_ : Int) == f.cs.length) = false := by simp; omega
  unfold Sec.v
  obtain ⟨W1, hW1⟩ : ∃ W1, W1 = World.alloc w (.cells #[sv x.b, .bool x.bad] 76) := ⟨_, rfl⟩
  have hb1 : Below w.heap.size w W1 := by rw [hW1]; exact (Below.refl _ w).alloc (Nat.le_refl _) _
  have hx : W1.heap[w.heap.size]? = some (.cells #[sv x.b, .bool x.bad] 76 (0, 0)) := by rw [hW1]; exact heap_alloc_new w _
  have HM : Hid (FMid g g f w W1) := hidb ((FMid.start h).below hb1)
  obtain ⟨w2, hu, HE⟩ := HM.out.last hm hat x
  have d2 := HM.out.at_.c2
  rw [hm] at d2
  clear h hb1
  generalize f.cs.length = n at c1 h1 hl hne e hat
  go_enter Tryz.func80, Tryz.ntmps80
  go_wp2_with fail
  rw [← hW1]
  have x0 := Lib.cell_of_heap hx 0
  have x1 := Lib.cell_of_heap hx 1
  simp at x0 x1
  clear c1 c2 hlt hW1
  go_region
  go_end0
  exact ⟨rfl, HE⟩
set_option maxRecDepth 100000 in
set_option maxHeartbeats 1000000 in
theorem write_inn (w : World) (g : Fg) (f : Fl) (at_ : Nat) (x : Sec) (h : FlAt w g f) (hat : at_ < f.cs.length) (hm : g.mp = none) :
    Calls Tryz.prog 80 #[.pointer (some ⟨g.fb, 1, none⟩), .int .i64 at_, x.v] w fun e w' => e = .returned (.tuple #[]) ∧ Hid (FEnd g ⟨f.name, wrC f.cs at_ x⟩ w w') := by
  have c1 := h.c1
  have c2 := h.c2
  have cf := h.fr 2
  have cf1 := h.fr 1
  have hlt := heap_ltb h.box
  have hmk : ∀ W : World, (Instr.makeMap 112 none).run Tryz.prog W = .ok (.map (some W.heap.size)) (W.alloc (.map #[] 0)) := fun W => by kernel_rfl
  obtain ⟨a, c, e, h1, h2⟩ := h.form
  rw [e] at c1
  rw [hm] at c2
  have hm1 := map_neq_nil
  have hm2 := map_eq_nil
  unfold Sec.v
  obtain ⟨W1, hW1⟩ : ∃ W1, W1 = World.alloc w (.cells #[sv x.b, .bool x.bad] 76) := ⟨_, rfl⟩
  have hb1 : Below w.heap.size w W1 := by rw [hW1]; exact (Below.refl _ w).alloc (Nat.le_refl _) _
  have hz1 : W1.heap.size = w.heap.size + 1 := by rw [hW1, World.size_alloc]
  have hx : W1.heap[w.heap.size]? = some (.cells #[sv x.b, .bool x.bad] 76 (0, 0)) := by rw [hW1]; exact heap_alloc_new w _
  have HM : Hid (FMid g g f w W1) := hidb ((FMid.start h).below hb1)
  have hl := h.len
  have hne : ((at_ : Int) == f.cs.length) = false := by simp; omega
  obtain ⟨W7, hW7⟩ : ∃ W7, W7 = (W1.alloc (.map #[] 0)).setCell ⟨g.fb, 2, none⟩ (.map (some W1.heap.size)) := ⟨_, rfl⟩
  have HM7 : Hid (FMid g ⟨g.fb, g.sl, some W1.heap.size⟩ f w W7) := hidb (by rw [hW7]; exact HM.out.made hm)
  have hx7 : W7.heap[w.heap.size]? = some (.cells #[sv x.b, .bool x.bad] 76 (0, 0)) := by
    rw [hW7]
    exact (Below.heap_setCell _ _ _ _ (by show w.heap.size ≠ g.fb; omega)).trans ((Below.heap_alloc _ _ _ (by omega)).trans hx)
  obtain ⟨w2, hu, HE⟩ := HM7.out.last rfl hat x
  rw [hz1] at hW7 hu HM7
  rw [hW1, setCell_alloc15 (by rw [World.size_alloc]; omega), setCell_alloc15 hlt] at hW7
  clear h hb1 hW1 hx HM hz1
  generalize f.cs.length = n at c1 h1 hl hne e hat
  go_enter Tryz.func80, Tryz.ntmps80
  go_wp2_with fail
  rw [← hW7]
  have x0 := Lib.cell_of_heap hx7 0
  have x1 := Lib.cell_of_heap hx7 1
  simp at x0 x1
  have d2 := HM7.out.at_.c2
  clear c1 c2 hlt hW7
  go_region
  go_end0
  exact ⟨rfl, HE⟩
theorem FMid.app {g : Fg} {f : Fl} {w W1 : World} (HM : FMid g g f w W1) (hl : f.cs.length < 65536) (o : Obj) : ∀ v' W5, W5.ownsRow 0 76 2 v' (f.cs.length + 1) (secCs f.sure ++ secCs [noSec]) → Step (W1.alloc o) g.sl W5 v' →
    FMid g ⟨g.fb, v', g.mp⟩ ⟨f.name, f.cs ++ [⟨noSec, none⟩]⟩ w (W5.setCell ⟨g.fb, 1, none⟩ v') := fun v' W5 hr hs => by
  have H := HM.below ((Below.refl _ W1).alloc (Nat.le_refl _) o)
  refine H.row v' (f.cs ++ [⟨noSec, none⟩]) hs ?_ (by simp; omega) (by simp) fun k => ?_
  · rw [List.length_append, List.map_append, secCs_app]
    exact hr
  · rw [wr_nth, wr_nth]
    show ((f.cs ++ [⟨noSec, none⟩])[k]?).bind Cl.n = (f.cs[k]?).bind Cl.n
    by_cases e : k < f.cs.length
    · rw [List.getElem?_append_left e]
    · rw [List.getElem?_append_right (by omega), List.getElem?_eq_none (l := f.cs) (by omega)]
      cases k - f.cs.length <;> rfl
theorem cells_new15 (W : World) (B : Nat) (hB : W.heap.size = B) (cs : List Value) (t : TypeId) (a : Array Value) (h : a = cs.toArray) : ∀ j u, cs[j]? = some u → (W.alloc (.cells a t)).cell? ((⟨B, 0, none⟩ : Addr).add j) = some u := by
  subst h
  subst hB
  exact World.news_of_block (heap_alloc_new W _)
set_option maxRecDepth 100000 in
set_option maxHeartbeats 1000000 in
theorem write_new (w : World) (g : Fg) (f : Fl) (x : Sec) (h : FlAt w g f) (hl : f.cs.length < 65536) (b : Nat) (hm : g.mp = some b) :
    Calls Tryz.prog 80 #[.pointer (some ⟨g.fb, 1, none⟩), .int .i64 f.cs.length, x.v] w fun e w' => e = .returned (.tuple #[]) ∧ Hid (FEnd g ⟨f.name, wrC f.cs f.cs.length x⟩ w w') := by
  have c1 := h.c1
  have c2 := h.c2
  have cf := h.fr 2
  have cf1 := h.fr 1
  have hlt := heap_ltb h.box
  have hmk : ∀ W : World, (Instr.makeMap 112 none).run Tryz.prog W = .ok (.map (some W.heap.size)) (W.alloc (.map #[] 0)) := fun W => by kernel_rfl
  obtain ⟨a, c, e, h1, h2⟩ := h.form
  rw [e] at c1
  rw [hm] at c2
  have hm1 := map_neq_nil
  have hm2 := map_eq_nil
  unfold Sec.v
  obtain ⟨W1, hW1⟩ : ∃ W1, W1 = World.alloc w (.cells #[sv x.b, .bool x.bad] 76) := ⟨_, rfl⟩
  have hb1 : Below w.heap.size w W1 := by rw [hW1]; exact (Below.refl _ w).alloc (Nat.le_refl _) _
  have hz1 : W1.heap.size = w.heap.size + 1 := by rw [hW1, World.size_alloc]
  have hx : W1.heap[w.heap.size]? = some (.cells #[sv x.b, .bool x.bad] 76 (0, 0)) := by rw [hW1]; exact heap_alloc_new w _
  have HM : Hid (FMid g g f w W1) := hidb ((FMid.start h).below hb1)
  have hrow := HM.out.at_.row
  have HA := hidb (HM.out.app hl (.cells #[.string ⟨#[]⟩, .bool false] 76))
  have HB : Hid (∀ v' W5, Step (W1.alloc (.cells #[.string ⟨#[]⟩, .bool false] 76)) g.sl W5 v' → W5.heap[w.heap.size]? = some (.cells #[sv x.b, .bool x.bad] 76 (0, 0)) ∧ W5.heap[g.fb]? = some (.cells #[sv f.name, g.sl, .map g.mp] 116 (0, 0))) := hidb fun v' W5 hs => by
    refine ⟨(hs.1.block _ (by rw [World.size_alloc]; omega) ?_).trans ((Below.heap_alloc _ _ _ (by omega)).trans hx), (hs.1.block _ (by rw [World.size_alloc]; omega) ?_).trans ((Below.heap_alloc _ _ _ (by omega)).trans HM.out.at_.box)⟩
    · intro e; have := (h.row.lt _ e.symm).2; omega
    · intro e; exact h.a1 e.symm
  rw [e] at hrow HA HB
  rw [hm] at HB
  have HX : Hid (∀ v' W7, FMid g ⟨g.fb, v', g.mp⟩ ⟨f.name, f.cs ++ [⟨noSec, none⟩]⟩ w W7 → ∃ w2, (Instr.mapUpdate 112 (.map (some b)) (.int .i64 f.cs.length) (.agg #[sv x.b, .bool x.bad])).run Tryz.prog W7.drew = .ok () w2 ∧ Hid (FEnd g ⟨f.name, wrC f.cs f.cs.length x⟩ w w2)) := hidb fun v' W7 H7 => by
    obtain ⟨w2, h1, h2⟩ := H7.last (b := b) hm (at_ := f.cs.length) (by simp) x
    rw [wrC_app] at h2
    exact ⟨w2, h1, h2⟩
  rw [hW1] at hrow HA HB
  clear h hb1 hx HM hz1 hW1
  generalize hxs : secCs f.sure = xs at *
  clear hxs
  generalize f.cs.length = n at *
  go_enter Tryz.func80, Tryz.ntmps80
  go_wp2_with (at_builtin; refine wpList_appN _ rfl _ _ 26 rfl elemSec 0 _ n xs rfl (World.ownsRow.alloc hrow _) _ rfl 1 [.string ⟨#[]⟩, .bool false] (.inr ⟨⟨_, 0, none⟩, 1, rfl, cells_new15 _ _ (by simp) [.string ⟨#[]⟩, .bool false] 76 _ rfl⟩) rfl (by simp [Value.oneCell']) (by unfold maxLen; omega) (by omega) (Nat.zero_le _) ?_; intro v' W5 hr5 hs5; obtain ⟨a5, c5, e5, _, _, _⟩ := row_form hr5; subst e5; obtain ⟨B1, B2⟩ := HB.out _ _ hs5; replace HA := hidb (HA.out _ _ hr5 hs5); replace hx := hidb B1; clear hs5 hr5 HB B1; have c1 := Lib.cell_of_heap B2 1; have c2 := Lib.cell_of_heap B2 2; have cf1 := Lib.frozen_of_heap B2 1; simp at c1 c2)
  obtain ⟨W7, hW7⟩ : ∃ W7, W7 = W5.setCell ⟨g.fb, 1, none⟩ (.slice a5 (n + 1) c5) := ⟨_, rfl⟩
  rw [← hW7]
  rw [← hW7] at HA
  have hx7 : W7.heap[w.heap.size]? = some (.cells #[sv x.b, .bool x.bad] 76 (0, 0)) := by
    rw [hW7]
    exact (Below.heap_setCell _ _ _ _ (by show w.heap.size ≠ g.fb; omega)).trans hx.out
  obtain ⟨w2, hu, HE⟩ := HX.out _ _ HA.out
  have d2 := HA.out.at_.c2
  simp only [hm] at d2
  clear c1 c2 B2 hlt hW7 hrow
  have x0 := Lib.cell_of_heap hx7 0
  have x1 := Lib.cell_of_heap hx7 1
  simp at x0 x1
  go_region
  go_end0
  exact ⟨rfl, HE⟩
set_option maxRecDepth 100000 in
set_option maxHeartbeats 1000000 in
theorem write_newn (w : World) (g : Fg) (f : Fl) (x : Sec) (h : FlAt w g f) (hl : f.cs.length < 65536) (hm : g.mp = none) :
    Calls Tryz.prog 80 #[.pointer (some ⟨g.fb, 1, none⟩), .int .i64 f.cs.length, x.v] w fun e w' => e = .returned (.tuple #[]) ∧ Hid (FEnd g ⟨f.name, wrC f.cs f.cs.length x⟩ w w') := by
  have c1 := h.c1
  have c2 := h.c2
  have cf := h.fr 2
  have cf1 := h.fr 1
  have hlt := heap_ltb h.box
  have hmk : ∀ W : World, (Instr.makeMap 112 none).run Tryz.prog W = .ok (.map (some W.heap.size)) (W.alloc (.map #[] 0)) := fun W => by kernel_rfl
  obtain ⟨a, c, e, h1, h2⟩ := h.form
  rw [e] at c1
  rw [hm] at c2
  have hm1 := map_neq_nil
  have hm2 := map_eq_nil
  unfold Sec.v
  obtain ⟨W1, hW1⟩ : ∃ W1, W1 = World.alloc w (.cells #[sv x.b, .bool x.bad] 76) := ⟨_, rfl⟩
  have hb1 : Below w.heap.size w W1 := by rw [hW1]; exact (Below.refl _ w).alloc (Nat.le_refl _) _
  have hz1 : W1.heap.size = w.heap.size + 1 := by rw [hW1, World.size_alloc]
  have hx : W1.heap[w.heap.size]? = some (.cells #[sv x.b, .bool x.bad] 76 (0, 0)) := by rw [hW1]; exact heap_alloc_new w _
  have HM : Hid (FMid g g f w W1) := hidb ((FMid.start h).below hb1)
  have hrow := HM.out.at_.row
  have HA := hidb (HM.out.app hl (.cells #[.string ⟨#[]⟩, .bool false] 76))
  have HB : Hid (∀ v' W5, Step (W1.alloc (.cells #[.string ⟨#[]⟩, .bool false] 76)) g.sl W5 v' → W5.heap[w.heap.size]? = some (.cells #[sv x.b, .bool x.bad] 76 (0, 0)) ∧ W5.heap[g.fb]? = some (.cells #[sv f.name, g.sl, .map g.mp] 116 (0, 0))) := hidb fun v' W5 hs => by
    refine ⟨(hs.1.block _ (by rw [World.size_alloc]; omega) ?_).trans ((Below.heap_alloc _ _ _ (by omega)).trans hx), (hs.1.block _ (by rw [World.size_alloc]; omega) ?_).trans ((Below.heap_alloc _ _ _ (by omega)).trans HM.out.at_.box)⟩
    · intro e; have := (h.row.lt _ e.symm).2; omega
    · intro e; exact h.a1 e.symm
  rw [e] at hrow HA HB
  rw [hm] at HB
  have HX : Hid (∀ v' W7 q, FMid g ⟨g.fb, v', some q⟩ ⟨f.name, f.cs ++ [⟨noSec, none⟩]⟩ w W7 → ∃ w2, (Instr.mapUpdate 112 (.map (some q)) (.int .i64 f.cs.length) (.agg #[sv x.b, .bool x.bad])).run Tryz.prog W7.drew = .ok () w2 ∧ Hid (FEnd g ⟨f.name, wrC f.cs f.cs.length x⟩ w w2)) := hidb fun v' W7 q H7 => by
    obtain ⟨w2, h1, h2⟩ := H7.last (b := q) rfl (at_ := f.cs.length) (by simp) x
    rw [wrC_app] at h2
    exact ⟨w2, h1, h2⟩
  rw [hW1] at hrow HA HB
  clear h hb1 hx HM hz1 hW1
  generalize hxs : secCs f.sure = xs at *
  clear hxs
  generalize f.cs.length = n at *
  go_enter Tryz.func80, Tryz.ntmps80
  go_wp2_with (at_builtin; refine wpList_appN _ rfl _ _ 26 rfl elemSec 0 _ n xs rfl (World.ownsRow.alloc hrow _) _ rfl 1 [.string ⟨#[]⟩, .bool false] (.inr ⟨⟨_, 0, none⟩, 1, rfl, cells_new15 _ _ (by simp) [.string ⟨#[]⟩, .bool false] 76 _ rfl⟩) rfl (by simp [Value.oneCell']) (by unfold maxLen; omega) (by omega) (Nat.zero_le _) ?_; intro v' W5 hr5 hs5; obtain ⟨a5, c5, e5, _, _, _⟩ := row_form hr5; subst e5; obtain ⟨B1, B2⟩ := HB.out _ _ hs5; replace HA := hidb (HA.out _ _ hr5 hs5); replace hx := hidb B1; clear hs5 hr5 HB B1; have c1 := Lib.cell_of_heap B2 1; have c2 := Lib.cell_of_heap B2 2; have cf1 := Lib.frozen_of_heap B2 1; have cf2 := Lib.frozen_of_heap B2 2; have hlt5 := heap_ltb B2; simp at c1 c2)
  obtain ⟨W7, hW7⟩ : ∃ W7, W7 = ((W5.setCell ⟨g.fb, 1, none⟩ (.slice a5 (n + 1) c5)).setCell ⟨g.fb, 2, none⟩ (.map (some W5.heap.size))).alloc (.map #[] 0) := ⟨_, rfl⟩
  rw [← hW7]
  have HM7 : Hid (FMid g ⟨g.fb, .slice a5 (n + 1) c5, some W5.heap.size⟩ ⟨f.name, f.cs ++ [⟨noSec, none⟩]⟩ w W7) := hidb (by
    have := HA.out.made hm
    rw [World.size_setCell, setCell_alloc15 (by rw [World.size_setCell]; exact hlt5)] at this
    rw [hW7]
    exact this)
  have hx7 : W7.heap[w.heap.size]? = some (.cells #[sv x.b, .bool x.bad] 76 (0, 0)) := by
    have hl7 := heap_ltb hx.out
    rw [hW7]
    exact (Below.heap_alloc _ _ _ (by rw [World.size_setCell, World.size_setCell]; exact hl7)).trans ((Below.heap_setCell _ _ _ _ (by show w.heap.size ≠ g.fb; omega)).trans ((Below.heap_setCell _ _ _ _ (by show w.heap.size ≠ g.fb; omega)).trans hx.out))
  obtain ⟨w2, hu, HE⟩ := HX.out _ _ _ HM7.out
  have d2 := HM7.out.at_.c2
  clear c1 c2 B2 hlt hW7 hrow cf2 cf1 hlt5
  have x0 := Lib.cell_of_heap hx7 0
  have x1 := Lib.cell_of_heap hx7 1
  simp at x0 x1
  go_region
  go_end0
  exact ⟨rfl, HE⟩
/-- A file's write. -/
theorem write15_any (w : World) (g : Fg) (f : Fl) (at_ : Nat) (x : Sec) (h : FlAt w g f) (hat : at_ ≤ f.cs.length) (hl : at_ < 65536) :
    Calls Tryz.prog 80 #[.pointer (some ⟨g.fb, 1, none⟩), .int .i64 at_, x.v] w fun e w' => e = .returned (.tuple #[]) ∧ Hid (FEnd g ⟨f.name, wrC f.cs at_ x⟩ w w') := by
  by_cases e : at_ < f.cs.length
  · cases hm : g.mp with
    | some b => exact write_in w g f at_ x h e b hm
    | none => exact write_inn w g f at_ x h e hm
  · obtain rfl : at_ = f.cs.length := by omega
    cases hm : g.mp with
    | some b => exact write_new w g f x h hl b hm
    | none => exact write_newn w g f x h hl hm
end Go.Proofs.YthmjejmignangaaGreatDoor
