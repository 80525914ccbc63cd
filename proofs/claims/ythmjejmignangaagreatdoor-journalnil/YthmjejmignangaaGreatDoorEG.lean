/- Layer 15: a file's sync. -/
import Derived.Test.YthmjejmignangaaGreatDoorEF
import Derived.Laws.StructEq
namespace Go.Proofs.YthmjejmignangaaGreatDoor
open Go.RowKit
/-- All that was written is sure, or what is left is (the row holds L): the map is gone. -/
theorem FMid.wipe {g g1 : Fg} {f1 : Fl} {w W W' : World} (h : FMid g g1 f1 w W) (L : List Sec) (hl : L.length = f1.cs.length) (hr : W'.ownsRow 0 76 2 g1.sl L.length (secCs L)) (hb : W'.heap[g1.fb]? = some (.cells #[sv f1.name, g1.sl, .map g1.mp] 116 (0, 0))) (k : Kt g1.has W W') :
    FMid g ⟨g1.fb, g1.sl, none⟩ ⟨f1.name, L.map fun s => ⟨s, none⟩⟩ w (W'.setCell ⟨g1.fb, 2, none⟩ (.map none)) := by
  have F := h.at_
  have e : (L.map fun s => (⟨s, none⟩ : Cl)).map Cl.s = L := by
    rw [List.map_map]
    exact List.map_id L
  refine ⟨⟨(heap_setCell_same _ _ _ _ _ _ hb).trans rfl, ?_, ?_, by simp; rw [hl]; exact F.len, F.a1, by simp, fun _ _ => by simp⟩, h.fb, ?_, (h.kts k).set fun _ => h.fbs⟩
  · show (W'.setCell ⟨g1.fb, 2, none⟩ (.map none)).ownsRow 0 _ 2 g1.sl (L.map fun s => (⟨s, none⟩ : Cl)).length (secCs ((L.map fun s => (⟨s, none⟩ : Cl)).map Cl.s))
    rw [e, List.length_map]
    exact row_keep hr fun j hj => Below.heap_setCell _ _ _ _ (fun x => F.a1 (by rw [hj, x]))
  · refine .inl ⟨rfl, fun j => ?_⟩
    rw [wr_nth]
    show ((L.map fun s => (⟨s, none⟩ : Cl))[j]?).bind Cl.n = none
    rw [List.getElem?_map]
    cases L[j]? <;> rfl
  · intro j hj
    rcases hj with x | x | x
    · exact h.has j (.inl x)
    · exact h.has j (.inr (.inl x))
    · cases x
theorem syncC_eq (cs : List Cl) : syncC cs = (cs.map Cl.now).map fun s => ⟨s, none⟩ := by
  unfold syncC
  rw [List.map_map]
  rfl
set_option maxRecDepth 100000 in
set_option maxHeartbeats 1000000 in
theorem sync_nil (w : World) (g : Fg) (f : Fl) (h : FlAt w g f) (hm : g.mp = none) : Calls Tryz.prog 60 #[.pointer (some ⟨g.fb, 1, none⟩)] w fun e w' => e = .returned (.tuple #[]) ∧ Hid (FEnd g ⟨f.name, syncC f.cs⟩ w w') := by
  have c2 := h.c2
  have cf := h.fr 2
  have hlt := heap_ltb h.box
  rw [hm] at c2
  have hrn : ∀ W : World, (Instr.range 112 (.map none)).run Tryz.prog W = .ok (.pointer (some ⟨W.heap.size, 0, none⟩)) (W.alloc (.mapIter none 0 #[] 0)) := fun W => run_range_nilMap W _ _ _ Tryz.underlying112
  have hnx : ∀ (W : World) ty, (Instr.next (.pointer (some ⟨W.heap.size, 0, none⟩)) false ty).run Tryz.prog (W.alloc (.mapIter none 0 #[] 0)) = .ok (.tuple #[.bool false]) (W.alloc (.mapIter none 0 #[] 0)) := fun W ty => run_next_nilMap W ty 0 0 #[]
  have HE : Hid (FEnd g ⟨f.name, syncC f.cs⟩ w ((w.setCell ⟨g.fb, 2, none⟩ (.map none)).alloc (.mapIter none 0 #[] 0))) := hidb (by
    have hw : f.cs.map Cl.now = f.sure := by
      have hw : ∀ k, f.wr k = none := by
        rcases h.map with ⟨_, x⟩ | ⟨b, D, N, e1, _⟩
        · exact x
        · rw [hm] at e1; cases e1
      have := (mixL_end f.cs (fun _ => false) fun _ => rfl).symm.trans (mixL_start f.name f.cs (fun _ => false) fun k _ => hw k)
      exact this
    have := (FMid.start h).wipe (W' := w) (f.cs.map Cl.now) (by simp) (by rw [hw]; show w.ownsRow 0 _ 2 g.sl (f.cs.map Cl.s).length _; rw [List.length_map]; exact h.row) h.box (Kt.refl _ _)
    rw [← syncC_eq] at this
    exact ⟨_, this.below ((Below.refl _ _).alloc (Nat.le_refl _) _)⟩)
  clear h
  go_enter Tryz.func60, Tryz.ntmps60
  go_wp2_with fail
  refine wp_loop_rounds 1 ?_
  rw [rounds_succ]
  go_wp2_with fail
  go_end0
  exact ⟨rfl, HE⟩
set_option maxRecDepth 100000 in
set_option maxHeartbeats 1000000 in
theorem sync_some (w : World) (g : Fg) (f : Fl) (h : FlAt w g f) (b : Nat) (hm : g.mp = some b) : Calls Tryz.prog 60 #[.pointer (some ⟨g.fb, 1, none⟩)] w fun e w' => e = .returned (.tuple #[]) ∧ Hid (FEnd g ⟨f.name, syncC f.cs⟩ w w') := by
  have c2 := h.c2
  obtain ⟨a, c, e, h1, h2⟩ := h.form
  have hl := h.len
  rw [hm] at c2
  obtain ⟨D, N, hown, T⟩ : ∃ D N, w.ownsMap Tryz.prog 3 secElem b N D ∧ Tells D f.cs.length f.wr := by
    rcases h.map with ⟨x, _⟩ | ⟨b', D, N, e1, e2, _, e3⟩
    · rw [hm] at x; cases x
    · rw [hm] at e1; injection e1 with e1; subst e1; exact ⟨D, N, e2, e3⟩
  have hbl := hown.lt
  have HTe := hidb T
  have hrow := h.row
  rw [e] at hrow
  obtain ⟨n, hn⟩ : ∃ n, n = f.cs.length := ⟨_, rfl⟩
  have HQ : Hid (∀ k, k < n → ∃ q, a = some ⟨q, 0, none⟩ ∧ q < w.heap.size ∧ q ≠ b ∧ q ≠ g.fb ∧ g.has q) := hidb fun k hk => by
    obtain ⟨a', c', e1, _, _, e3⟩ := row_form hrow
    injection e1 with e1
    subst e1
    rcases e3 with ⟨_, x, _⟩ | ⟨q, x, _, y, _⟩
    · omega
    · subst x
      refine ⟨q, rfl, y, fun z => h.a3 q (by rw [e]; rfl) (by rw [hm, z]), fun z => h.a1 (by rw [e, ← z]; rfl), .inr (.inl (by rw [e]; rfl))⟩
  have HX : Hid (∀ W, W.ownsRow 0 76 2 (.slice a n c) n (secCs (f.cs.map Cl.now)) → W.heap[g.fb]? = some (.cells #[sv f.name, .slice a n c, .map (some b)] 116 (0, 0)) → Kt g.has w W → FEnd g ⟨f.name, syncC f.cs⟩ w (W.setCell ⟨g.fb, 2, none⟩ (.map none))) := hidb fun W r1 r2 r3 => by
    have := (FMid.start h).wipe (W' := W) (f.cs.map Cl.now) (by simp) (by rw [List.length_map, e, ← hn]; exact r1) (by rw [e, ← hn, hm]; exact r2) r3
    rw [← syncC_eq] at this
    exact ⟨_, this⟩
  have HB := hidb h.box
  have hfb := heap_ltb h.box
  rw [hm, e, ← hn] at HB
  rw [← hn] at hl h1 hrow HTe
  have HN := hidb hn
  have hne : b ≠ g.fb := fun z => h.a2 (by rw [hm, z])
  have HS : Hid (g.has b) := hidb (.inr (.inr hm))
  clear h T hn e
  go_enter Tryz.func60, Tryz.ntmps60
  go_wp2_with (first
    | (at_range; refine wpList_range_own _ rfl _ 112 rfl 3 76 int_key15 Tryz.underlying112 _ b N D rfl hown ?_; intro w0 hrg0 hg0 hs0)
    | fail)
  go_frame
  have H0 : Hid (MixI f.cs D b w.heap.size N (.slice a n c) n 0 g.has (Maps.has D) (Maps.size D) w w0 ∧ w0.heap[g.fb]? = some (.cells #[sv f.name, .slice a n c, .map (some b)] 116 (0, 0))) := hidb ⟨⟨hrg0, by
    rw [mixL_start f.name f.cs _ fun k hk => HTe.out.leftK k hk]
    exact hrow.kept hg0 (by cases a with | none => exact .inl rfl | some a => exact .inr (by intro e; cases e)), Kt.below (S := g.has) ⟨hg0.os, hg0.tape, hg0.output, hg0.size, fun i hi => hg0.block i hi (by simp)⟩⟩, (hg0.block _ hfb (by simp)).trans HB.out⟩
  clear hrg0 hg0 hrow hown c2
  go_loopw [2] (fun _ wr => ∃ left cnt, Hid (MixI f.cs D b w.heap.size N (.slice a n c) n 0 g.has left cnt w wr ∧ wr.heap[g.fb]? = some (.cells #[sv f.name, .slice a n c, .map (some b)] 116 (0, 0)))) (fun _ wr => wr.rangeLeft b w.heap.size)
  case atStart => exact ⟨_, _, H0⟩
  case round =>
    obtain ⟨left, cnt, HI⟩ := hrel
    have hrg := HI.out.1.rg
    go_wp2_with (first
      | (at_next; refine wpList_next_ranges _ rfl _ rfl 3 int_key15 secElem (Value.int .i64) Sec.v key_inv15 val_inv15 b w.heap.size N D left cnt rfl hrg ?_ ?_)
      | fail)
    · intro hc0 hl0
      have HE := hidb (HX.out wr (by rw [← mixL_end f.cs _ fun k => hl0 _]; exact HI.out.1.row) HI.out.2 HI.out.1.kt)
      have d2 := Lib.cell_of_heap HI.out.2 2
      have df := Lib.frozen_of_heap HI.out.2 2
      simp at d2
      go_wp2_with fail
      go_end0
      exact ⟨rfl, HE⟩
    · intro x c' kl y yp w2 cnt1 hkey hlk hv hat hrg1 hlt hg1 hs1 hen
      obtain ⟨k, rfl, rfl, hwk, hkn⟩ := came HTe.out hkey hv hat
      obtain ⟨q, rfl, hq1, hq2, hq4, hq5⟩ := HQ.out k hkn
      obtain ⟨W3, hW3⟩ : ∃ W3, W3 = w2.alloc (.cells #[sv c'.b, .bool c'.bad] 76) := ⟨_, rfl⟩
      have hg3 : wr.grownBy W3.drew (some w.heap.size) := by rw [hW3]; exact grown_trans (grown_trans hg1 (World.grownBy_alloc w2 _ (some w.heap.size)) (.inl rfl)) (grown_drew _ (some w.heap.size)) (.inl rfl)
      have hrg3 : W3.drew.ranges Tryz.prog 3 secElem b w.heap.size N D (fun z => left z && !z.sameKey (.int .i64 (k : Int))) cnt1 := by rw [hW3]; exact hrg1.alloc _
      have hx3 : W3.heap[w2.heap.size]? = some (.cells #[sv c'.b, .bool c'.bad] 76 (0, 0)) := by rw [hW3]; exact heap_alloc_new w2 _
      have B2 : W3.heap[g.fb]? = some (.cells #[sv f.name, .slice (some ⟨q, 0, none⟩) n c, .map (some b)] 116 (0, 0)) := (hg3.block _ (heap_ltb HI.out.2) (by intro z; injection z with z; omega)).trans HI.out.2
      have HI2 := hidb (And.intro (HI.out.1.next hg3 hrg3 hwk (Nat.le_refl _) (.inl hq5) hq2 (by omega)) (show ((W3.drew.setCell ⟨q, k * 2, none⟩ (sv c'.b)).setCell ⟨q, k * 2 + 1, none⟩ (.bool c'.bad)).heap[g.fb]? = some (.cells #[sv f.name, .slice (some ⟨q, 0, none⟩) n c, .map (some b)] 116 (0, 0)) from by
        rw [Below.heap_setCell _ _ _ _ (Ne.symm hq4), Below.heap_setCell _ _ _ _ (Ne.symm hq4)]
        exact B2))
      have r1 : W3.drew.ownsRow 0 76 2 (.slice (some ⟨q, 0, none⟩) n c) n _ := HI.out.1.row.kept hg3 (.inr (by show some q ≠ some w.heap.size; simp; omega))
      obtain ⟨y0, _, s0, s1, f0, f1⟩ := row_two (w := W3) r1 k hkn
      have d1 := Lib.cell_of_heap B2 1
      have x0 := Lib.cell_of_heap hx3 0
      have x1 := Lib.cell_of_heap hx3 1
      simp at d1 x0 x1
      have hen' : (Instr.entry (.pointer (some ⟨w.heap.size, 0, none⟩))).run Tryz.prog w2 = .ok (.tuple #[.int .i64 k, .agg #[sv c'.b, .bool c'.bad]]) w2 := hen
      have HL : Hid (cnt1 < cnt) := hidb hlt
      have hk2 : (k : Int) < n := by omega
      clear hrg1 hat hv hlk hkey hen hg1 hs1 hlt hwk r1 B2 hg3 hrg3 hx3
      unfold Sec.v
      go_wp2_with fail
      rw [← hW3]
      clear hW3
      rw [show (W3.drew.setCell ⟨q, k * 2, none⟩ (sv c'.b)).setCell ⟨q, k * 2 + 1, none⟩ (.bool c'.bad) = ((W3.setCell ⟨q, k * 2, none⟩ (sv c'.b)).setCell ⟨q, k * 2 + 1, none⟩ (.bool c'.bad)).drew from rfl] at HI2
      go_region
      go_roundw
      case rel => exact ⟨_, _, _, _, _, _, _, _, _, _, _, _, _, _, ⟨_, cnt1, HI2⟩, rfl⟩
      case measure =>
        rw [HI2.out.1.rg.left_eq, hrg.left_eq]
        exact HL.out
/-- A file's sync. -/
theorem sync15_any (w : World) (g : Fg) (f : Fl) (h : FlAt w g f) : Calls Tryz.prog 60 #[.pointer (some ⟨g.fb, 1, none⟩)] w fun e w' => e = .returned (.tuple #[]) ∧ Hid (FEnd g ⟨f.name, syncC f.cs⟩ w w') := by
  cases hm : g.mp with
  | none => exact sync_nil w g f h hm
  | some b => exact sync_some w g f h b hm
end Go.Proofs.YthmjejmignangaaGreatDoor
