/- Layer 15: a file's sectors as they were written last. Layer 15: a file's sync. -/
import Derived.Test.YthmjejmignangaaGreatDoorEE
import Derived.Laws.StructEq
namespace Go.Proofs.YthmjejmignangaaGreatDoor
open Go.RowKit
theorem below_keep {w w' : World} (hb : Below w.heap.size w w') : ∀ a v, w.cell? a = some v → w'.cell? a = some v := fun a v h => by
  rw [hb.cell (p := a) (World.block_lt_of_cell? _ _ h)]; exact h
/-- How a copy of a list ends: a row of its own with the same cells. -/
def CopyEnd (e : TypeId) (size n : Nat) (xs : List Value) (w : World) (x : Ending) (w' : World) : Prop := (∃ v, x = .returned v ∧ w'.ownsRow w.heap.size e size v n xs) ∧ Below w.heap.size w w'
set_option maxRecDepth 100000 in
set_option maxHeartbeats 1000000 in
theorem clone15_any (a : Option Addr) (n c : Nat) (xs : List Value) (w : World) (hy : Lies w (.slice a n c) n xs) (hl : xs.length = n * 2) (h1 : ∀ u ∈ xs, u.oneCell' = true) (hn : n ≤ 65536) : Calls Tryz.prog 85 #[.slice a n c] w (CopyEnd 76 2 n xs w) := by
  cases a with
  | none =>
    have h0 : n = 0 ∧ xs = [] := by
      rcases hy with ⟨c', e, rfl, rfl⟩ | ⟨ad, c', e, _⟩
      · exact ⟨rfl, rfl⟩
      · cases e
    obtain ⟨rfl, rfl⟩ := h0
    have he : ∀ w : World, (binOp .eql 26 (.slice none 0 c) (.slice none 0 0)).run Tryz.prog w = .ok (.bool true) w := fun _ => rfl
    go_enter Tryz.func85, Tryz.ntmps85
    go_wp2_with fail
    go_ret
    exact ⟨⟨_, rfl, ⟨rfl, .inl ⟨rfl, rfl⟩⟩⟩, Below.refl _ _⟩
  | some a =>
    have he : ∀ w : World, (binOp .eql 26 (.slice (some a) n c) (.slice none 0 0)).run Tryz.prog w = .ok (.bool false) w := fun _ => rfl
    have hrow := row_lit0 w 76 2 w.heap.size (Nat.le_refl _)
    have hb1 : Below w.heap.size w (w.alloc (.cells #[] 76)) := (Below.refl _ w).alloc (Nat.le_refl _) _
    have hy1 := hy.keep (below_keep hb1)
    go_enter Tryz.func85, Tryz.ntmps85
    go_wp2_with (at_builtin; go_loud (refine wpList_appN _ rfl _ _ _ rfl elemSec w.heap.size _ 0 [] rfl hrow _ rfl n xs hy1 hl h1 (by unfold maxLen; omega) (by omega) hb1.size ?_); intro v' w6 hr6 hs6)
    go_ret
    exact ⟨⟨v', rfl, by simpa using hr6⟩, hb1.trans (hs6.below hb1.size fun j h => by cases h; exact Nat.le_refl _)⟩
theorem row_lies {w : World} {base n size : Nat} {e : TypeId} {v : Value} {xs : List Value} (h : w.ownsRow base e size v n xs) : Lies w v n xs := by
  rcases h.2 with ⟨rfl, rfl⟩ | ⟨g, cap, cur, rfl, hg, hh, hnc, hcm, r⟩
  · exact .inl ⟨0, rfl, rfl, List.eq_nil_of_length_eq_zero (by simpa using h.1)⟩
  · exact .inr ⟨_, _, rfl, World.ownsRow.cells h (g := g) rfl⟩
/-- Those that are left to come are as they were sure. -/
def mixL (cs : List Cl) (left : Nat → Bool) : List Sec := cs.mapIdx fun k c => if left k then c.s else c.now
theorem mixL_len (cs : List Cl) (left : Nat → Bool) : (mixL cs left).length = cs.length := by simp [mixL]
theorem mixL_start (nm : Bt) (cs : List Cl) (left : Nat → Bool) (h : ∀ k, left k = false → (Fl.mk nm cs).wr k = none) : mixL cs left = cs.map Cl.s := by
  apply List.ext_getElem?
  intro k
  unfold mixL
  rw [List.getElem?_mapIdx, List.getElem?_map]
  cases e : cs[k]? with
  | none => rfl
  | some c =>
    cases e2 : left k with
    | true => simp
    | false =>
      have := h k e2
      rw [wr_nth] at this
      have e3 : c.n = none := by
        have : (cs[k]?).bind Cl.n = none := this
        rw [e] at this
        exact this
      simp [Cl.now, e3]
theorem mixL_end (cs : List Cl) (left : Nat → Bool) (h : ∀ k, left k = false) : mixL cs left = cs.map Cl.now := by
  apply List.ext_getElem?
  intro k
  unfold mixL
  rw [List.getElem?_mapIdx, List.getElem?_map, h k]
  cases cs[k]? <;> simp
theorem mixL_step (nm : Bt) (cs : List Cl) (left left' : Nat → Bool) (k : Nat) (x : Sec) (hk : (Fl.mk nm cs).wr k = some x) (h : ∀ j, left' j = (left j && !decide (j = k))) : mixL cs left' = (mixL cs left).set k x := by
  have hc : ∃ c, cs[k]? = some c ∧ c.n = some x := by
    have : (cs[k]?).bind Cl.n = some x := hk
    cases e : cs[k]? with
    | none => rw [e] at this; cases this
    | some c => rw [e] at this; exact ⟨c, rfl, this⟩
  obtain ⟨c, h1, h2⟩ := hc
  apply List.ext_getElem?
  intro j
  rw [List.getElem?_set, mixL_len]
  unfold mixL
  rw [List.getElem?_mapIdx, List.getElem?_mapIdx]
  by_cases e : k = j
  · subst e
    rw [if_pos rfl, if_pos (List.getElem?_eq_some_iff.1 h1).1, h1, h k]
    simp [Cl.now, h2]
  · rw [if_neg e, h j]
    have : decide (j = k) = false := by simp; exact fun x => e x.symm
    rw [this]
    simp
/-- A sector of a row is written. -/
theorem row_put {w : World} {base q n c : Nat} {L : List Sec} (h : w.ownsRow base 76 2 (.slice (some ⟨q, 0, none⟩) n c) n (secCs L)) (k : Nat) (x : Sec) (hk : k < L.length) :
    ((w.setCell ⟨q, k * 2, none⟩ (sv x.b)).setCell ⟨q, k * 2 + 1, none⟩ (.bool x.bad)).ownsRow base 76 2 (.slice (some ⟨q, 0, none⟩) n c) n (secCs (L.set k x)) ∧ w.grownBy ((w.setCell ⟨q, k * 2, none⟩ (sv x.b)).setCell ⟨q, k * 2 + 1, none⟩ (.bool x.bad)) (some q) := by
  obtain ⟨h1, h2⟩ := h.stored (k * 2) (sv x.b)
  obtain ⟨h3, h4⟩ := h1.stored (k * 2 + 1) (.bool x.bad)
  rw [secCs_set x hk]
  exact ⟨h3, grown_trans h2 h4 (.inl rfl)⟩
theorem row_two {w : World} {base q n c : Nat} {L : List Sec} (h : w.ownsRow base 76 2 (.slice (some ⟨q, 0, none⟩) n c) n (secCs L)) (k : Nat) (hk : k < n) : ∃ y : Sec, L[k]? = some y ∧ w.cell? ⟨q, k * 2, none⟩ = some (sv y.b) ∧ w.cell? ⟨q, k * 2 + 1, none⟩ = some (.bool y.bad) ∧ w.frozen? ⟨q, k * 2, none⟩ = false ∧ w.frozen? ⟨q, k * 2 + 1, none⟩ = false := by
  have hl : L.length = n := by have := h.1; rw [secCs_length] at this; omega
  have e : L[k]? = some L[k] := List.getElem?_eq_getElem (by omega)
  obtain ⟨e1, e2⟩ := secCs_at e
  exact ⟨L[k], e, (h.cellAt (k * 2) (by omega)).trans e1, (h.cellAt (k * 2 + 1) (by omega)).trans e2, h.frozenAt _, h.frozenAt _⟩
theorem Tells.leftK {D : DataW Unit} {n : Nat} {m : Nat → Option Sec} (T : Tells D n m) (k : Nat) (h : Maps.has D (.int .i64 k) = false) : m k = none := by
  cases e : m k with
  | none => rfl
  | some v => rw [(T.v k v e).2.1] at h; cases h
/-- What a row of a file's own ends as. -/
def LastEnd (f : Fl) (w : World) (e : Ending) (w' : World) : Prop := ∃ v, e = .returned v ∧ Hid (w'.ownsRow w.heap.size 76 2 v f.cs.length (secCs (f.cs.map Cl.now)) ∧ Below w.heap.size w w')
set_option maxRecDepth 100000 in
set_option maxHeartbeats 1000000 in
theorem last_nil (w : World) (g : Fg) (f : Fl) (h : FlAt w g f) (hm : g.mp = none) : Calls Tryz.prog 58 #[.pointer (some ⟨g.fb, 1, none⟩)] w (LastEnd f w) := by
  have c1 := h.c1
  have c2 := h.c2
  obtain ⟨a, c, e, h1, h2⟩ := h.form
  have hl := h.len
  rw [e] at c1
  rw [hm] at c2
  have hw : f.cs.map Cl.now = f.sure := by
    have hw : ∀ k, f.wr k = none := by
      rcases h.map with ⟨_, x⟩ | ⟨b, D, N, e1, _⟩
      · exact x
      · rw [hm] at e1; cases e1
    have := (mixL_end f.cs (fun _ => false) fun _ => rfl).symm.trans (mixL_start f.name f.cs (fun _ => false) fun k _ => hw k)
    exact this
  have HC := hidb (clone15_any a f.cs.length c (secCs f.sure) w (e ▸ row_lies h.row) (by rw [secCs_length]; simp [Fl.sure]) (secCs_one _) hl)
  have HT : Hid (∀ W, Below w.heap.size w W → W.cell? ⟨g.fb, 2, none⟩ = some (.map none)) := hidb fun W hb => (hb.cell (p := ⟨g.fb, 2, none⟩) (heap_ltb h.box)).trans c2
  have HW := hidb hw
  have hrn : ∀ W : World, (Instr.range 112 (.map none)).run Tryz.prog W = .ok (.pointer (some ⟨W.heap.size, 0, none⟩)) (W.alloc (.mapIter none 0 #[] 0)) := fun W => run_range_nilMap W _ _ _ Tryz.underlying112
  have hnx : ∀ (W : World) ty, (Instr.next (.pointer (some ⟨W.heap.size, 0, none⟩)) false ty).run Tryz.prog (W.alloc (.mapIter none 0 #[] 0)) = .ok (.tuple #[.bool false]) (W.alloc (.mapIter none 0 #[] 0)) := fun W ty => run_next_nilMap W ty 0 0 #[]
  clear h hw c2
  obtain ⟨n, hn⟩ : ∃ n, n = f.cs.length := ⟨_, rfl⟩
  rw [← hn] at hl HC c1 h1
  have HN := hidb hn
  clear hn e
  go_enter Tryz.func58, Tryz.ntmps58
  go_wp2_with (go_at_call 85; refine HC.out.mono ?_; clear HC; rintro e w1 ⟨⟨v, rfl, hr⟩, hb⟩; have c2 := HT.out w1 hb)
  refine wp_loop_rounds 1 ?_
  rw [rounds_succ]
  go_wp2_with fail
  go_ret
  exact ⟨v, rfl, hidb ⟨by rw [HW.out, ← HN.out]; exact hr.alloc _, hb.alloc hb.size _⟩⟩
/-- While the map is gone through: the row is v's. -/
structure MixI (cs : List Cl) (D : DataW Unit) (b r N : Nat) (v : Value) (n base : Nat) (S : Nat → Prop) (left : Lit → Bool) (cnt : Nat) (w W : World) : Prop where
  rg : W.ranges Tryz.prog 3 secElem b r N D left cnt
  row : W.ownsRow base 76 2 v n (secCs (mixL cs fun k => left (.int .i64 k)))
  kt : Kt S w W
theorem MixI.alloc {cs : List Cl} {D : DataW Unit} {b r N : Nat} {v : Value} {n base : Nat} {S : Nat → Prop} {left : Lit → Bool} {cnt : Nat} {w W : World} (h : MixI cs D b r N v n base S left cnt w W) (o : Obj) : MixI cs D b r N v n base S left cnt w (W.alloc o) := ⟨h.rg.alloc o, h.row.alloc o, h.kt.alloc o⟩
theorem key_inv15 : ∀ key kl, keyOf Tryz.prog 3 key = some kl → ∃ x, key = Value.int .i64 x := fun key kl h => by
  obtain ⟨x, e, _⟩ := Maps.keyOf_int_inv Tryz.underlying3 h
  exact ⟨x, e⟩
theorem val_inv15 : ∀ v (y : DataW Unit × List MemPlace), secElem v = some y → ∃ c : Sec, v = c.v := fun v y h => by
  obtain ⟨c, e, _⟩ := secElem_inv h
  exact ⟨c, e⟩
/-- What has come. -/
theorem came {D : DataW Unit} {n : Nat} {m : Nat → Option Sec} (T : Tells D n m) {x : Int} {c : Sec} {kl : Lit} {y : DataW Unit × List MemPlace} (hk : keyOf Tryz.prog 3 (.int .i64 x) = some kl) (hv : secElem c.v = some y) (hat : ∀ zd, D.atKey kl zd = y.1) : ∃ k : Nat, x = k ∧ kl = .int .i64 (k : Int) ∧ m k = some c ∧ k < n := by
  obtain ⟨x', e1, e2, _⟩ := Maps.keyOf_int_inv Tryz.underlying3 hk
  injection e1 with _ e1
  subst e1
  subst e2
  have hh := Maps.has_true_of_atKey hat
  obtain ⟨k, e3, e4⟩ := T.k x hh
  obtain ⟨v, hv'⟩ := Option.ne_none_iff_exists'.1 e4
  obtain ⟨h1, _, h2⟩ := T.v k v hv'
  rw [secElem_mk] at hv
  injection hv with hv
  subst hv
  subst e3
  have : v.d = c.d := (h2 .nil).symm.trans (hat .nil)
  rw [Sec.d_inj this] at hv'
  exact ⟨k, rfl, rfl, hv', h1⟩
theorem left_step (left : Lit → Bool) (k : Nat) : ∀ j : Nat, ((fun z : Lit => left z && !z.sameKey (.int .i64 (k : Int))) (.int .i64 (j : Int))) = (left (.int .i64 (j : Int)) && !decide (j = k)) := fun j => by
  have : (Lit.int .i64 (j : Int)).sameKey (.int .i64 (k : Int)) = decide (j = k) := by
    by_cases e : j = k
    · subst e; rw [WideAt.sameKey_self (by trivial)]; simp
    · have : decide (j = k) = false := by simp [e]
      rw [this]
      cases h : (Lit.int .i64 (j : Int)).sameKey (.int .i64 (k : Int)) with
      | false => rfl
      | true => have := WideAt.sameKey_eq h; injection this with _ this; omega
  simp only [this]
/-- A round: the sector that came is written into the row. -/
theorem MixI.next {cs : List Cl} {nm : Bt} {D : DataW Unit} {b r N q n c base : Nat} {S : Nat → Prop} {left : Lit → Bool} {cnt cnt1 k : Nat} {x : Sec} {w W W1 : World} (h : MixI cs D b r N (.slice (some ⟨q, 0, none⟩) n c) n base S left cnt w W) (hg : W.grownBy W1 (some r)) (hrg : W1.ranges Tryz.prog 3 secElem b r N D (fun z => left z && !z.sameKey (.int .i64 (k : Int))) cnt1)
    (hk : (Fl.mk nm cs).wr k = some x) (hr : w.heap.size ≤ r) (hq : S q ∨ w.heap.size ≤ q) (hqb : q ≠ b) (hqr : q ≠ r) : MixI cs D b r N (.slice (some ⟨q, 0, none⟩) n c) n base S (fun z => left z && !z.sameKey (.int .i64 (k : Int))) cnt1 w ((W1.setCell ⟨q, k * 2, none⟩ (sv x.b)).setCell ⟨q, k * 2 + 1, none⟩ (.bool x.bad)) := by
  have hlt : k < cs.length := by
    have : (cs[k]?).bind Cl.n = some x := hk
    cases e : cs[k]? with
    | none => rw [e] at this; cases this
    | some c => exact (List.getElem?_eq_some_iff.1 e).1
  have r1 : W1.ownsRow base 76 2 (.slice (some ⟨q, 0, none⟩) n c) n (secCs (mixL cs fun k => left (.int .i64 k))) := h.row.kept hg (.inr (by show some q ≠ some r; simpa using hqr))
  obtain ⟨r2, r3⟩ := row_put r1 k x (by rw [mixL_len]; exact hlt)
  refine ⟨hrg.kept r3 (by simpa using Ne.symm hqb) (by simpa using Ne.symm hqr), ?_, ?_⟩
  · rw [mixL_step nm cs (fun k => left (.int .i64 k)) _ k x hk (left_step left k)]
    exact r2
  · have K1 : Kt S w W1 := h.kt.trans (Kt.grown (S := fun i => i = r) hg rfl) fun i hi e => absurd e (by omega)
    exact K1.trans (Kt.grown (S := fun i => i = q) r3 rfl) fun i hi e => by
      subst e
      exact hq.resolve_right (by omega)
set_option maxRecDepth 100000 in
set_option maxHeartbeats 1000000 in
theorem last_some (w : World) (g : Fg) (f : Fl) (h : FlAt w g f) (b : Nat) (hm : g.mp = some b) : Calls Tryz.prog 58 #[.pointer (some ⟨g.fb, 1, none⟩)] w (LastEnd f w) := by
  have c1 := h.c1
  have c2 := h.c2
  obtain ⟨a, c, e, h1, h2⟩ := h.form
  have hl := h.len
  rw [e] at c1
  rw [hm] at c2
  obtain ⟨D, N, hown, T⟩ : ∃ D N, w.ownsMap Tryz.prog 3 secElem b N D ∧ Tells D f.cs.length f.wr := by
    rcases h.map with ⟨x, _⟩ | ⟨b', D, N, e1, e2, _, e3⟩
    · rw [hm] at x; cases x
    · rw [hm] at e1; injection e1 with e1; subst e1; exact ⟨D, N, e2, e3⟩
  have HC := hidb (clone15_any a f.cs.length c (secCs f.sure) w (e ▸ row_lies h.row) (by rw [secCs_length]; simp [Fl.sure]) (secCs_one _) hl)
  have hbl := hown.lt
  have HT : Hid (∀ W, Below w.heap.size w W → W.cell? ⟨g.fb, 2, none⟩ = some (.map (some b)) ∧ W.ownsMap Tryz.prog 3 secElem b N D) := hidb fun W hb => ⟨(hb.cell (p := ⟨g.fb, 2, none⟩) (heap_ltb h.box)).trans c2, by
    obtain ⟨es, cl, x, y⟩ := hown
    exact ⟨es, cl, (hb.block b hbl).trans x, y⟩⟩
  have HTe := hidb T
  clear h c2 hown T
  obtain ⟨n, hn⟩ : ∃ n, n = f.cs.length := ⟨_, rfl⟩
  rw [← hn] at hl HC c1 h1 HTe
  have HN := hidb hn
  clear hn e
  go_enter Tryz.func58, Tryz.ntmps58
  go_wp2_with (first
    | (go_at_call 85; refine HC.out.mono ?_; clear HC; rintro e w1 ⟨⟨v, rfl, hr⟩, hb⟩; obtain ⟨c2, hown⟩ := HT.out w1 hb)
    | (at_range; refine wpList_range_own _ rfl _ 112 rfl 3 76 int_key15 Tryz.underlying112 _ b N D rfl hown ?_; intro w0 hrg0 hg0 hs0)
    | fail)
  go_frame
  obtain ⟨av, cv, rfl, hv1, hv2, hv3⟩ := row_form hr
  have HQ : Hid (∀ k, k < n → ∃ q, av = some ⟨q, 0, none⟩ ∧ w.heap.size ≤ q ∧ q < w1.heap.size) := hidb fun k hk => by
    rcases hv3 with ⟨_, e, _⟩ | ⟨q, e1, e2, e3, _⟩
    · omega
    · exact ⟨q, e1, e2, e3⟩
  have H0 : Hid (MixI f.cs D b w1.heap.size N (.slice av n cv) n w.heap.size (fun _ => False) (Maps.has D) (Maps.size D) w w0) := hidb ⟨hrg0, by
    rw [mixL_start f.name f.cs _ fun k hk => HTe.out.leftK k hk]
    exact hr.kept hg0 (by cases av with | none => exact .inl rfl | some a => exact .inr (by intro e; cases e)), (Kt.below (S := fun _ => False) hb).trans (Kt.below (S := fun _ => False) ⟨hg0.os, hg0.tape, hg0.output, hg0.size, fun i hi => hg0.block i hi (by simp)⟩) fun _ _ x => x⟩
  have HB := hidb hb
  clear hrg0 hg0 hr hv3 hb hown c2 c1
  go_loopw [4] (fun _ wr => ∃ left cnt, Hid (MixI f.cs D b w1.heap.size N (.slice av n cv) n w.heap.size (fun _ => False) left cnt w wr)) (fun _ wr => wr.rangeLeft b w1.heap.size)
  case atStart => exact ⟨_, _, H0⟩
  case round =>
    obtain ⟨left, cnt, HI⟩ := hrel
    have hrg := HI.out.rg
    go_wp2_with (first
      | (at_next; refine wpList_next_ranges _ rfl _ rfl 3 int_key15 secElem (Value.int .i64) Sec.v key_inv15 val_inv15 b w1.heap.size N D left cnt rfl hrg ?_ ?_)
      | fail)
    · intro hc0 hl0
      go_wp2_with fail
      go_ret
      refine ⟨_, rfl, hidb ⟨?_, HI.out.kt.low (Nat.le_refl _) fun _ _ x => x⟩⟩
      rw [← HN.out, ← mixL_end f.cs _ fun k => hl0 _]
      exact HI.out.row
    · intro x c kl y yp w2 cnt1 hkey hlk hv hat hrg1 hlt hg1 hs1 hen
      obtain ⟨k, rfl, rfl, hwk, hkn⟩ := came HTe.out hkey hv hat
      obtain ⟨q, rfl, hq1, hq2⟩ := HQ.out k hkn
      have hbs := HB.out.size
      have HI2 := hidb ((HI.out.next hg1 hrg1 hwk hbs (.inr hq1) (by omega) (by omega)).alloc (.cells #[sv c.b, .bool c.bad] 76))
      have hq3 : q < w2.heap.size := by have := HI.out.row.lt q rfl; omega
      have r1 := HI.out.row.kept hg1 (.inr (by show some q ≠ some w1.heap.size; simp; omega))
      obtain ⟨y0, _, s0, s1, f0, f1⟩ := row_two r1 k hkn
      have hen' : (Instr.entry (.pointer (some ⟨w1.heap.size, 0, none⟩))).run Tryz.prog w2 = .ok (.tuple #[.int .i64 k, .agg #[sv c.b, .bool c.bad]]) w2 := hen
      have HL : Hid (cnt1 < cnt) := hidb hlt
      have hk2 : (k : Int) < n := by omega
      clear hrg1 hat hv hlk hkey hen hg1 hs1 hlt hwk r1
      unfold Sec.v
      go_wp2_with fail
      refine ⟨⟨_, cnt1, HI2⟩, ?_⟩
      rw [HI2.out.rg.left_eq, hrg.left_eq]
      exact HL.out
/-- A file's sectors as they were written last. -/
theorem last15_any (w : World) (g : Fg) (f : Fl) (h : FlAt w g f) : Calls Tryz.prog 58 #[.pointer (some ⟨g.fb, 1, none⟩)] w (LastEnd f w) := by
  cases hm : g.mp with
  | none => exact last_nil w g f h hm
  | some b => exact last_some w g f h b hm
end Go.Proofs.YthmjejmignangaaGreatDoor
namespace Go.Proofs.YthmjejmignangaaGreatDoor
open Go.RowKit
/-- All that was written is sure, or what is left is (the row holds L): the map is gone. -/
theorem FMid.wipe {g g1 : Fg} {f1 : Fl} {w W W' : World} (h : FMid g g1 f1 w W) (L : List Sec) (hl : L.length = f1.cs.length) (hr : W'.ownsRow 0 76 2 g1.sl L.length (secCs L)) (hb : W'.heap[g1.fb]? = some (.cells #[sv f1.name, g1.sl, .map g1.mp] 116 (0, 0))) (k : Kt g1.has W W') :
    FMid g ⟨g1.fb, g1.sl, none⟩ ⟨f1.name, L.map fun s => ⟨s, none⟩⟩ w (W'.setCell ⟨g1.fb, 2, none⟩ (.map none)) := by
  have F := h.at_
  have e : (L.map fun s => (⟨s, none⟩ : Cl)).map Cl.s = L := by
    rw [List.map_map]
    exact List.map_id L
  refine ⟨⟨(heap_setCell_same _ _ _ _ _ _ hb).trans rfl, ?_, ?_, by simp; rw [hl]; exact F.len, F.a1, by simp, fun _ _ => by simp⟩, h.fb, ?_, (h.kts k).set fun _ => h.fbs⟩
  · show (W'.setCell ⟨g1.fb, 2, none⟩ (.map none)).ownsRow 0 _ 2 g1.sl (L.map fun s => (⟨s, none⟩ : Cl)).length (secCs ((L.map fun s => (⟨s, none⟩ : Cl)).map Cl.s))
    rw [e, List.length_map]
    exact row_keep hr fun j hj => Below.heap_setCell _ _ _ _ (fun x => F.a1 (by rw [hj, x]))
  · refine .inl ⟨rfl, fun j => ?_⟩
    rw [wr_nth]
    show ((L.map fun s => (⟨s, none⟩ : Cl))[j]?).bind Cl.n = none
    rw [List.getElem?_map]
    cases L[j]? <;> rfl
  · intro j hj
    rcases hj with x | x | x
    · exact h.has j (.inl x)
    · exact h.has j (.inr (.inl x))
    · cases x
theorem syncC_eq (cs : List Cl) : syncC cs = (cs.map Cl.now).map fun s => ⟨s, none⟩ := by
  unfold syncC
  rw [List.map_map]
  rfl
set_option maxRecDepth 100000 in
set_option maxHeartbeats 1000000 in
theorem sync_nil (w : World) (g : Fg) (f : Fl) (h : FlAt w g f) (hm : g.mp = none) : Calls Tryz.prog 60 #[.pointer (some ⟨g.fb, 1, none⟩)] w fun e w' => e = .returned (.tuple #[]) ∧ Hid (FEnd g ⟨f.name, syncC f.cs⟩ w w') := by
  have c2 := h.c2
  have cf := h.fr 2
  have hlt := heap_ltb h.box
  rw [hm] at c2
  have hrn : ∀ W : World, (Instr.range 112 (.map none)).run Tryz.prog W = .ok (.pointer (some ⟨W.heap.size, 0, none⟩)) (W.alloc (.mapIter none 0 #[] 0)) := fun W => run_range_nilMap W _ _ _ Tryz.underlying112
  have hnx : ∀ (W : World) ty, (Instr.next (.pointer (some ⟨W.heap.size, 0, none⟩)) false ty).run Tryz.prog (W.alloc (.mapIter none 0 #[] 0)) = .ok (.tuple #[.bool false]) (W.alloc (.mapIter none 0 #[] 0)) := fun W ty => run_next_nilMap W ty 0 0 #[]
  have HE : Hid (FEnd g ⟨f.name, syncC f.cs⟩ w ((w.setCell ⟨g.fb, 2, none⟩ (.map none)).alloc (.mapIter none 0 #[] 0))) := hidb (by
    have hw : f.cs.map Cl.now = f.sure := by
      have hw : ∀ k, f.wr k = none := by
        rcases h.map with ⟨_, x⟩ | ⟨b, D, N, e1, _⟩
        · exact x
        · rw [hm] at e1; cases e1
      have := (mixL_end f.cs (fun _ => false) fun _ => rfl).symm.trans (mixL_start f.name f.cs (fun _ => false) fun k _ => hw k)
      exact this
    have := (FMid.start h).wipe (W' := w) (f.cs.map Cl.now) (by simp) (by rw [hw]; show w.ownsRow 0 _ 2 g.sl (f.cs.map Cl.s).length _; rw [List.length_map]; exact h.row) h.box (Kt.refl _ _)
    rw [← syncC_eq] at this
    exact ⟨_, this.below ((Below.refl _ _).alloc (Nat.le_refl _) _)⟩)
  clear h
  go_enter Tryz.func60, Tryz.ntmps60
  go_wp2_with fail
  refine wp_loop_rounds 1 ?_
  rw [rounds_succ]
  go_wp2_with fail
  go_end0
  exact ⟨rfl, HE⟩
set_option maxRecDepth 100000 in
set_option maxHeartbeats 1000000 in
theorem sync_some (w : World) (g : Fg) (f : Fl) (h : FlAt w g f) (b : Nat) (hm : g.mp = some b) : Calls Tryz.prog 60 #[.pointer (some ⟨g.fb, 1, none⟩)] w fun e w' => e = .returned (.tuple #[]) ∧ Hid (FEnd g ⟨f.name, syncC f.cs⟩ w w') := by
  have c2 := h.c2
  obtain ⟨a, c, e, h1, h2⟩ := h.form
  have hl := h.len
  rw [hm] at c2
  obtain ⟨D, N, hown, T⟩ : ∃ D N, w.ownsMap Tryz.prog 3 secElem b N D ∧ Tells D f.cs.length f.wr := by
    rcases h.map with ⟨x, _⟩ | ⟨b', D, N, e1, e2, _, e3⟩
    · rw [hm] at x; cases x
    · rw [hm] at e1; injection e1 with e1; subst e1; exact ⟨D, N, e2, e3⟩
  have hbl := hown.lt
  have HTe := hidb T
  have hrow := h.row
  rw [e] at hrow
  obtain ⟨n, hn⟩ : ∃ n, n = f.cs.length := ⟨_, rfl⟩
  have HQ : Hid (∀ k, k < n → ∃ q, a = some ⟨q, 0, none⟩ ∧ q < w.heap.size ∧ q ≠ b ∧ q ≠ g.fb ∧ g.has q) := hidb fun k hk => by
    obtain ⟨a', c', e1, _, _, e3⟩ := row_form hrow
    injection e1 with e1
    subst e1
    rcases e3 with ⟨_, x, _⟩ | ⟨q, x, _, y, _⟩
    · omega
    · subst x
      refine ⟨q, rfl, y, fun z => h.a3 q (by rw [e]; rfl) (by rw [hm, z]), fun z => h.a1 (by rw [e, ← z]; rfl), .inr (.inl (by rw [e]; rfl))⟩
  have HX : Hid (∀ W, W.ownsRow 0 76 2 (.slice a n c) n (secCs (f.cs.map Cl.now)) → W.heap[g.fb]? = some (.cells #[sv f.name, .slice a n c, .map (some b)] 116 (0, 0)) → Kt g.has w W → FEnd g ⟨f.name, syncC f.cs⟩ w (W.setCell ⟨g.fb, 2, none⟩ (.map none))) := hidb fun W r1 r2 r3 => by
    have := (FMid.start h).wipe (W' := W) (f.cs.map Cl.now) (by simp) (by rw [List.length_map, e, ← hn]; exact r1) (by rw [e, ← hn, hm]; exact r2) r3
    rw [← syncC_eq] at this
    exact ⟨_, this⟩
  have HB := hidb h.box
  have hfb := heap_ltb h.box
  rw [hm, e, ← hn] at HB
  rw [← hn] at hl h1 hrow HTe
  have HN := hidb hn
  have hne : b ≠ g.fb := fun z => h.a2 (by rw [hm, z])
  have HS : Hid (g.has b) := hidb (.inr (.inr hm))
  clear h T hn e
  go_enter Tryz.func60, Tryz.ntmps60
  go_wp2_with (first
    | (at_range; refine wpList_range_own _ rfl _ 112 rfl 3 76 int_key15 Tryz.underlying112 _ b N D rfl hown ?_; intro w0 hrg0 hg0 hs0)
    | fail)
  go_frame
  have H0 : Hid (MixI f.cs D b w.heap.size N (.slice a n c) n 0 g.has (Maps.has D) (Maps.size D) w w0 ∧ w0.heap[g.fb]? = some (.cells #[sv f.name, .slice a n c, .map (some b)] 116 (0, 0))) := hidb ⟨⟨hrg0, by
    rw [mixL_start f.name f.cs _ fun k hk => HTe.out.leftK k hk]
    exact hrow.kept hg0 (by cases a with | none => exact .inl rfl | some a => exact .inr (by intro e; cases e)), Kt.below (S := g.has) ⟨hg0.os, hg0.tape, hg0.output, hg0.size, fun i hi => hg0.block i hi (by simp)⟩⟩, (hg0.block _ hfb (by simp)).trans HB.out⟩
  clear hrg0 hg0 hrow hown c2
  go_loopw [2] (fun _ wr => ∃ left cnt, Hid (MixI f.cs D b w.heap.size N (.slice a n c) n 0 g.has left cnt w wr ∧ wr.heap[g.fb]? = some (.cells #[sv f.name, .slice a n c, .map (some b)] 116 (0, 0)))) (fun _ wr => wr.rangeLeft b w.heap.size)
  case atStart => exact ⟨_, _, H0⟩
  case round =>
    obtain ⟨left, cnt, HI⟩ := hrel
    have hrg := HI.out.1.rg
    go_wp2_with (first
      | (at_next; refine wpList_next_ranges _ rfl _ rfl 3 int_key15 secElem (Value.int .i64) Sec.v key_inv15 val_inv15 b w.heap.size N D left cnt rfl hrg ?_ ?_)
      | fail)
    · intro hc0 hl0
      have HE := hidb (HX.out wr (by rw [← mixL_end f.cs _ fun k => hl0 _]; exact HI.out.1.row) HI.out.2 HI.out.1.kt)
      have d2 := Lib.cell_of_heap HI.out.2 2
      have df := Lib.frozen_of_heap HI.out.2 2
      simp at d2
      go_wp2_with fail
      go_end0
      exact ⟨rfl, HE⟩
    · intro x c' kl y yp w2 cnt1 hkey hlk hv hat hrg1 hlt hg1 hs1 hen
      obtain ⟨k, rfl, rfl, hwk, hkn⟩ := came HTe.out hkey hv hat
      obtain ⟨q, rfl, hq1, hq2, hq4, hq5⟩ := HQ.out k hkn
      obtain ⟨W3, hW3⟩ : ∃ W3, W3 = w2.alloc (.cells #[sv c'.b, .bool c'.bad] 76) := ⟨_, rfl⟩
      have hg3 : wr.grownBy W3.drew (some w.heap.size) := by rw [hW3]; exact grown_trans (grown_trans hg1 (World.grownBy_alloc w2 _ (some w.heap.size)) (.inl rfl)) (grown_drew _ (some w.heap.size)) (.inl rfl)
      have hrg3 : W3.drew.ranges Tryz.prog 3 secElem b w.heap.size N D (fun z => left z && !z.sameKey (.int .i64 (k : Int))) cnt1 := by rw [hW3]; exact hrg1.alloc _
      have hx3 : W3.heap[w2.heap.size]? = some (.cells #[sv c'.b, .bool c'.bad] 76 (0, 0)) := by rw [hW3]; exact heap_alloc_new w2 _
      have B2 : W3.heap[g.fb]? = some (.cells #[sv f.name, .slice (some ⟨q, 0, none⟩) n c, .map (some b)] 116 (0, 0)) := (hg3.block _ (heap_ltb HI.out.2) (by intro z; injection z with z; omega)).trans HI.out.2
      have HI2 := hidb (And.intro (HI.out.1.next hg3 hrg3 hwk (Nat.le_refl _) (.inl hq5) hq2 (by omega)) (show ((W3.drew.setCell ⟨q, k * 2, none⟩ (sv c'.b)).setCell ⟨q, k * 2 + 1, none⟩ (.bool c'.bad)).heap[g.fb]? = some (.cells #[sv f.name, .slice (some ⟨q, 0, none⟩) n c, .map (some b)] 116 (0, 0)) from by
        rw [Below.heap_setCell _ _ _ _ (Ne.symm hq4), Below.heap_setCell _ _ _ _ (Ne.symm hq4)]
        exact B2))
      have r1 : W3.drew.ownsRow 0 76 2 (.slice (some ⟨q, 0, none⟩) n c) n _ := HI.out.1.row.kept hg3 (.inr (by show some q ≠ some w.heap.size; simp; omega))
      obtain ⟨y0, _, s0, s1, f0, f1⟩ := row_two (w := W3) r1 k hkn
      have d1 := Lib.cell_of_heap B2 1
      have x0 := Lib.cell_of_heap hx3 0
      have x1 := Lib.cell_of_heap hx3 1
      simp at d1 x0 x1
      have hen' : (Instr.entry (.pointer (some ⟨w.heap.size, 0, none⟩))).run Tryz.prog w2 = .ok (.tuple #[.int .i64 k, .agg #[sv c'.b, .bool c'.bad]]) w2 := hen
      have HL : Hid (cnt1 < cnt) := hidb hlt
      have hk2 : (k : Int) < n := by omega
      clear hrg1 hat hv hlk hkey hen hg1 hs1 hlt hwk r1 B2 hg3 hrg3 hx3
      unfold Sec.v
      go_wp2_with fail
      rw [← hW3]
      clear hW3
      rw [show (W3.drew.setCell ⟨q, k * 2, none⟩ (sv c'.b)).setCell ⟨q, k * 2 + 1, none⟩ (.bool c'.bad) = ((W3.setCell ⟨q, k * 2, none⟩ (sv c'.b)).setCell ⟨q, k * 2 + 1, none⟩ (.bool c'.bad)).drew from rfl] at HI2
      go_region
      go_roundw
      case rel => exact ⟨_, _, _, _, _, _, _, _, _, _, _, _, _, _, ⟨_, cnt1, HI2⟩, rfl⟩
      case measure =>
        rw [HI2.out.1.rg.left_eq, hrg.left_eq]
        exact HL.out
/-- A file's sync. -/
theorem sync15_any (w : World) (g : Fg) (f : Fl) (h : FlAt w g f) : Calls Tryz.prog 60 #[.pointer (some ⟨g.fb, 1, none⟩)] w fun e w' => e = .returned (.tuple #[]) ∧ Hid (FEnd g ⟨f.name, syncC f.cs⟩ w w') := by
  cases hm : g.mp with
  | none => exact sync_nil w g f h hm
  | some b => exact sync_some w g f h b hm
end Go.Proofs.YthmjejmignangaaGreatDoor
