/- Layer 8: Order. Layer 8: the law's knows. -/
import Derived.Test.YtikomfbpaimnmaaXN
namespace Go.Proofs.Ytikomfbpaimnmaa
open Go.RowKit
/-- What Order answers. -/
def OrdEnd (s : Scr) (w : World) (e : Ending) (w' : World) : Prop :=
  Below w.heap.size w w' ∧ if s.right = true then (match ordS s.funcs.length (gF s) with
    | none => e = .returned (.tuple #[.slice none 0 0, .int .i64 34])
    | some o => ∃ la lc, e = .returned (.tuple #[.slice la o.length lc, .int .i64 0]) ∧ NsAt w'.cell? la (rowI o))
  else e = .returned (.tuple #[.slice none 0 0, .int .i64 30])
theorem rowE_ns {o : List Int} {w w' : World} {a : Option Addr} {c : Nat} (h : w'.ownsRow w.heap.size 3 1 (.slice a o.length c) o.length (cellsN o)) : NsAt w'.cell? a o := by
  obtain ⟨a', c', e, _, _, q⟩ := row_form h
  cases e
  rcases q with ⟨_, q, _⟩ | ⟨g, e, _, _, q⟩
  · exact .inl (List.length_eq_zero_iff.1 q)
  · exact .inr ⟨g, 0, e, fun j hj => by rw [Nat.zero_add]; exact q j _ (by simp [cellsN, hj])⟩
set_option maxRecDepth 100000 in
set_option maxHeartbeats 1000000 in
theorem order_any (s : Scr) (V0 V1 : Value) (w : World) (hs : ScIs w.cell? s V0 V1) (hsf : s.fits) : Calls Try.prog 18 #[.agg #[V0, V1]] w (OrdEnd s w) := by
  obtain ⟨⟨a0, c0, rfl, n0⟩, ⟨a1, c1, rfl, n1⟩⟩ := hs
  have b1 := (Below.refl _ w).alloc (Nat.le_refl _) (.cells #[.slice a0 s.consts.length c0, .slice a1 s.funcs.length c1] 25)
  have hG := straight_any s _ _ (w.alloc (.cells #[.slice a0 s.consts.length c0, .slice a1 s.funcs.length c1] 25)) ⟨⟨a0, c0, rfl, n0.keep (below_keep b1)⟩, ⟨a1, c1, rfl, n1.keep (below_keep b1)⟩⟩ hsf
  by_cases hx : s.right = true ∧ ¬ (ordS s.funcs.length (gF s)).isNone = true
  · obtain ⟨hr, ho⟩ := hx
    obtain ⟨r1, r2, r3⟩ := right_calls hr
    obtain ⟨i1, i2, i3, i4⟩ := graph_inn s
    have hac : Acy s.funcs.length (gF s) := (ord_iff i1).2 (by
      cases e : ordS s.funcs.length (gF s) with
      | none => rw [e] at ho; exact absurd rfl ho
      | some o => exact ⟨o, rfl⟩)
    have HG : Hid (Calls Try.prog 31 #[.agg #[.slice a0 s.consts.length c0, .slice a1 s.funcs.length c1]] (w.alloc (.cells #[.slice a0 s.consts.length c0, .slice a1 s.funcs.length c1] 25)) fun e w1 => ∃ ga gc mb, e = .returned (.tuple #[.slice ga s.funcs.length gc, .map (some mb), .int .i64 0]) ∧ Hid (Calls Try.prog 32 #[.slice ga s.funcs.length gc] w1 fun e w2 => ∃ a n c, e = .returned (.slice a n c) ∧ Hid (OrdEnd s w (.returned (.tuple #[.slice a n c, .int .i64 0])) w2))) := hid7 (hG.mono fun e w1 ⟨h1, h2⟩ => by
      rw [if_pos hr, if_neg ho] at h2
      obtain ⟨ga, gc, mb, m, e1, h3, h4, h5⟩ := h2
      refine ⟨ga, gc, mb, e1, hid7 ((line_any (graphS s) _ gc ga i4 (by omega) i1 (fun l hl => by have := i3 l hl; omega) hac w1 h3).mono fun e w2 ⟨o, q1, a, c, q2, q3, q4⟩ => ⟨a, _, c, q2, hid7 ⟨(b1.trans (h1.mono b1.size)).trans (q4.mono (Nat.le_trans b1.size h1.size)), ?_⟩⟩)⟩
      rw [if_pos hr, show ordS s.funcs.length (gF s) = some o from q1]
      exact ⟨a, c, by simp [rowI], rowE_ns q3⟩)
    generalize s.consts.length = cl at HG ⊢
    generalize s.funcs.length = fl at HG ⊢
    clear hG hr ho r1 r2 r3 i1 i2 i3 i4 n0 n1 hsf b1 hac
    go_enter Try.func18, Try.ntmps18
    go_wp2_with (first
      | (go_at_call 31; refine HG.out.mono ?_; clear HG; rintro e w1 ⟨ga, gc, mb, rfl, HLn⟩)
      | (go_at_call 32; refine HLn.out.mono ?_; clear HLn; rintro e w2 ⟨a2, n2, c2, rfl, K2⟩)
      | fail)
    go_ret2
    exact K2.out
  · have HG : Hid (Calls Try.prog 31 #[.agg #[.slice a0 s.consts.length c0, .slice a1 s.funcs.length c1]] (w.alloc (.cells #[.slice a0 s.consts.length c0, .slice a1 s.funcs.length c1] 25)) fun e w1 => ∃ c : Int, (c != 0) = true ∧ e = .returned (.tuple #[.slice none 0 0, .map none, .int .i64 c]) ∧ Hid (OrdEnd s w (.returned (.tuple #[.slice none 0 0, .int .i64 c])) w1)) := hid7 (hG.mono fun e w1 ⟨h1, h2⟩ => by
      have bb := b1.trans (h1.mono b1.size)
      by_cases hr : s.right = true
      · rw [if_pos hr] at h2
        have ho : (ordS s.funcs.length (gF s)).isNone = true := by
          cases e : (ordS s.funcs.length (gF s)).isNone with
          | true => rfl
          | false => exact absurd ⟨hr, by rw [e]; simp⟩ hx
        rw [if_pos ho] at h2
        refine ⟨34, by decide, h2, hid7 ⟨bb, ?_⟩⟩
        rw [if_pos hr]
        cases e : ordS s.funcs.length (gF s) with
        | none => rfl
        | some o => rw [e] at ho; cases ho
      · rw [if_neg hr] at h2
        exact ⟨30, by decide, h2, hid7 ⟨bb, by rw [if_neg hr]⟩⟩)
    clear hG hx n0 n1 hsf b1
    generalize s.consts.length = cl at HG ⊢
    generalize s.funcs.length = fl at HG ⊢
    go_enter Try.func18, Try.ntmps18
    go_wp2_with (first
      | (go_at_call 31; refine HG.out.mono ?_; clear HG; rintro e w1 ⟨c, hc, rfl, K1⟩)
      | fail)
    go_ret2
    exact K1.out
end Go.Proofs.Ytikomfbpaimnmaa
namespace Go.Proofs.Ytikomfbpaimnmaa
open Go.RowKit
def FuncE (n : Int) (w : World) (e : Ending) (w' : World) : Prop := ∃ b, e = .returned (.agg #[.slice none 0 0, .slice none 0 0, .slice none 0 0, .slice (some ⟨b, 0, none⟩) 1 1]) ∧ w.heap.size ≤ b ∧ w'.heap[b]? = some (.cells #[.int .i64 53, .int .i64 n] 51 (0, 0)) ∧ Below w.heap.size w w'
set_option maxRecDepth 100000 in
set_option maxHeartbeats 1000000 in
theorem func1_any (n : Int) (w : World) : Calls Try.prog 30 #[.int .i64 n] w (FuncE n w) := by
  go_enter Try.func30, Try.ntmps30
  go_wp2_with fail
  have e1 := heap_alloc_new w (.cells #[.slice none 0 0, .slice none 0 0, .slice none 0 0, .slice (some ⟨w.heap.size + 1, 0, none⟩) 1 1] 49)
  have b1 := (Below.refl _ w).alloc (Nat.le_refl _) (.cells #[.slice none 0 0, .slice none 0 0, .slice none 0 0, .slice (some ⟨w.heap.size + 1, 0, none⟩) 1 1] 49)
  generalize hw1 : w.alloc (.cells #[.slice none 0 0, .slice none 0 0, .slice none 0 0, .slice (some ⟨w.heap.size + 1, 0, none⟩) 1 1] 49) = w1 at *
  have z1 : w1.heap.size = w.heap.size + 1 := by rw [← hw1]; simp
  have e2 := heap_alloc_new w1 (.cells #[.int .i64 53, .int .i64 n] 51)
  have b2 := (Below.refl _ w1).alloc (Nat.le_refl _) (.cells #[.int .i64 53, .int .i64 n] 51)
  refine ⟨rfl, _, results_cell_row (P := Try.prog) rfl _ _ w.heap.size 49 _ (0, 0) _ rfl ((b2.block _ (heap_lt e1)).trans e1) Try.underlying49 rfl (by kernel_rfl), ?_⟩
  exact ⟨w.heap.size + 1, rfl, by omega, by rw [← z1]; exact e2, b1.trans (b2.mono b1.size)⟩
theorem know_row {w w1 : World} {b1 : Nat} (q1 : w.heap.size ≤ b1) (q2 : w1.heap[b1]? = some (.cells #[.int .i64 53, .int .i64 1] 51 (0, 0))) (o1 o2 : Obj) : ((w1.alloc o1).alloc o2).ownsRow w.heap.size 51 2 (.slice (some ⟨b1, 0, none⟩) 1 1) 1 [.int .i64 53, .int .i64 1] :=
  ⟨rfl, .inr ⟨b1, 1, #[.int .i64 53, .int .i64 1], rfl, q1, (Below.heap_alloc _ _ _ (by rw [World.size_alloc]; have := heap_lt q2; omega)).trans ((Below.heap_alloc _ _ _ (heap_lt q2)).trans q2), Nat.le_refl _, by unfold maxLen; omega, rfl, rfl⟩⟩
theorem know_cells {w1 w6 : World} {b1 : Nat} {v v' : Value} {o2 : Obj} (hb : b1 < w1.heap.size) (hv : v.ownBlock = some b1) (x : Value) (hs : Step ((w1.alloc (.cells #[.slice none 0 0, .slice none 0 0, .slice none 0 0, x] 49)).alloc o2) v w6 v') : w6.heap[w1.heap.size]? = some (.cells #[.slice none 0 0, .slice none 0 0, .slice none 0 0, x] 49 (0, 0)) := by
  rw [hs.1.block _ (by simp; omega) (by rw [hv]; simp; omega), Below.heap_alloc _ _ _ (by simp)]
  exact heap_alloc_new w1 _
theorem know_code {w w1 w6 : World} {b1 : Nat} {va : Option Addr} {vc : Nat} {v : Value} {o1 o2 : Obj} (hr : w6.ownsRow w.heap.size 51 2 (.slice va (1 + 1) vc) (1 + 1) ([.int .i64 53, .int .i64 1] ++ [.int .i64 53, .int .i64 2])) (hs : Step ((w1.alloc o1).alloc o2) v w6 (.slice va (1 + 1) vc)) (hq : w.heap.size ≤ b1 ∧ w1.heap[b1]? = some (.cells #[.int .i64 53, .int .i64 1] 51 (0, 0)) ∧ Below w.heap.size w w1) (u : Value) (hv : v.ownBlock = some b1) :
    IsAt (w6.setCell ⟨w1.heap.size, 3, none⟩ u).cell? va [(53, 1), (53, 2)] ∧ Below w.heap.size w (w6.setCell ⟨w1.heap.size, 3, none⟩ u) := by
  obtain ⟨q1, q2, q3⟩ := hq
  have hl := heap_lt q2
  have bb : Below w.heap.size w ((w1.alloc o1).alloc o2) := (q3.alloc q3.size _).alloc (by rw [World.size_alloc]; have := q3.size; omega) _
  refine ⟨?_, (bb.trans (hs.below bb.size (fun g e => by rw [hv] at e; cases e; exact q1))).setCell (p := ⟨w1.heap.size, 3, none⟩) q3.size _⟩
  obtain ⟨a', c', e, _, _, q⟩ := row_form hr
  cases e
  rcases q with ⟨_, q, _⟩ | ⟨g, e, _, _, q⟩
  · omega
  · have hg : g ≠ w1.heap.size := by
      rcases hs.2 with h | ⟨g', h, h2⟩
      · rw [hv, e] at h; simp [Value.ownBlock] at h; omega
      · rw [e] at h; simp [Value.ownBlock] at h; simp at h2; omega
    have kk : ∀ j v, w6.cell? ⟨g, j, none⟩ = some v → (w6.setCell ⟨w1.heap.size, 3, none⟩ u).cell? ⟨g, j, none⟩ = some v := fun j v h => (World.cell?_of_block (Below.heap_setCell _ _ _ _ hg)).trans h
    refine .inr ⟨g, 0, e, fun j hj => ?_⟩
    match j, hj with
    | 0, _ => exact ⟨kk 0 _ (q 0 _ rfl), kk 1 _ (q 1 _ rfl)⟩
    | 1, _ => exact ⟨kk 2 _ (q 2 _ rfl), kk 3 _ (q 3 _ rfl)⟩
/-- The script of three functions. -/
def kS : Scr := ⟨[], [⟨[], [], [], [(53, 1), (53, 2)]⟩, ⟨[], [], [], [(53, 2)]⟩, ⟨[], [], [], []⟩]⟩
/-- It lies in a box. -/
def KEnd (w W : World) (p fb : Nat) : Prop := W.cell? ⟨p, 0, none⟩ = some (.slice none 0 0) ∧ W.cell? ⟨p, 1, none⟩ = some (.slice (some ⟨fb, 0, none⟩) 3 3) ∧ p < W.heap.size ∧ FsAt W.cell? (some ⟨fb, 0, none⟩) kS.funcs ∧ Below w.heap.size w W
def k12 (va : Option Addr) (vc b8 : Nat) : Array Value := #[.slice none 0 0, .slice none 0 0, .slice none 0 0, .slice va 2 vc, .slice none 0 0, .slice none 0 0, .slice none 0 0, .slice (some ⟨b8, 0, none⟩) 1 1, .slice none 0 0, .slice none 0 0, .slice none 0 0, .slice none 0 0]
theorem k_fs {W : World} {va : Option Addr} {vc b8 fb : Nat} (h1 : IsAt W.cell? va [(53, 1), (53, 2)]) (h2 : IsAt W.cell? (some ⟨b8, 0, none⟩) [(53, 2)]) (h3 : W.heap[fb]? = some (.cells (k12 va vc b8) 49 (0, 0))) : FsAt W.cell? (some ⟨fb, 0, none⟩) kS.funcs := by
  have nl : ∀ (C : Addr → Option Value), ∃ a c, Value.slice none 0 0 = .slice a ([] : List Int).length c ∧ NsAt C a [] := fun C => ⟨none, 0, rfl, .inl rfl⟩
  have cc : ∀ j, W.cell? ⟨fb, j, none⟩ = (k12 va vc b8)[j]? := fun j => Lib.cell_of_heap h3 j
  refine .inr ⟨fb, 0, rfl, fun j hj => ?_⟩
  match j, hj with
  | 0, _ => exact ⟨_, _, _, _, cc 0, cc 1, cc 2, cc 3, nl _, nl _, nl _, va, vc, rfl, h1⟩
  | 1, _ => exact ⟨_, _, _, _, cc 4, cc 5, cc 6, cc 7, nl _, nl _, nl _, _, 1, rfl, h2⟩
  | 2, _ => exact ⟨_, _, _, _, cc 8, cc 9, cc 10, cc 11, nl _, nl _, nl _, none, 0, rfl, .inl rfl⟩
theorem k_B {w w8 : World} {va : Option Addr} {vc b8 : Nat} (h1 : IsAt w8.cell? va [(53, 1), (53, 2)]) (h2 : IsAt w8.cell? (some ⟨b8, 0, none⟩) [(53, 2)]) (h3 : Below w.heap.size w w8) : KEnd w ((w8.alloc (.cells #[.slice none 0 0, .slice (some ⟨w8.heap.size + 1, 0, none⟩) 3 3] 25)).alloc (.cells (k12 va vc b8) 49)) w8.heap.size (w8.heap.size + 1) := by
  have b1 := (Below.refl _ w8).alloc (Nat.le_refl _) (.cells #[.slice none 0 0, .slice (some ⟨w8.heap.size + 1, 0, none⟩) 3 3] 25)
  have e1 := heap_alloc_new w8 (.cells #[.slice none 0 0, .slice (some ⟨w8.heap.size + 1, 0, none⟩) 3 3] 25)
  generalize hw : w8.alloc (.cells #[.slice none 0 0, .slice (some ⟨w8.heap.size + 1, 0, none⟩) 3 3] 25) = w9 at *
  have z : w9.heap.size = w8.heap.size + 1 := by rw [← hw]; simp
  have b2 := (Below.refl _ w9).alloc (Nat.le_refl _) (.cells (k12 va vc b8) 49)
  have e2 := heap_alloc_new w9 (.cells (k12 va vc b8) 49)
  have e3 := (b2.block _ (heap_lt e1)).trans e1
  have bb := b1.trans (b2.mono b1.size)
  exact ⟨Lib.cell_of_heap e3 0, Lib.cell_of_heap e3 1, heap_lt e3, k_fs (h1.keep (below_keep bb)) (h2.keep (below_keep bb)) (by rw [← z]; exact e2), h3.trans (bb.mono h3.size)⟩
theorem k_C {w w8 : World} {va : Option Addr} {vc b8 : Nat} (h1 : IsAt w8.cell? va [(53, 1), (53, 2)]) (h2 : IsAt w8.cell? (some ⟨b8, 0, none⟩) [(53, 2)]) (h3 : Below w.heap.size w w8) : KEnd w ((w8.alloc (.cells (k12 va vc b8) 49)).alloc (.cells #[.slice none 0 0, .slice (some ⟨w8.heap.size, 0, none⟩) 3 3] 25)) (w8.heap.size + 1) w8.heap.size := by
  have b1 := (Below.refl _ w8).alloc (Nat.le_refl _) (.cells (k12 va vc b8) 49)
  have e1 := heap_alloc_new w8 (.cells (k12 va vc b8) 49)
  generalize hw : w8.alloc (.cells (k12 va vc b8) 49) = w9 at *
  have z : w9.heap.size = w8.heap.size + 1 := by rw [← hw]; simp
  have b2 := (Below.refl _ w9).alloc (Nat.le_refl _) (.cells #[.slice none 0 0, .slice (some ⟨w8.heap.size, 0, none⟩) 3 3] 25)
  have e2 := heap_alloc_new w9 (.cells #[.slice none 0 0, .slice (some ⟨w8.heap.size, 0, none⟩) 3 3] 25)
  have e3 := (b2.block _ (heap_lt e1)).trans e1
  have bb := b1.trans (b2.mono b1.size)
  rw [z] at e2
  exact ⟨Lib.cell_of_heap e2 0, Lib.cell_of_heap e2 1, heap_lt e2, k_fs (h1.keep (below_keep bb)) (h2.keep (below_keep bb)) e3, h3.trans (bb.mono h3.size)⟩
theorem k_A {w w7 w8 : World} {va : Option Addr} {vc b8 : Nat} (hw : w.heap.size ≤ w7.heap.size) (h1 : IsAt w7.cell? va [(53, 1), (53, 2)]) (h1' : IsAt w8.cell? va [(53, 1), (53, 2)]) (h2 : IsAt w8.cell? (some ⟨b8, 0, none⟩) [(53, 2)]) (hb8 : w7.heap.size < b8) (h3 : Below w.heap.size w w8) (hx : w8.heap[w7.heap.size]? = some (.cells #[.slice none 0 0, .slice none 0 0] 25 (0, 0))) :
    KEnd w (((w8.setCell ⟨w7.heap.size, 0, none⟩ (.slice none 0 0)).setCell ⟨w7.heap.size, 1, none⟩ (.slice (some ⟨w8.heap.size, 0, none⟩) 3 3)).alloc (.cells (k12 va vc b8) 49)) w7.heap.size w8.heap.size := by
  have e1 := heap_setCell_same (w8.setCell ⟨w7.heap.size, 0, none⟩ (.slice none 0 0)) w7.heap.size 1 _ _ (.slice (some ⟨w8.heap.size, 0, none⟩) 3 3) (heap_setCell_same w8 w7.heap.size 0 _ _ (.slice none 0 0) hx)
  have kk : ∀ a v, a.block ≠ w7.heap.size → w8.cell? a = some v → ((w8.setCell ⟨w7.heap.size, 0, none⟩ (.slice none 0 0)).setCell ⟨w7.heap.size, 1, none⟩ (.slice (some ⟨w8.heap.size, 0, none⟩) 3 3)).cell? a = some v := fun a v ha h => (World.cell?_of_block ((Below.heap_setCell _ _ _ _ ha).trans (Below.heap_setCell _ _ _ _ ha))).trans h
  have z : ((w8.setCell ⟨w7.heap.size, 0, none⟩ (.slice none 0 0)).setCell ⟨w7.heap.size, 1, none⟩ (.slice (some ⟨w8.heap.size, 0, none⟩) 3 3)).heap.size = w8.heap.size := by simp [World.setCell]
  have b9 : Below w.heap.size w ((w8.setCell ⟨w7.heap.size, 0, none⟩ (.slice none 0 0)).setCell ⟨w7.heap.size, 1, none⟩ (.slice (some ⟨w8.heap.size, 0, none⟩) 3 3)) := (h3.setCell (p := ⟨w7.heap.size, 0, none⟩) hw _).setCell (p := ⟨w7.heap.size, 1, none⟩) hw _
  generalize ((w8.setCell ⟨w7.heap.size, 0, none⟩ (.slice none 0 0)).setCell ⟨w7.heap.size, 1, none⟩ (.slice (some ⟨w8.heap.size, 0, none⟩) 3 3)) = w9 at *
  have b2 := (Below.refl _ w9).alloc (Nat.le_refl _) (.cells (k12 va vc b8) 49)
  have e2 := heap_alloc_new w9 (.cells (k12 va vc b8) 49)
  have e3 := (b2.block _ (heap_lt e1)).trans e1
  rw [z] at e2
  have i1 : IsAt w9.cell? va [(53, 1), (53, 2)] := by
    rcases h1 with h | ⟨b, o, e, h⟩
    · cases h
    · have hb : b ≠ w7.heap.size := by have := World.block_lt_of_cell? w7 _ (h 0 (by decide)).1; simp at this; omega
      rcases h1' with h' | ⟨b', o', e', h'⟩
      · cases h'
      · rw [e] at e'; cases e'
        exact .inr ⟨b, o, e, fun j hj => ⟨kk _ _ hb (h' j hj).1, kk _ _ hb (h' j hj).2⟩⟩
  have i2 : IsAt w9.cell? (some ⟨b8, 0, none⟩) [(53, 2)] := by
    rcases h2 with h | ⟨b, o, e, h⟩
    · cases h
    · cases e
      exact .inr ⟨b8, 0, rfl, fun j hj => ⟨kk _ _ (by show b8 ≠ _; omega) (h j hj).1, kk _ _ (by show b8 ≠ _; omega) (h j hj).2⟩⟩
  exact ⟨Lib.cell_of_heap e3 0, Lib.cell_of_heap e3 1, heap_lt e3, k_fs (i1.keep (below_keep b2)) (i2.keep (below_keep b2)) e2, b9.trans (b2.mono b9.size)⟩
end Go.Proofs.Ytikomfbpaimnmaa
