/- The document's BytesOf of a script that may be. What the document reads: a function. What the document reads: a function. What the document reads: a script's box. -/
import Derived.Test.YtpmlnkjamhelnaaGreatRW
import Derived.Test.YtpmlnkjamhelnaaGreatRF
import Derived.Test.YtpmlnkjamhelnaaGreatCTg
import Derived.Test.YtpmlnkjamhelnaaGreatDG
import Derived.Test.YtpmlnkjamhelnaaGreatCCf
import Derived.Test.YtpmlnkjamhelnaaGreatGM
namespace Go.Proofs.YtpmlnkjamhelnaaGreat
open Go.RowKit
theorem texts_le4 : ∀ (L : List (List UInt8)), (∀ x ∈ L, x.length ≤ 256) → (texts L).length ≤ 258 * L.length
  | [], _ => by simp [texts]
  | x :: r, h => by
    have a := texts_le4 r fun y hy => h y (List.mem_cons_of_mem _ hy)
    have b := h x (List.mem_cons_self ..)
    unfold texts at a ⊢
    simp only [List.flatMap_cons, List.length_append, List.length_cons, text_length] at a ⊢
    omega
theorem src_two {w : World} {x y : Value} (t : TypeId) (hx : x.oneCell' = true) (hy : y.oneCell' = true) (c : Nat) : Src Tryz.prog 1 22 (.slice (some ⟨w.heap.size, 0, none⟩) 2 c) [x, y].length [x, y] (w.alloc (.cells #[x, y] t)) :=
  Src.ofSlice _ Tryz.underlying22 _ 2 c [x, y] rfl (World.news_of_block (heap_alloc_new w _)) (by intro u hu; simp at hu; rcases hu with rfl | rfl <;> assumption)
theorem rtakes_s (x : Int) (w : World) : Calls Tryz.prog 74 #[.int .i64 x] w fun e w' => e = .returned (.int .i64 (takesN x)) ∧ Below w.heap.size w w' := by
  rw [← takes_same]
  exact rtakes4 x w
end Go.Proofs.YtpmlnkjamhelnaaGreat
namespace Go.Proofs.YtpmlnkjamhelnaaGreat
open Go.RowKit
theorem step_blk {W W' : World} {base n size b : Nat} {e e' : TypeId} {v v' : Value} {xs : List Value} {cs : Array Value} {z : Nat × Nat} (hr : W.ownsRow base e size v n xs) (hs : Step W v W' v') (hb : W.heap[b]? = some (.cells cs e' z)) (hne : e ≠ e') : W'.heap[b]? = some (.cells cs e' z) := by
  refine (hs.1.block b (lt_of_block hb) fun h => ?_).trans hb
  rcases hr.2 with ⟨rfl, _⟩ | ⟨g, cap, cur, rfl, _, hh, _⟩
  · cases h
  · cases h
    rw [hh] at hb
    cases hb
    exact hne rfl
theorem step_row {W W' : World} {base n size base' n' size' : Nat} {e e' : TypeId} {v v' u : Value} {xs ys : List Value} (hr : W.ownsRow base e size v n xs) (hs : Step W v W' v') (hu : W.ownsRow base' e' size' u n' ys) (hne : e ≠ e') : W'.ownsRow base' e' size' u n' ys := by
  refine ⟨hu.1, ?_⟩
  rcases hu.2 with h2 | ⟨g, cap, cur, rfl, hg, hh, r⟩
  · exact .inl h2
  · exact .inr ⟨g, cap, cur, rfl, hg, step_blk hr hs hh hne, r⟩
theorem set4_b1 {w : World} {b : Nat} {x y z t u : Value} {ty : TypeId} (h : w.heap[b]? = some (.cells #[x, y, z, t] ty (0, 0))) : (w.setCell ⟨b, 1, none⟩ u).heap[b]? = some (.cells #[x, u, z, t] ty (0, 0)) := set_blk u h
theorem set4_b2 {w : World} {b : Nat} {x y z t u : Value} {ty : TypeId} (h : w.heap[b]? = some (.cells #[x, y, z, t] ty (0, 0))) : (w.setCell ⟨b, 2, none⟩ u).heap[b]? = some (.cells #[x, y, u, t] ty (0, 0)) := set_blk u h
theorem set4_b3 {w : World} {b : Nat} {x y z t u : Value} {ty : TypeId} (h : w.heap[b]? = some (.cells #[x, y, z, t] ty (0, 0))) : (w.setCell ⟨b, 3, none⟩ u).heap[b]? = some (.cells #[x, y, z, u] ty (0, 0)) := set_blk u h
/-- What the document's function has: the lists so far, in its box. -/
structure FnSt (w : World) (q g : Nat) (bs : List UInt8) (B : Nat) (W : World) (st : RSt) (r0 r1 r2 r3 : Value) (P0 P1 P2 : List Int) (P3 : List (Int × Int)) : Prop where
  blk : W.heap[B]? = some (.cells #[r0, r1, r2, r3] 49 (0, 0))
  q0 : W.ownsRow w.heap.size 3 1 r0 P0.length (cellsN P0)
  q1 : W.ownsRow w.heap.size 3 1 r1 P1.length (cellsN P1)
  q2 : W.ownsRow w.heap.size 3 1 r2 P2.length (cellsN P2)
  q3 : W.ownsRow w.heap.size 74 2 r3 P3.length (cellsI P3)
  fs : FS W q g bs st
  chg : Chg w W (fun k => k = q)
  res : W.heap[w.heap.size]? = some (.cells #[.slice none 0 0, .slice none 0 0, .slice none 0 0, .slice none 0 0] 49 (0, 0))
  hB : w.heap.size < B
  hq : q < w.heap.size
  hg : g < w.heap.size
section
variable {w : World} {q g : Nat} {bs : List UInt8} {B : Nat} {W : World} {st : RSt} {r0 r1 r2 r3 : Value} {P0 P1 P2 : List Int} {P3 : List (Int × Int)}
theorem FnSt.cells (h : FnSt w q g bs B W st r0 r1 r2 r3 P0 P1 P2 P3) : (W.cell? ⟨B, 0, none⟩ = some r0 ∧ W.cell? ⟨B, 1, none⟩ = some r1 ∧ W.cell? ⟨B, 2, none⟩ = some r2 ∧ W.cell? ⟨B, 3, none⟩ = some r3) ∧ ∀ o, W.frozen? ⟨B, o, none⟩ = false := by
  refine ⟨⟨?_, ?_, ?_, ?_⟩, fun o => Lib.frozen_of_heap h.blk o⟩
  all_goals (rw [Lib.cell_of_heap h.blk]; rfl)
theorem FnSt.call {W' : World} {st' : RSt} (h : FnSt w q g bs B W st r0 r1 r2 r3 P0 P1 P2 P3) (hc : Chg W W' (fun k => k = q)) (hf : FS W' q g bs st') : FnSt w q g bs B W' st' r0 r1 r2 r3 P0 P1 P2 P3 := by
  have key : ∀ {e : TypeId} {size n : Nat} {v : Value} {xs : List Value}, W.ownsRow w.heap.size e size v n xs → W'.ownsRow w.heap.size e size v n xs := fun hr => row_chg4 hr hc fun b hb e => by have := (row_lt4 hr b hb).1; have := h.hq; omega
  exact ⟨(hc.block _ (lt_of_block h.blk) (by have := h.hB; have := h.hq; omega)).trans h.blk, key h.q0, key h.q1, key h.q2, key h.q3, hf, h.chg.trans hc fun _ _ e => e, (hc.block _ (lt_of_block h.res) (by have := h.hq; omega)).trans h.res, h.hB, h.hq, h.hg⟩
theorem FnSt.alloc (h : FnSt w q g bs B W st r0 r1 r2 r3 P0 P1 P2 P3) (o : Obj) : FnSt w q g bs B (W.alloc o) st r0 r1 r2 r3 P0 P1 P2 P3 := h.call (Chg.alloc W o _) (h.fs.chg (Chg.alloc W o (fun _ => False)) id id)
theorem FnSt.below {W' : World} (h : FnSt w q g bs B W st r0 r1 r2 r3 P0 P1 P2 P3) (hb : Below W.heap.size W W') : FnSt w q g bs B W' st r0 r1 r2 r3 P0 P1 P2 P3 := h.call (Chg.of_below hb) (h.fs.chg (Chg.of_below (S := fun _ => False) hb) id id)
/-- A store into another box of one's own. -/
theorem FnSt.other {b o : Nat} {u : Value} {cs : Array Value} (h : FnSt w q g bs B W st r0 r1 r2 r3 P0 P1 P2 P3) (hb : w.heap.size < b) (hne : b ≠ B) (ht : W.heap[b]? = some (.cells cs 74 (0, 0))) (hrow : ∀ k, r3.ownBlock = some k → k ≠ b) : FnSt w q g bs B (W.setCell ⟨b, o, none⟩ u) st r0 r1 r2 r3 P0 P1 P2 P3 := by
  have hc := Chg.setCell W ⟨b, o, none⟩ u
  have h1 := h.hq
  have h2 := h.hg
  exact ⟨(hc.block _ (lt_of_block h.blk) (fun e => hne e.symm)).trans h.blk, row_set_other h.q0 ht (by decide), row_set_other h.q1 ht (by decide), row_set_other h.q2 ht (by decide), row_chg4 h.q3 hc fun k e e2 => hrow k e e2, h.fs.chg hc (by show ¬ q = b; omega) (by show ¬ g = b; omega), h.chg.trans hc fun i hi (e : i = b) => by omega, (hc.block _ (lt_of_block h.res) (by show ¬ w.heap.size = b; omega)).trans h.res, h.hB, h.hq, h.hg⟩
theorem FnSt.set {o : Nat} {u : Value} (h : FnSt w q g bs B W st r0 r1 r2 r3 P0 P1 P2 P3) : (W.setCell ⟨B, o, none⟩ u).ownsRow w.heap.size 3 1 r0 P0.length (cellsN P0) ∧ (W.setCell ⟨B, o, none⟩ u).ownsRow w.heap.size 3 1 r1 P1.length (cellsN P1) ∧ (W.setCell ⟨B, o, none⟩ u).ownsRow w.heap.size 3 1 r2 P2.length (cellsN P2) ∧ (W.setCell ⟨B, o, none⟩ u).ownsRow w.heap.size 74 2 r3 P3.length (cellsI P3) ∧ FS (W.setCell ⟨B, o, none⟩ u) q g bs st ∧ Chg w (W.setCell ⟨B, o, none⟩ u) (fun k => k = q) ∧ (W.setCell ⟨B, o, none⟩ u).heap[w.heap.size]? = some (.cells #[.slice none 0 0, .slice none 0 0, .slice none 0 0, .slice none 0 0] 49 (0, 0)) := by
  have hc := Chg.setCell W ⟨B, o, none⟩ u
  have h1 := h.hq
  have h2 := h.hg
  have h3 := h.hB
  exact ⟨row_set_other h.q0 h.blk (by decide), row_set_other h.q1 h.blk (by decide), row_set_other h.q2 h.blk (by decide), row_set_other h.q3 h.blk (by decide), h.fs.chg hc (by show ¬ q = B; omega) (by show ¬ g = B; omega), h.chg.trans hc fun i hi (e : i = B) => by omega, (hc.block _ (lt_of_block h.res) (by show ¬ w.heap.size = B; omega)).trans h.res⟩
theorem FnSt.set1 {u : Value} {P : List Int} (h : FnSt w q g bs B W st r0 r1 r2 r3 P0 P1 P2 P3) (hu : W.ownsRow w.heap.size 3 1 u P.length (cellsN P)) : FnSt w q g bs B (W.setCell ⟨B, 1, none⟩ u) st r0 u r2 r3 P0 P P2 P3 := by
  obtain ⟨a0, a1, a2, a3, a4, a5, a6⟩ := h.set (o := 1) (u := u)
  exact ⟨set4_b1 h.blk, a0, row_set_other hu h.blk (by decide), a2, a3, a4, a5, a6, h.hB, h.hq, h.hg⟩
theorem FnSt.set2 {u : Value} {P : List Int} (h : FnSt w q g bs B W st r0 r1 r2 r3 P0 P1 P2 P3) (hu : W.ownsRow w.heap.size 3 1 u P.length (cellsN P)) : FnSt w q g bs B (W.setCell ⟨B, 2, none⟩ u) st r0 r1 u r3 P0 P1 P P3 := by
  obtain ⟨a0, a1, a2, a3, a4, a5, a6⟩ := h.set (o := 2) (u := u)
  exact ⟨set4_b2 h.blk, a0, a1, row_set_other hu h.blk (by decide), a3, a4, a5, a6, h.hB, h.hq, h.hg⟩
/-- An append onto the list of instructions, and its store. -/
theorem FnSt.app {W' : World} {v' : Value} {P : List (Int × Int)} (h : FnSt w q g bs B W st r0 r1 r2 r3 P0 P1 P2 P3) (hs : Step W r3 W' v') (hr : W'.ownsRow w.heap.size 74 2 v' P.length (cellsI P)) : FnSt w q g bs B (W'.setCell ⟨B, 3, none⟩ v') st r0 r1 r2 v' P0 P1 P2 P := by
  have hc := Chg.of_grown hs.1
  have hlt := row_lt4 h.q3
  have h1 := h.hq
  have h2 := h.hg
  have h3 := h.hB
  have b' := step_blk h.q3 hs h.blk (by decide)
  have hc2 := Chg.setCell W' ⟨B, 3, none⟩ v'
  refine ⟨set4_b3 b', row_set_other (step_row h.q3 hs h.q0 (by decide)) b' (by decide), row_set_other (step_row h.q3 hs h.q1 (by decide)) b' (by decide), row_set_other (step_row h.q3 hs h.q2 (by decide)) b' (by decide), row_set_other hr b' (by decide), (h.fs.chg hc (fun e => ?_) (fun e => ?_)).chg hc2 (by show ¬ q = B; omega) (by show ¬ g = B; omega), (h.chg.trans hc fun i hi e => ?_).trans hc2 fun i hi (e : i = B) => by omega, (hc2.block _ (lt_of_block (step_blk h.q3 hs h.res (by decide))) (by show ¬ w.heap.size = B; omega)).trans (step_blk h.q3 hs h.res (by decide)), h.hB, h.hq, h.hg⟩
  all_goals (have := (hlt _ e).1; omega)
end
end Go.Proofs.YtpmlnkjamhelnaaGreat
namespace Go.Proofs.YtpmlnkjamhelnaaGreat
open Go.RowKit
def FnEndF (f : Fn) (q g : Nat) (bs : List UInt8) (st : RSt) (w : World) (x : Ending) (w' : World) : Prop := (∃ u0 u1 u2 u3, x = .returned (.agg #[u0, u1, u2, u3]) ∧ FnOwn w' w.heap.size f u0 u1 u2 u3) ∧ FS w' q g bs st ∧ Chg w w' (fun k => k = q)
theorem World.setCell_size (w : World) (a : Addr) (u : Value) : (w.setCell a u).heap.size = w.heap.size := by simp [World.setCell]
theorem manyI_snoc' (L : List (Int × Int)) (x : Int × Int) : cellsI (L ++ [x]) = cellsI L ++ [.int .i64 x.1, .int .i64 x.2] := by simp [cellsI]
set_option maxRecDepth 100000 in
set_option maxHeartbeats 8000000 in
theorem rfunction_any (q g : Nat) (bs : List UInt8) (s : RSt) (w : World) (H : FS w q g bs s) (hg : g < w.heap.size) : Calls Tryz.prog 40 #[.pointer (some ⟨q, 0, none⟩)] w (FnEndF (gFn s).1 q g bs (gFn s).2 w) := by
  have hq := H.cell.2
  obtain ⟨W0, hW0⟩ : ∃ W0, W0 = w.alloc (.cells #[.slice none 0 0, .slice none 0 0, .slice none 0 0, .slice none 0 0] 49) := ⟨_, rfl⟩
  have hz0 : w.heap.size + 1 ≤ W0.heap.size := by rw [hW0]; simp
  have hC0 : Chg w W0 (fun k => k = q) := by rw [hW0]; exact Chg.alloc w _ _
  have H0 : FS W0 q g bs s := by rw [hW0]; exact H.chg (Chg.alloc w _ (fun _ => False)) id id
  have b0 : W0.heap[w.heap.size]? = some (.cells #[.slice none 0 0, .slice none 0 0, .slice none 0 0, .slice none 0 0] 49 (0, 0)) := by rw [hW0]; exact heap_alloc_new w _
  have hI : ∀ (W : World) (s : RSt), FS W q g bs s → w.heap.size ≤ W.heap.size → Calls Tryz.prog 73 #[.pointer (some ⟨q, 0, none⟩)] W (ManyEndF 3 1 (gTypes s).1.length (cellsN (gTypes s).1) q g bs (gTypes s).2 W) := fun W s h hz => rints_any q g bs s W h (Nat.lt_of_lt_of_le hg hz)
  have hF : gFn s = (⟨(gTypes s).1, (gTypes (gTypes s).2).1, (gTypes (gTypes (gTypes s).2).2).1, (gCode (gTypes (gTypes (gTypes s).2).2).2).1⟩, (gCode (gTypes (gTypes (gTypes s).2).2).2).2) := rfl
  rw [hF]
  clear hF
  have hT0 := hI W0 s H0 (by omega)
  obtain ⟨P0, hP0⟩ : ∃ x, x = (gTypes s).1 := ⟨_, rfl⟩
  obtain ⟨s0, hs0⟩ : ∃ x, x = (gTypes s).2 := ⟨_, rfl⟩
  rw [← hP0, ← hs0] at hT0 ⊢
  have hT1 := fun W h => hI W s0 h
  obtain ⟨P1, hP1⟩ : ∃ x, x = (gTypes s0).1 := ⟨_, rfl⟩
  obtain ⟨s1, hs1⟩ : ∃ x, x = (gTypes s0).2 := ⟨_, rfl⟩
  rw [← hP1, ← hs1] at hT1 ⊢
  have hT2 := fun W h => hI W s1 h
  obtain ⟨P2, hP2⟩ : ∃ x, x = (gTypes s1).1 := ⟨_, rfl⟩
  obtain ⟨s2, hs2⟩ : ∃ x, x = (gTypes s1).2 := ⟨_, rfl⟩
  rw [← hP2, ← hs2] at hT2 ⊢
  obtain ⟨n1, l1, e1⟩ := gByte_nat s2
  obtain ⟨n2, l2, e2⟩ := gByte_nat (gByte s2).2
  have hB1 : ∀ W, FS W q g bs s2 → _ := fun W HW => fbyte_s q g bs s2 W HW
  have hG : gCode s2 = gMany gIns (n1 * 256 + n2) (gByte (gByte s2).2).2 := by unfold gCode; rw [e1, e2, Int.toNat_natCast, Int.toNat_natCast]
  rw [hG]
  rw [e1] at hB1
  generalize (gByte s2).2 = s3 at *
  have hB2 : ∀ W, FS W q g bs s3 → _ := fun W HW => fbyte_s q g bs s3 W HW
  rw [e2] at hB2
  generalize (gByte s3).2 = s4 at *
  have hNn : 256 * (n1 : Int) + (n2 : Int) = ((n1 * 256 + n2 : Nat) : Int) := by omega
  have hNl : n1 * 256 + n2 ≤ 65535 := by omega
  generalize n1 * 256 + n2 = N at hNn hNl ⊢
  clear hG e1 e2 hP0 hP1 hP2 hs0 hs1 hs2 hI
  have fin : ∀ (W : World) (B : Nat) (r0 r1 r2 r3 : Value) (L : List (Int × Int)) (st' : RSt), gMany gIns N s4 = (L, st') → FnSt w q g bs B W st' r0 r1 r2 r3 P0 P1 P2 L → FnEndF ⟨P0, P1, P2, (gMany gIns N s4).1⟩ q g bs (gMany gIns N s4).2 w (.returned (.agg #[r0, r1, r2, r3])) (set4 W w.heap.size r0 r1 r2 r3) := fun W B r0 r1 r2 r3 L st' e h => by
    rw [e]
    have hc := chg_set4 W w.heap.size r0 r1 r2 r3
    have key : ∀ {e : TypeId} {size n : Nat} {v : Value} {xs : List Value}, e ≠ 49 → W.ownsRow w.heap.size e size v n xs → (set4 W w.heap.size r0 r1 r2 r3).ownsRow w.heap.size e size v n xs := fun hne hr => set4k_row_other (o := 0) r0 r1 r2 r3 hr h.res hne
    exact ⟨⟨r0, r1, r2, r3, rfl, key (by decide) h.q0, key (by decide) h.q1, key (by decide) h.q2, key (by decide) h.q3⟩, h.fs.chg hc (by omega) (by omega), h.chg.trans hc fun i hi e => by omega⟩
  go_enter Tryz.func40, Tryz.ntmps40
  go_wp2_with fail
  rw [← hW0]
  clear hW0
  refine hT0.mono ?_
  clear hT0
  rintro e w1 ⟨⟨r0, rfl, q0⟩, F1, c1⟩
  have z1 := c1.size
  obtain ⟨x0, d0, rfl, _⟩ := row_form q0
  obtain ⟨B, hBe⟩ : ∃ B, B = w1.heap.size := ⟨_, rfl⟩
  have S1 : FnSt w q g bs B (w1.alloc (.cells #[.slice x0 P0.length d0, .slice none 0 0, .slice none 0 0, .slice none 0 0] 49)) s0 (.slice x0 P0.length d0) (.slice none 0 0) (.slice none 0 0) (.slice none 0 0) P0 [] [] [] := by
    rw [hBe]
    exact ⟨heap_alloc_new w1 _, World.ownsRow.alloc (row_lower q0 (by omega)) _, World.ownsRow_nil _ _ _ _, World.ownsRow_nil _ _ _ _, World.ownsRow_nil _ _ _ _, F1.chg (Chg.alloc w1 _ (fun _ => False)) id id, (hC0.trans c1 fun _ _ e => e).trans (Chg.alloc w1 _ _) fun _ _ e => e, by rw [Below.heap_alloc _ _ _ (by omega)]; exact (c1.block _ (lt_of_block b0) (by omega)).trans b0, by omega, hq, hg⟩
  have hU1 := hT1 _ S1.fs S1.chg.size
  clear hT1 F1 c1 q0
  go_wp2_with fail
  refine hU1.mono ?_
  clear hU1
  rintro e w2 ⟨⟨r1, rfl, q1⟩, F2, c2⟩
  have S2 := S1.call c2 F2
  have zS := S1.chg.size
  obtain ⟨x1, d1, rfl, _⟩ := row_form q1
  have S3 := S2.set1 (row_lower q1 zS)
  obtain ⟨⟨i0, i1, i2, i3⟩, iz⟩ := S2.cells
  have f1 := iz 1
  rw [← hBe] 
  clear S1 F2 c2 q1 hBe
  have hU2 := hT2 _ S3.fs S3.chg.size
  clear hT2
  go_wp2_with fail
  refine hU2.mono ?_
  clear hU2
  rintro e w4 ⟨⟨r2, rfl, q2⟩, F4, c4⟩
  have S4 := S3.call c4 F4
  have zS3 := S3.chg.size
  obtain ⟨x2, d2, rfl, _⟩ := row_form q2
  have S5 := S4.set2 (row_lower q2 zS3)
  obtain ⟨⟨m0, m1, m2, m3⟩, mz⟩ := S4.cells
  have g2 := mz 2
  clear S2 S3 F4 c4 q2 i0 i1 i2 i3 iz f1
  have hU3 := hB1 _ S5.fs
  clear hB1
  go_wp2_with fail
  refine hU3.mono ?_
  clear hU3
  rintro e w6 ⟨rfl, F6, c6⟩
  have S6 := S5.call c6 F6
  have hU4 := hB2 _ S6.fs
  clear hB2 S4 S5 m0 m1 m2 m3 mz g2 F6 c6
  go_wp2_with (go_at_call 38; refine hU4.mono ?_; clear hU4; rintro e w7 ⟨rfl, F7, c7⟩)
  have S7 := S6.call c7 F7
  obtain ⟨r0, hr0⟩ : ∃ r, r = Value.slice x0 P0.length d0 := ⟨_, rfl⟩
  obtain ⟨r1, hr1⟩ : ∃ r, r = Value.slice x1 P1.length d1 := ⟨_, rfl⟩
  obtain ⟨r2, hr2⟩ : ∃ r, r = Value.slice x2 P2.length d2 := ⟨_, rfl⟩
  rw [← hr0, ← hr1, ← hr2] at S7
  have e0 := hid hr0
  have e1 := hid hr1
  have e2 := hid hr2
  clear S6 F7 c7 hr0 hr1 hr2
  go_loopw [5] (fun i wr => ∃ (k : Nat) (L : List (Int × Int)) (s : RSt) (r3 : Value), k ≤ N ∧ i = .int .i64 k ∧ L.length = k ∧ Hid (gMany gIns N s4 = (L ++ (gMany gIns (N - k) s).1, (gMany gIns (N - k) s).2)) ∧ FnSt w q g bs B wr s r0 r1 r2 r3 P0 P1 P2 L) (fun i _ => N - (intOf i).toNat)
  case atStart => exact ⟨0, [], s4, .slice none 0 0, Nat.zero_le _, rfl, rfl, hid (by simp), S7⟩
  case round =>
    obtain ⟨k, L, s, r3, hk, rfl, hL, HM, S⟩ := hrel
    obtain ⟨ce, hqw⟩ := S.fs.cell
    by_cases hlt : k < N
    · by_cases herr : s.2 = 0
      · have HM' := hid (gMany_round hlt herr HM.out)
        rw [herr] at ce
        have hO := fbyte_s q g bs s wr S.fs
        have hTk := rtakes_s (gByte s).1
        have HV := hid (manyI_snoc' L (gIns s).1)
        have hsz := S.chg.size
        have hBw := lt_of_block S.blk
        have hB0 := S.hB
        have hrow0 := row_lt4 S.q3
        have hkr := S.q3
        rw [hL] at hkr
        clear HM
        by_cases t0 : takesN (gByte s).1 = 0
        · have hE : gIns s = (((gByte s).1, 0), (gByte s).2) := by unfold gIns; rw [if_pos t0]
          rw [hE] at HM' HV
          rw [t0] at hTk
          generalize (gByte s).1 = o at hO hTk HM' HV
          generalize (gByte s).2 = s8 at hO HM' HV
          clear hE t0
          go_wp2_with fail
          refine hO.mono ?_
          clear hO
          rintro e w8 ⟨rfl, F8, c8⟩
          have S8 := S.call c8 F8
          have z8 := c8.size
          have S9 := S8.alloc (.cells #[.int .i64 o, .int .i64 0] 74)
          have b9 := heap_alloc_new w8 (.cells #[.int .i64 o, .int .i64 0] 74)
          go_wp2_with fail
          refine (hTk _).mono ?_
          clear hTk
          rintro e w10 ⟨rfl, hb10⟩
          have S10 := S9.below hb10
          have z10 : w8.heap.size + 1 ≤ w10.heap.size := by have := hb10.size; simpa using this
          have b10 := (hb10.block _ (lt_of_block b9)).trans b9
          obtain ⟨p0, p1, p2, p3⟩ := cells2 b10
          obtain ⟨⟨c0, c1, c2, c3⟩, _⟩ := S10.cells
          have k10 := S10.q3
          rw [hL] at k10
          obtain ⟨xs, hxs⟩ : ∃ xs, xs = cellsI L := ⟨_, rfl⟩
          rw [← hxs] at k10 HV
          have HXS := hid hxs
          clear hxs
          have hBx : B < w8.heap.size := by omega
          have hBx' : ¬ B = w8.heap.size := by omega
          clear F8 c8 S8 S9 hb10
          go_wp2_with (first | (at_builtin; refine wpList_appN _ rfl _ _ 47 rfl elemN_ins w.heap.size _ k xs rfl (World.ownsRow.alloc k10 _) _ rfl 1 [Value.int .i64 o, .int .i64 0] (.inr ⟨⟨(w10).heap.size, 0, none⟩, 1, rfl, cells_new4 (w10) [Value.int .i64 o, .int .i64 0] 74 _ rfl⟩) rfl (by simp [Value.oneCell']) (by unfold maxLen; omega) (by omega) (by simp; omega) ?_; intro v' w12 hr12 hs12; obtain ⟨y12, t12, rfl, _⟩ := row_form hr12; have b12 := step_blk (World.ownsRow.alloc k10 _) hs12 (S10.alloc (.cells #[.int .i64 o, .int .i64 0] 74)).blk (by decide); have m3 : w12.cell? ⟨B, 3, none⟩ = some r3 := (by rw [Lib.cell_of_heap b12]; rfl); have g3 := Lib.frozen_of_heap b12 3))
          have S12 := (S10.alloc (.cells #[.int .i64 o, .int .i64 0] 74)).app hs12 (P := L ++ [(o, 0)]) (by rw [HV.out]; simpa [hL] using hr12)
          exact ⟨⟨k + 1, L ++ [(o, 0)], s8, _, by omega, by go_num, by simp [hL], HM', S12⟩, by simp [intOf]; omega⟩
        by_cases t1 : takesN (gByte s).1 = 1
        · have hE : gIns s = (((gByte s).1, (gInt (gByte s).2).1), (gInt (gByte s).2).2) := by unfold gIns; rw [if_neg t0, if_pos t1]
          rw [hE] at HM' HV
          rw [t1] at hTk
          generalize (gByte s).1 = o at hO hTk HM' HV
          generalize (gByte s).2 = s8 at hO HM' HV
          have hN8 : ∀ W, FS W q g bs s8 → _ := fun W HW => fint_s q g bs s8 W HW
          generalize (gInt s8).1 = a at hN8 HM' HV
          generalize (gInt s8).2 = s9 at hN8 HM' HV
          clear hE t0 t1
          go_wp2_with fail
          refine hO.mono ?_
          clear hO
          rintro e w8 ⟨rfl, F8, c8⟩
          have S8 := S.call c8 F8
          have z8 := c8.size
          have S9 := S8.alloc (.cells #[.int .i64 o, .int .i64 0] 74)
          have b9 := heap_alloc_new w8 (.cells #[.int .i64 o, .int .i64 0] 74)
          go_wp2_with fail
          refine (hTk _).mono ?_
          clear hTk
          rintro e w10 ⟨rfl, hb10⟩
          have S10 := S9.below hb10
          have z10 : w8.heap.size + 1 ≤ w10.heap.size := by have := hb10.size; simpa using this
          have b10 := (hb10.block _ (lt_of_block b9)).trans b9
          obtain ⟨p0, p1, p2, p3⟩ := cells2 b10
          obtain ⟨⟨c0, c1, c2, c3⟩, _⟩ := S10.cells
          have k10 := S10.q3
          rw [hL] at k10
          obtain ⟨xs, hxs⟩ : ∃ xs, xs = cellsI L := ⟨_, rfl⟩
          rw [← hxs] at k10 HV
          have HXS := hid hxs
          clear hxs
          have hBx : B < w8.heap.size := by omega
          have hBx' : ¬ B = w8.heap.size := by omega
          clear F8 c8 S8 S9 hb10
          have hN := hN8 _ S10.fs
          clear hN8
          go_wp2_with fail
          refine hN.mono ?_
          clear hN
          rintro e w11 ⟨rfl, F11, c11⟩
          have S11 := S10.call c11 F11
          have z11 := c11.size
          have hq0 := S10.hq
          have b11 := (c11.block _ (lt_of_block b10) (by omega)).trans b10
          obtain ⟨p0, p1, p2, p3⟩ := cells2 b11
          have S11' := S11.other (o := 1) (u := .int .i64 a) (by omega) (by omega) b11 (fun k e => by have := (hrow0 k e).2; omega)
          obtain ⟨⟨c0, c1, c2, c3⟩, _⟩ := S11'.cells
          have k11 := S11'.q3
          rw [hL] at k11
          have k11' : (w11.setCell ⟨w8.heap.size, 1, none⟩ (.int .i64 a)).ownsRow w.heap.size 74 2 r3 k xs := by rw [HXS.out]; exact k11
          obtain ⟨p4, p5, _, _⟩ := cells2 (set2_1 (u := .int .i64 a) b11)
          go_wp2_with (first | (at_builtin; refine wpList_appN _ rfl _ _ 47 rfl elemN_ins w.heap.size _ k xs rfl (World.ownsRow.alloc k11' _) _ rfl 1 [Value.int .i64 o, .int .i64 a] (.inr ⟨⟨w11.heap.size, 0, none⟩, 1, rfl, cells_new4 (w11.setCell ⟨w8.heap.size, 1, none⟩ (.int .i64 a)) [Value.int .i64 o, .int .i64 a] 74 w11.heap.size (World.setCell_size _ _ _)⟩) rfl (by simp [Value.oneCell']) (by unfold maxLen; omega) (by omega) (by simp; omega) ?_; intro v' w12 hr12 hs12; obtain ⟨y12, t12, rfl, _⟩ := row_form hr12; have b12 := step_blk (World.ownsRow.alloc k11' _) hs12 (S11'.alloc (.cells #[.int .i64 o, .int .i64 a] 74)).blk (by decide); have m3 : w12.cell? ⟨B, 3, none⟩ = some r3 := (by rw [Lib.cell_of_heap b12]; rfl); have g3 := Lib.frozen_of_heap b12 3))
          have S12 := (S11'.alloc (.cells #[.int .i64 o, .int .i64 a] 74)).app hs12 (P := L ++ [(o, a)]) (by rw [HV.out]; simpa [hL] using hr12)
          exact ⟨⟨k + 1, L ++ [(o, a)], s9, _, by omega, by go_num, by simp [hL], HM', S12⟩, by simp [intOf]; omega⟩
        · have hE : gIns s = (((gByte s).1, (gByte (gByte s).2).1), (gByte (gByte s).2).2) := by unfold gIns; rw [if_neg t0, if_neg t1]
          rw [hE] at HM' HV
          have n0 : (takesN (gByte s).1 == 0) = false := by simp [t0]
          have n1 : (takesN (gByte s).1 == 1) = false := by simp [t1]
          generalize takesN (gByte s).1 = tk at hTk n0 n1 t0 t1
          generalize (gByte s).1 = o at hO hTk HM' HV
          generalize (gByte s).2 = s8 at hO HM' HV
          have hN8 : ∀ W, FS W q g bs s8 → _ := fun W HW => fbyte_s q g bs s8 W HW
          generalize (gByte s8).1 = a at hN8 HM' HV
          generalize (gByte s8).2 = s9 at hN8 HM' HV
          clear hE t0 t1
          go_wp2_with fail
          refine hO.mono ?_
          clear hO
          rintro e w8 ⟨rfl, F8, c8⟩
          have S8 := S.call c8 F8
          have z8 := c8.size
          have S9 := S8.alloc (.cells #[.int .i64 o, .int .i64 0] 74)
          have b9 := heap_alloc_new w8 (.cells #[.int .i64 o, .int .i64 0] 74)
          go_wp2_with fail
          refine (hTk _).mono ?_
          clear hTk
          rintro e w10 ⟨rfl, hb10⟩
          have S10 := S9.below hb10
          have z10 : w8.heap.size + 1 ≤ w10.heap.size := by have := hb10.size; simpa using this
          have b10 := (hb10.block _ (lt_of_block b9)).trans b9
          obtain ⟨p0, p1, p2, p3⟩ := cells2 b10
          obtain ⟨⟨c0, c1, c2, c3⟩, _⟩ := S10.cells
          have k10 := S10.q3
          rw [hL] at k10
          obtain ⟨xs, hxs⟩ : ∃ xs, xs = cellsI L := ⟨_, rfl⟩
          rw [← hxs] at k10 HV
          have HXS := hid hxs
          clear hxs
          have hBx : B < w8.heap.size := by omega
          have hBx' : ¬ B = w8.heap.size := by omega
          clear F8 c8 S8 S9 hb10
          have hN := hN8 _ S10.fs
          clear hN8
          go_wp2_with fail
          refine hN.mono ?_
          clear hN
          rintro e w11 ⟨rfl, F11, c11⟩
          have S11 := S10.call c11 F11
          have z11 := c11.size
          have hq0 := S10.hq
          have b11 := (c11.block _ (lt_of_block b10) (by omega)).trans b10
          obtain ⟨p0, p1, p2, p3⟩ := cells2 b11
          have S11' := S11.other (o := 1) (u := .int .i64 a) (by omega) (by omega) b11 (fun k e => by have := (hrow0 k e).2; omega)
          obtain ⟨⟨c0, c1, c2, c3⟩, _⟩ := S11'.cells
          have k11 := S11'.q3
          rw [hL] at k11
          have k11' : (w11.setCell ⟨w8.heap.size, 1, none⟩ (.int .i64 a)).ownsRow w.heap.size 74 2 r3 k xs := by rw [HXS.out]; exact k11
          obtain ⟨p4, p5, _, _⟩ := cells2 (set2_1 (u := .int .i64 a) b11)
          go_wp2_with (first | (at_builtin; refine wpList_appN _ rfl _ _ 47 rfl elemN_ins w.heap.size _ k xs rfl (World.ownsRow.alloc k11' _) _ rfl 1 [Value.int .i64 o, .int .i64 a] (.inr ⟨⟨w11.heap.size, 0, none⟩, 1, rfl, cells_new4 (w11.setCell ⟨w8.heap.size, 1, none⟩ (.int .i64 a)) [Value.int .i64 o, .int .i64 a] 74 w11.heap.size (World.setCell_size _ _ _)⟩) rfl (by simp [Value.oneCell']) (by unfold maxLen; omega) (by omega) (by simp; omega) ?_; intro v' w12 hr12 hs12; obtain ⟨y12, t12, rfl, _⟩ := row_form hr12; have b12 := step_blk (World.ownsRow.alloc k11' _) hs12 (S11'.alloc (.cells #[.int .i64 o, .int .i64 a] 74)).blk (by decide); have m3 : w12.cell? ⟨B, 3, none⟩ = some r3 := (by rw [Lib.cell_of_heap b12]; rfl); have g3 := Lib.frozen_of_heap b12 3))
          have S12 := (S11'.alloc (.cells #[.int .i64 o, .int .i64 a] 74)).app hs12 (P := L ++ [(o, a)]) (by rw [HV.out]; simpa [hL] using hr12)
          exact ⟨⟨k + 1, L ++ [(o, a)], s9, _, by omega, by go_num, by simp [hL], HM', S12⟩, by simp [intOf]; omega⟩
      · have hne : (s.2 == 0) = false := by simp [herr]
        have hE := gMany_end (.inr herr) HM.out
        have hF := fin wr B r0 r1 r2 r3 L s hE S
        clear HM fin hE
        generalize s.2 = er at ce hne
        obtain ⟨⟨c0, c1, c2, c3⟩, _⟩ := S.cells
        obtain ⟨x3, d3, rfl, _⟩ := row_form S.q3
        rw [e0.out] at c0
        rw [e1.out] at c1
        rw [e2.out] at c2
        rw [e0.out, e1.out, e2.out, hL] at hF
        rw [hL] at c3
        have b7 := S.res
        have y0 : wr.cell? ⟨w.heap.size, 0, none⟩ = some (.slice none 0 0) := by rw [Lib.cell_of_heap b7]; rfl
        have y1 : wr.cell? ⟨w.heap.size, 1, none⟩ = some (.slice none 0 0) := by rw [Lib.cell_of_heap b7]; rfl
        have y2 : wr.cell? ⟨w.heap.size, 2, none⟩ = some (.slice none 0 0) := by rw [Lib.cell_of_heap b7]; rfl
        have y3 : wr.cell? ⟨w.heap.size, 3, none⟩ = some (.slice none 0 0) := by rw [Lib.cell_of_heap b7]; rfl
        have o0 := Lib.frozen_of_heap b7 0
        have o1 := Lib.frozen_of_heap b7 1
        have o2 := Lib.frozen_of_heap b7 2
        have o3 := Lib.frozen_of_heap b7 3
        obtain ⟨j0, j1, j2, j3⟩ := set4_cells (.slice x0 P0.length d0) (.slice x1 P1.length d1) (.slice x2 P2.length d2) (.slice x3 k d3) y0 y1 y2 y3
        go_wp2_with fail
        rw [show ((((wr.setCell ⟨w.heap.size, 0, none⟩ (.slice x0 P0.length d0)).setCell ⟨w.heap.size, 1, none⟩ (.slice x1 P1.length d1)).setCell ⟨w.heap.size, 2, none⟩ (.slice x2 P2.length d2)).setCell ⟨w.heap.size, 3, none⟩ (.slice x3 k d3)) = set4 wr w.heap.size (.slice x0 P0.length d0) (.slice x1 P1.length d1) (.slice x2 P2.length d2) (.slice x3 k d3) from rfl]
        generalize set4 wr w.heap.size (.slice x0 P0.length d0) (.slice x1 P1.length d1) (.slice x2 P2.length d2) (.slice x3 k d3) = W9 at j0 j1 j2 j3 hF ⊢
        exact bodyPost_ret (results_cell1 rfl _ _ _ _ _ rfl (load_fn j0 j1 j2 j3)) rfl hF
    · obtain rfl : k = N := by omega
      have hE := gMany_end (.inl rfl) HM.out
      have hF := fin wr B r0 r1 r2 r3 L s hE S
      clear HM fin hE
      obtain ⟨⟨c0, c1, c2, c3⟩, _⟩ := S.cells
      obtain ⟨x3, d3, rfl, _⟩ := row_form S.q3
      rw [e0.out] at c0
      rw [e1.out] at c1
      rw [e2.out] at c2
      rw [e0.out, e1.out, e2.out, hL] at hF
      rw [hL] at c3
      have b7 := S.res
      have y0 : wr.cell? ⟨w.heap.size, 0, none⟩ = some (.slice none 0 0) := by rw [Lib.cell_of_heap b7]; rfl
      have y1 : wr.cell? ⟨w.heap.size, 1, none⟩ = some (.slice none 0 0) := by rw [Lib.cell_of_heap b7]; rfl
      have y2 : wr.cell? ⟨w.heap.size, 2, none⟩ = some (.slice none 0 0) := by rw [Lib.cell_of_heap b7]; rfl
      have y3 : wr.cell? ⟨w.heap.size, 3, none⟩ = some (.slice none 0 0) := by rw [Lib.cell_of_heap b7]; rfl
      have o0 := Lib.frozen_of_heap b7 0
      have o1 := Lib.frozen_of_heap b7 1
      have o2 := Lib.frozen_of_heap b7 2
      have o3 := Lib.frozen_of_heap b7 3
      obtain ⟨j0, j1, j2, j3⟩ := set4_cells (.slice x0 P0.length d0) (.slice x1 P1.length d1) (.slice x2 P2.length d2) (.slice x3 k d3) y0 y1 y2 y3
      go_wp2_with fail
      rw [show ((((wr.setCell ⟨w.heap.size, 0, none⟩ (.slice x0 P0.length d0)).setCell ⟨w.heap.size, 1, none⟩ (.slice x1 P1.length d1)).setCell ⟨w.heap.size, 2, none⟩ (.slice x2 P2.length d2)).setCell ⟨w.heap.size, 3, none⟩ (.slice x3 k d3)) = set4 wr w.heap.size (.slice x0 P0.length d0) (.slice x1 P1.length d1) (.slice x2 P2.length d2) (.slice x3 k d3) from rfl]
      generalize set4 wr w.heap.size (.slice x0 P0.length d0) (.slice x1 P1.length d1) (.slice x2 P2.length d2) (.slice x3 k d3) = W9 at j0 j1 j2 j3 hF ⊢
      exact bodyPost_ret (results_cell1 rfl _ _ _ _ _ rfl (load_fn j0 j1 j2 j3)) rfl hF
end Go.Proofs.YtpmlnkjamhelnaaGreat
namespace Go.Proofs.YtpmlnkjamhelnaaGreat
open Go.RowKit
theorem fdone_s (q g : Nat) (bs : List UInt8) (s : RSt) (w : World) (H : FS w q g bs s) : Calls Tryz.prog 41 #[.pointer (some ⟨q, 0, none⟩)] w fun e w' => e = .returned (.int .i64 (doneOf s.1 s.2)) ∧ Below w.heap.size w w' := by
  obtain ⟨k, h, e⟩ := H
  refine (fdone_q q g bs k s.2 w h).mono ?_
  rw [← e]
  rintro _ w' ⟨rfl, m, rfl⟩
  exact ⟨rfl, below_draws2 (Below.refl _ _) m⟩
theorem gInt_i64 (s : RSt) : -9223372036854775808 ≤ (gInt s).1 ∧ (gInt s).1 ≤ 9223372036854775807 := by
  unfold gInt ansInt
  simp only
  split
  · omega
  split
  · omega
  · have := num_lt (s.1.take 8)
    unfold toInt
    split <;> omega
theorem gIns_i64 (s : RSt) : -9223372036854775808 ≤ (gIns s).1.2 ∧ (gIns s).1.2 ≤ 9223372036854775807 := by
  unfold gIns
  split
  · simp only; omega
  split
  · exact gInt_i64 _
  · obtain ⟨n, hn, e⟩ := gByte_nat (gByte s).2
    simp only [e]
    omega
theorem gScr_i64 (s : RSt) : ∀ f ∈ (gScr s).1.funcs, ∀ x ∈ f.code, -9223372036854775808 ≤ x.2 ∧ x.2 ≤ 9223372036854775807 := gMany_all (P := fun f : Fn => ∀ x ∈ f.code, -9223372036854775808 ≤ x.2 ∧ x.2 ≤ 9223372036854775807) (fun _ => gMany_all (P := fun x : Int × Int => -9223372036854775808 ≤ x.2 ∧ x.2 ≤ 9223372036854775807) gIns_i64 _ _) _ _
theorem getf_step {w6 w2 wr : World} {h k B : Nat} {v v' : Value} {xs : List Value} {L : List Fn} {f : Fn} {u0 u1 u2 u3 : Value} {o : Obj} (hh : h ≤ B) (hz : B + 1 ≤ wr.heap.size) (hrow : wr.ownsRow (B + 1) 49 4 v k xs) (hF : FRow (offRow wr v B) L xs) (hc2 : Chg wr w2 (fun k => k = h)) (hO : FnOwn w2 wr.heap.size f u0 u1 u2 u3) (hs : Step (w2.alloc o) v w6 v') : FRow (offRow w6 v' B) (L ++ [f]) (xs ++ [u0, u1, u2, u3]) := by
  have h1 : FRow (offRow w2 v B) (L ++ [f]) (xs ++ [u0, u1, u2, u3]) := (hF.keep (offRow_chg hc2 hh)).snoc (hO.is (offRow_new (fun k e => (row_lt4 hrow k e).2) (by omega)))
  exact (h1.keep (offRow_keep fun a x e => alloc_keep _ _ _ _ e)).keep (offRow_step hs)
/-- What the document's Get has: the lists so far, in its box. -/
structure GetSt (w : World) (q g : Nat) (bs : List UInt8) (B : Nat) (W : World) (st : RSt) (c0 c1 : Value) (P0 : List (List UInt8)) (P1 : List Fn) (xs : List Value) : Prop where
  blk : W.heap[B]? = some (.cells #[c0, c1] 27 (0, 0))
  q0 : W.ownsRow (B + 1) 9 1 c0 P0.length (cellsS P0)
  q1 : W.ownsRow (B + 1) 49 4 c1 P1.length xs
  fr : FRow (offRow W c1 B) P1 xs
  fs : FS W q g bs st
  below : Below w.heap.size w W
  res : W.heap[w.heap.size]? = some (.cells #[.slice none 0 0, .slice none 0 0] 27 (0, 0))
  hB : w.heap.size < B
  hq : w.heap.size < q ∧ q < B
  hg : g < B
section
variable {w : World} {q g : Nat} {bs : List UInt8} {B : Nat} {W : World} {st : RSt} {c0 c1 : Value} {P0 : List (List UInt8)} {P1 : List Fn} {xs : List Value}
theorem GetSt.size (h : GetSt w q g bs B W st c0 c1 P0 P1 xs) : B + 1 ≤ W.heap.size := lt_of_block h.blk
theorem GetSt.cells (h : GetSt w q g bs B W st c0 c1 P0 P1 xs) : W.cell? ⟨B, 0, none⟩ = some c0 ∧ W.cell? ⟨B, 1, none⟩ = some c1 ∧ W.frozen? ⟨B, 0, none⟩ = false ∧ W.frozen? ⟨B, 1, none⟩ = false := cells2 h.blk
theorem GetSt.call {W' : World} {st' : RSt} (h : GetSt w q g bs B W st c0 c1 P0 P1 xs) (hc : Chg W W' (fun k => k = q)) (hf : FS W' q g bs st') : GetSt w q g bs B W' st' c0 c1 P0 P1 xs := by
  have h1 := h.hq
  have key : ∀ {e : TypeId} {size n : Nat} {v : Value} {ys : List Value}, W.ownsRow (B + 1) e size v n ys → W'.ownsRow (B + 1) e size v n ys := fun hr => row_chg4 hr hc fun b hb e => by have := (row_lt4 hr b hb).1; omega
  exact ⟨(hc.block _ (lt_of_block h.blk) (by omega)).trans h.blk, key h.q0, key h.q1, h.fr.keep (offRow_chg hc (by omega)), hf, h.below.trans (hc.below h.below.size (fun i (e : i = q) => by omega)), (hc.block _ (lt_of_block h.res) (by omega)).trans h.res, h.hB, h.hq, h.hg⟩
theorem GetSt.alloc (h : GetSt w q g bs B W st c0 c1 P0 P1 xs) (o : Obj) : GetSt w q g bs B (W.alloc o) st c0 c1 P0 P1 xs := h.call (Chg.alloc W o _) (h.fs.chg (Chg.alloc W o (fun _ => False)) id id)
theorem GetSt.drew (h : GetSt w q g bs B W st c0 c1 P0 P1 xs) : GetSt w q g bs B W.drew st c0 c1 P0 P1 xs := h.call (Chg.drew W _) (h.fs.chg (Chg.drew W (fun _ => False)) id id)
theorem GetSt.app0 {W' : World} {v' : Value} {P : List (List UInt8)} (h : GetSt w q g bs B W st c0 c1 P0 P1 xs) (hs : Step W c0 W' v') (hr : W'.ownsRow (B + 1) 9 1 v' P.length (cellsS P)) (h2 : P1 = []) : GetSt w q g bs B (W'.setCell ⟨B, 0, none⟩ v') st v' c1 P P1 xs := by
  have hc := Chg.of_grown hs.1
  have hlt := row_lt4 h.q0
  have e1 := h.hq
  have e2 := h.hg
  have e3 := h.hB
  have b' := step_blk h.q0 hs h.blk (by decide)
  have hc2 := Chg.setCell W' ⟨B, 0, none⟩ v'
  have r' := step_blk h.q0 hs h.res (by decide)
  refine ⟨set2_0 b', row_set_other hr b' (by decide), row_set_other (step_row h.q0 hs h.q1 (by decide)) b' (by decide), ?_, (h.fs.chg hc (fun e => ?_) (fun e => ?_)).chg hc2 (by show ¬ q = B; omega) (by show ¬ g = B; omega), (h.below.trans (hc.below h.below.size fun i e => ?_)).setCell (p := ⟨B, 0, none⟩) (by show w.heap.size ≤ B; omega) _, (hc2.block _ (lt_of_block r') (by show ¬ w.heap.size = B; omega)).trans r', h.hB, h.hq, h.hg⟩
  · subst h2
    have := h.fr.1
    obtain rfl : xs = [] := List.eq_nil_of_length_eq_zero (by simpa using this)
    exact FRow.nil _
  all_goals (have := (hlt _ e).1; omega)
theorem GetSt.app1 {W' : World} {v' : Value} {P : List Fn} {ys : List Value} (h : GetSt w q g bs B W st c0 c1 P0 P1 xs) (hs : Step W c1 W' v') (hr : W'.ownsRow (B + 1) 49 4 v' P.length ys) (hf : FRow (offRow W' v' B) P ys) : GetSt w q g bs B (W'.setCell ⟨B, 1, none⟩ v') st c0 v' P0 P ys := by
  have hc := Chg.of_grown hs.1
  have hlt := row_lt4 h.q1
  have e1 := h.hq
  have e2 := h.hg
  have e3 := h.hB
  have b' := step_blk h.q1 hs h.blk (by decide)
  have hc2 := Chg.setCell W' ⟨B, 1, none⟩ v'
  have r' := step_blk h.q1 hs h.res (by decide)
  refine ⟨set2_1 b', row_set_other (step_row h.q1 hs h.q0 (by decide)) b' (by decide), row_set_other hr b' (by decide), hf.keep (offRow_set (Nat.le_refl _)), (h.fs.chg hc (fun e => ?_) (fun e => ?_)).chg hc2 (by show ¬ q = B; omega) (by show ¬ g = B; omega), (h.below.trans (hc.below h.below.size fun i e => ?_)).setCell (p := ⟨B, 1, none⟩) (by show w.heap.size ≤ B; omega) _, (hc2.block _ (lt_of_block r') (by show ¬ w.heap.size = B; omega)).trans r', h.hB, h.hq, h.hg⟩
  all_goals (have := (hlt _ e).1; omega)
theorem GetSt.is (h : GetSt w q g bs B W st c0 c1 P0 P1 xs) : ScIs (upFrom W (B + 1)) ⟨P0, P1⟩ c0 c1 := by
  obtain ⟨a, c, e, hS⟩ := ss_up h.q0
  obtain ⟨hn, a', c', e', _, hF⟩ := fs_of_row' (C := upFrom W (B + 1)) h.q1 (h.fr.keep offRow_up) (fun a x hb e => upFrom_at hb e)
  exact ⟨⟨a, c, e, hS⟩, ⟨a', c', e', hF⟩⟩
end
end Go.Proofs.YtpmlnkjamhelnaaGreat
