/- shape.Around. -/
import Derived.Test.YtnlcokcpcfbdaaaSN
namespace Go.Proofs.Ytnlcokcpcfbdaaa
open Go.RowKit
/-- The places noted ahead of place k. -/
def arS (cs : List (Int × Int)) (x : Int) (k : Nat) : List Int := if 0 ≤ x ∧ x < k then (mst cs x.toNat).1.map Blk.s else []
set_option maxRecDepth 100000 in
set_option maxHeartbeats 1000000 in
theorem around1_any {p q tB k : Nat} {x : Int} {L : List Blk} {ns : List Int} {a a' : Option Addr} {cap cap' : Nat} (W : World) (hS : Stk (p + 1) p L a cap W) (hl : L.length ≤ 8) (hP : Pls q ns a' cap' W) (hn : (k : Int) = x → ns.length ≤ 1000) (ht : W.cell? ⟨tB, 0, none⟩ = some (.int .i64 x)) :
    Calls Try.prog 32 #[.int .i64 k, .pointer (some ⟨p, 0, none⟩), .pointer (some ⟨tB, 0, none⟩), .pointer (some ⟨q, 0, none⟩)] W (PlsEnd q (if (k : Int) = x then ns ++ L.map Blk.s else ns) W) := by
  by_cases hx : (k : Int) = x
  · subst hx
    have hE := each_any W hS hl hP (hn rfl)
    rw [if_pos rfl]
    clear hS hP
    go_enter Try.func32, Try.ntmps32
    go_wp2_with (first | (go_at_call 33; refine hE.mono ?_; rintro e w2 ⟨rfl, h2⟩) | fail)
    go_end0
    exact ⟨rfl, h2⟩
  · rw [if_neg hx]
    have HP := hid6 hP
    clear hS hP
    go_enter Try.func32, Try.ntmps32
    go_wp2_with fail
    go_end0
    exact ⟨rfl, ⟨_, _, HP.out⟩, Below.refl _ _, MvP.refl _⟩
/-- What holds while Around walks. -/
structure AJ (cs : List (Int × Int)) (x : Int) (cb co tB q B : Nat) (w0 : World) (k : Nat) (W : World) : Prop where
  t : W.cell? ⟨tB, 0, none⟩ = some (.int .i64 x)
  p : ∃ a cap, Pls q (arS cs x k) a cap W
  a : ∀ j (h : j < cs.length), W.cell? ⟨cb, co + j * 2, none⟩ = some (.int .i64 cs[j].1) ∧ W.cell? ⟨cb, co + j * 2 + 1, none⟩ = some (.int .i64 cs[j].2)
  b : Below B w0 W
theorem Pls.mv {q : Nat} {ns : List Int} {a : Option Addr} {cap : Nat} {W W' : World} (h : Pls q ns a cap W) (m : Mv W W') : Pls q ns a cap W' := by
  refine ⟨m.2 _ _ _ _ (by decide) (by decide) h.box, h.row.1, ?_⟩
  rcases h.row.2 with h2 | ⟨g, c, cur, e, hg, hh, r⟩
  · exact .inl h2
  · exact .inr ⟨g, c, cur, e, hg, m.2 _ _ _ _ (by decide) (by decide) hh, r⟩
theorem arS_next (cs : List (Int × Int)) (x : Int) (k : Nat) : arS cs x (k + 1) = if (k : Int) = x then arS cs x k ++ (mst cs k).1.map Blk.s else arS cs x k := by
  unfold arS
  split
  · rename_i h
    split
    · rename_i e
      subst e
      rw [if_neg (by omega)]
      simp
    · rw [if_pos (by omega)]
  · rename_i h
    rw [if_neg (by omega), if_neg (by omega)]
theorem awalk (cs : List (Int × Int)) (x : Int) (ca : Option Addr) (cc cb co tB q B : Nat) (w0 W : World) (hca : cs = [] ∨ ca = some ⟨cb, co, none⟩) (hn : cs.length ≤ 1000000000) (hcb : 0 < cs.length → cb < B) (hBt : B ≤ tB) (htq : tB < q) (hqW : q < W.heap.size) (h0 : AJ cs x cb co tB q B w0 0 W) :
    Calls Try.prog 22 #[.slice ca cs.length cc, .func (.func 32) #[] #[.pointer (some ⟨tB, 0, none⟩), .pointer (some ⟨q, 0, none⟩)]] W (WalkEnd cs (AJ cs x cb co tB q B w0)) := by
  refine walk_any cs ca cc cb co hca hn W (AJ cs x cb co tB q B w0) (fun _ _ h => h.a) ?_ 32 _ (Go.Proofs.enters_of Try.func32 (by kernel_rfl) rfl) ?_ h0
  · intro k w1 w2 h mv bl
    obtain ⟨a', cap', hp⟩ := h.p
    refine ⟨(bl.cell (by show tB < _; omega)).trans h.t, ⟨a', cap', hp.mv mv⟩, fun j hj => ?_, h.b.trans (bl.mono (by omega))⟩
    have := hcb (by omega)
    obtain ⟨a0, a1⟩ := h.a j hj
    exact ⟨(bl.cell (by show cb < _; omega)).trans a0, (bl.cell (by show cb < _; omega)).trans a1⟩
  · intro k hk p L a cap w1 hp hrun hst hl8 hS hJ
    obtain ⟨i1, _, _⟩ := mst_inv cs k L (by omega) hrun
    have hcb' := hcb (by omega)
    obtain ⟨a', cap', hP⟩ := hJ.p
    refine (around1_any w1 hS hl8 hP (fun e => by unfold arS; rw [if_neg (by omega)]; simp) hJ.t).mono ?_
    rintro e w2 ⟨rfl, hP2, hb2, hm2⟩
    refine ⟨rfl, ⟨a, cap, hS.mvp hm2⟩, ⟨(hb2.cell (by show tB < _; omega)).trans hJ.t, ?_, fun j hj => ?_, hJ.b.trans (hb2.mono (by omega))⟩, hm2.1, fun q2 cur z hq => hm2.2 _ _ _ _ (by decide) (by decide) hq⟩
    · rw [arS_next, i1]
      exact hP2
    · obtain ⟨a0, a1⟩ := hJ.a j hj
      exact ⟨(hb2.cell (by show cb < _; omega)).trans a0, (hb2.cell (by show cb < _; omega)).trans a1⟩
def AroundEnd (cs : List (Int × Int)) (x : Int) (w : World) (e : Ending) (w' : World) : Prop :=
  ∃ a c, e = .returned (.slice a (if goodS cs = true then arS cs x cs.length else []).length c) ∧ NsAt w'.cell? a (if goodS cs = true then arS cs x cs.length else []) ∧ Below w.heap.size w w'
set_option maxRecDepth 100000 in
set_option maxHeartbeats 1000000 in
theorem around_any (cs : List (Int × Int)) (x : Int) (ca : Option Addr) (cc cb co : Nat) (hca : cs = [] ∨ ca = some ⟨cb, co, none⟩) (hn : cs.length ≤ 1000000000) (w : World)
    (hc : ∀ j (h : j < cs.length), w.cell? ⟨cb, co + j * 2, none⟩ = some (.int .i64 cs[j].1) ∧ w.cell? ⟨cb, co + j * 2 + 1, none⟩ = some (.int .i64 cs[j].2)) :
    Calls Try.prog 17 #[.slice ca cs.length cc, .int .i64 x] w (AroundEnd cs x w) := by
  have hcb : 0 < cs.length → cb < w.heap.size := fun h0 => World.block_lt_of_cell? w _ (hc 0 h0).1
  have b1 := (Below.refl _ w).alloc (Nat.le_refl _) (.cells #[.int .i64 x] 3)
  have b2 := b1.alloc b1.size (.cells #[.slice none 0 0] 25)
  have hx1 : ((w.alloc (.cells #[.int .i64 x] 3)).alloc (.cells #[.slice none 0 0] 25)).heap[w.heap.size]? = some (.cells #[.int .i64 x] 3 (0, 0)) := by
    rw [((Below.refl _ (w.alloc (.cells #[.int .i64 x] 3))).alloc (Nat.le_refl _) (.cells #[.slice none 0 0] 25)).block _ (by simp)]
    exact heap_alloc_new w _
  have hx2 := heap_alloc_new (w.alloc (.cells #[.int .i64 x] 3)) (.cells #[.slice none 0 0] 25)
  rw [World.size_alloc] at hx2
  have har : arS cs x 0 = [] := by unfold arS; rw [if_neg (by omega)]
  have hW := awalk cs x ca cc cb co w.heap.size (w.heap.size + 1) w.heap.size w ((w.alloc (.cells #[.int .i64 x] 3)).alloc (.cells #[.slice none 0 0] 25)) hca hn hcb (Nat.le_refl _) (Nat.lt_succ_self _) (by simp) ⟨(one_cell hx1).1, ⟨none, 0, by rw [har]; exact ⟨hx2, World.ownsRow_nil _ _ _ _⟩⟩, fun j hj => by
    have hl := hcb (by omega)
    obtain ⟨a0, a1⟩ := hc j hj
    exact ⟨(b2.cell hl).trans a0, (b2.cell hl).trans a1⟩, b2⟩
  generalize hl : cs.length = n at hW hn ⊢
  have HL := hid6 hl
  clear hc hca hcb hl b1 b2 hx1 hx2 har
  cases hgd : goodS cs with
  | false =>
    have HF : Hid (decide (runS (opsI cs) 0 [] = some []) = false) := hid6 hgd
    have HM : Hid (∀ w', Below w.heap.size w w' → AroundEnd cs x w (.returned (.slice none 0 0)) w') := hid6 fun w' hb => ⟨none, 0, by rw [hgd]; rfl, by rw [hgd]; exact .inl rfl, hb⟩
    clear hgd
    go_enter Try.func17, Try.ntmps17
    go_wp2_with (first
      | (go_at_call 22; refine hW.mono ?_; rintro e w3 ⟨he, k, hJ, _⟩; rw [HF.out] at he; subst he)
      | fail)
    go_ret
    exact HM.out _ hJ.b
  | true =>
    have HF : Hid (decide (runS (opsI cs) 0 [] = some []) = true) := hid6 hgd
    have HM : Hid (∀ w' a c, Pls (w.heap.size + 1) (arS cs x cs.length) a c w' → Below w.heap.size w w' → AroundEnd cs x w (.returned (.slice a (arS cs x cs.length).length c)) w') := hid6 fun w' a c hP hb => by
      obtain ⟨_, a2, c2, e2, _, hN⟩ := ns_of_row hP.row (C := w'.cell?) (fun a v _ h => h)
      cases e2
      exact ⟨a, c, by rw [hgd]; rfl, by rw [hgd]; exact hN, hb⟩
    clear hgd
    go_enter Try.func17, Try.ntmps17
    go_wp2_with (first
      | (go_at_call 22; refine hW.mono ?_; rintro e w3 ⟨he, k, hJ, hk⟩; rw [HF.out] at he; subst he; have hk2 := hk (of_decide_eq_true HF.out); subst hk2; obtain ⟨a', cap', hP⟩ := hJ.p; obtain ⟨c3, _⟩ := one_cell hP.box; have HP := hid6 hP; clear hP)
      | fail)
    go_ret
    exact HM.out _ _ _ HP.out hJ.b
end Go.Proofs.Ytnlcokcpcfbdaaa
