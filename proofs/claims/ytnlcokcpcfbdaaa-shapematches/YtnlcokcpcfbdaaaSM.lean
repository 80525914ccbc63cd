/- shape.Depth. -/
import Derived.Test.YtnlcokcpcfbdaaaSK
import Derived.Test.YtnlcokcpcfbdaaaSC
namespace Go.Proofs.Ytnlcokcpcfbdaaa
open Go.RowKit
/-- How many blocks were open at most, ahead of the places below k. -/
def dep (cs : List (Int × Int)) : Nat → Nat
  | 0 => 0
  | k + 1 => max (dep cs k) (mst cs k).1.length
set_option maxRecDepth 100000 in
set_option maxHeartbeats 1000000 in
theorem deeper_any {p q d : Nat} {L : List Blk} {a : Option Addr} {cap : Nat} (x : Value) (W : World) (hS : Stk (p + 1) p L a cap W) (hq : NumBlk q [(d : Int)] W) (hqp : q < p) :
    Calls Try.prog 30 #[x, .pointer (some ⟨p, 0, none⟩), .pointer (some ⟨q, 0, none⟩)] W fun e w' => e = .returned (.tuple #[]) ∧ Stk (p + 1) p L a cap w' ∧ NumBlk q [((max d L.length : Nat) : Int)] w' ∧ Only q W w' := by
  have hSz := size6_any W.drew (hS.keep (Below.refl _ W).drew)
  obtain ⟨c0, z0⟩ := hq.at 0 (by simp)
  simp only [List.getElem_cons_zero] at c0
  obtain ⟨k, hk⟩ : ∃ k, k = L.length := ⟨_, rfl⟩
  rw [← hk] at hSz ⊢
  have HS := hid6 hS
  have HQ : Hid (∀ v : Int, NumBlk q [v] (W.setCell ⟨q, 0, none⟩ (.int .i64 v))) := hid6 fun v => hq.set 0 v
  clear hS hq hk
  go_enter Try.func30, Try.ntmps30
  go_wp2_with fail
  go_region_law (refine step_call2 (by rfl) 31 _ _ (by rfl) (Go.Proofs.enters_of Try.func31 (by kernel_rfl) rfl) #[.pointer (some ⟨p, 0, none⟩)] (by rfl) _ hSz ?_; rintro e w2 ⟨rfl, e2⟩; subst e2; refine ⟨_, rfl, ?_⟩; clear hSz)
  all_goals
    go_wp2_with fail
  all_goals
    go_end0
    exact ⟨rfl, HS.out.only ((Only.set q 0 _ _).trans (Only.below (Below.refl _ _).drew)) hqp, by first | (rw [show ((max d k : Nat) : Int) = (k : Int) by omega]; exact HQ.out _) | (rw [show ((max d k : Nat) : Int) = (d : Int) by omega]; exact HQ.out _), (Only.set q 0 _ _).trans (Only.below (Below.refl _ _).drew)⟩
/-- What holds while Depth walks. -/
structure DJ (cs : List (Int × Int)) (cb co q B : Nat) (w0 : World) (k : Nat) (W : World) : Prop where
  n : NumBlk q [((dep cs k : Nat) : Int)] W
  a : ∀ j (h : j < cs.length), W.cell? ⟨cb, co + j * 2, none⟩ = some (.int .i64 cs[j].1) ∧ W.cell? ⟨cb, co + j * 2 + 1, none⟩ = some (.int .i64 cs[j].2)
  b : Below B w0 W
theorem dwalk (cs : List (Int × Int)) (ca : Option Addr) (cc cb co q B : Nat) (w0 W : World) (hca : cs = [] ∨ ca = some ⟨cb, co, none⟩) (hn : cs.length ≤ 1000000000) (hcb : 0 < cs.length → cb < B) (hBq : B ≤ q) (hBW : B ≤ W.heap.size) (h0 : DJ cs cb co q B w0 0 W) :
    Calls Try.prog 22 #[.slice ca cs.length cc, .func (.func 30) #[] #[.pointer (some ⟨q, 0, none⟩)]] W (WalkEnd cs (DJ cs cb co q B w0)) := by
  refine walk_any cs ca cc cb co hca hn W (DJ cs cb co q B w0) (fun _ _ h => h.a) ?_ 30 _ (Go.Proofs.enters_of Try.func30 (by kernel_rfl) rfl) ?_ h0
  · intro k w1 w2 h mv bl
    refine ⟨mv.2 _ _ _ _ (by decide) (by decide) h.n, fun j hj => ?_, h.b.trans (bl.mono hBW)⟩
    have := hcb (by omega)
    obtain ⟨a0, a1⟩ := h.a j hj
    exact ⟨(bl.cell (by show cb < _; omega)).trans a0, (bl.cell (by show cb < _; omega)).trans a1⟩
  · intro k hk p L a cap w1 hp hrun hst hl8 hS hJ
    obtain ⟨i1, _, _⟩ := mst_inv cs k L (by omega) hrun
    have hcb' := hcb (by omega)
    have hgl : q < W.heap.size := blk_lt h0.n
    refine (deeper_any (d := dep cs k) (.int .i64 k) w1 hS hJ.n (by omega)).mono ?_
    rintro e w2 ⟨rfl, hS2, hN2, hO2⟩
    refine ⟨rfl, ⟨a, cap, hS2⟩, ⟨?_, fun j hj => ?_, hJ.b.trans (hO2.belowB hBq (blk_lt hJ.n))⟩, hO2.size, fun q2 cur z hq => hO2.obj hq (blk_ne hq hJ.n (by decide))⟩
    · simp only [dep]
      rw [i1]
      exact hN2
    · obtain ⟨a0, a1⟩ := hJ.a j hj
      have hne : some cb ≠ some q := fun e => by cases e; omega
      exact ⟨hO2.cell a0 hne, hO2.cell a1 hne⟩
def DepthEnd (cs : List (Int × Int)) (w : World) (e : Ending) (w' : World) : Prop :=
  e = .returned (if goodS cs = true then .tuple #[.int .i64 ((dep cs cs.length : Nat) : Int), .int .i64 0] else .tuple #[.int .i64 0, .int .i64 31]) ∧ Below w.heap.size w w'
set_option maxRecDepth 100000 in
set_option maxHeartbeats 1000000 in
theorem depth_any (cs : List (Int × Int)) (ca : Option Addr) (cc cb co : Nat) (hca : cs = [] ∨ ca = some ⟨cb, co, none⟩) (hn : cs.length ≤ 1000000000) (w : World)
    (hc : ∀ j (h : j < cs.length), w.cell? ⟨cb, co + j * 2, none⟩ = some (.int .i64 cs[j].1) ∧ w.cell? ⟨cb, co + j * 2 + 1, none⟩ = some (.int .i64 cs[j].2)) :
    Calls Try.prog 13 #[.slice ca cs.length cc] w (DepthEnd cs w) := by
  have hcb : 0 < cs.length → cb < w.heap.size := fun h0 => World.block_lt_of_cell? w _ (hc 0 h0).1
  have b2 := (Below.refl _ w).alloc (Nat.le_refl _) (.cells #[.int .i64 0] 3)
  have hW := dwalk cs ca cc cb co w.heap.size w.heap.size w (w.alloc (.cells #[.int .i64 0] 3)) hca hn hcb (Nat.le_refl _) b2.size ⟨heap_alloc_new w _, fun j hj => by
    have hl := hcb (by omega)
    obtain ⟨a0, a1⟩ := hc j hj
    exact ⟨(b2.cell hl).trans a0, (b2.cell hl).trans a1⟩, b2⟩
  have HN : Hid (0 ≤ cs.length) := hid6 (Nat.zero_le _)
  generalize hl : cs.length = n at hW hn HN ⊢
  have HL := hid6 hl
  clear hc hca hcb hl b2
  cases hgd : goodS cs with
  | false =>
    have HF : Hid (decide (runS (opsI cs) 0 [] = some []) = false) := hid6 hgd
    have HM : Hid (∀ w', Below w.heap.size w w' → DepthEnd cs w (.returned (.tuple #[.int .i64 0, .int .i64 31])) w') := hid6 fun w' hb => ⟨by rw [hgd]; rfl, hb⟩
    clear hgd
    go_enter Try.func13, Try.ntmps13
    go_wp2_with (first
      | (go_at_call 22; refine hW.mono ?_; rintro e w3 ⟨he, k, hJ, _⟩; rw [HF.out] at he; subst he)
      | fail)
    go_ret2
    exact HM.out _ hJ.b
  | true =>
    have HF : Hid (decide (runS (opsI cs) 0 [] = some []) = true) := hid6 hgd
    have HM : Hid (∀ w', Below w.heap.size w w' → DepthEnd cs w (.returned (.tuple #[.int .i64 ((dep cs cs.length : Nat) : Int), .int .i64 0])) w') := hid6 fun w' hb => ⟨by rw [hgd]; rfl, hb⟩
    clear hgd
    go_enter Try.func13, Try.ntmps13
    go_wp2_with (first
      | (go_at_call 22; refine hW.mono ?_; rintro e w3 ⟨he, k, hJ, hk⟩; rw [HF.out] at he; subst he; have hk2 := hk (of_decide_eq_true HF.out); subst hk2; obtain ⟨c3, _⟩ := hJ.n.at 0 (by simp); simp only [List.getElem_cons_zero] at c3)
      | fail)
    go_ret2
    exact HM.out _ hJ.b
end Go.Proofs.Ytnlcokcpcfbdaaa
