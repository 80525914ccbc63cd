/- shape.Around: what it does for each open block. -/
import Derived.Test.YtnlcokcpcfbdaaaSK
namespace Go.Proofs.Ytnlcokcpcfbdaaa
open Go.RowKit
/-- Places noted so far, in a row of its own behind its box. -/
structure Pls (q : Nat) (ns : List Int) (a : Option Addr) (cap : Nat) (W : World) : Prop where
  box : W.heap[q]? = some (.cells #[.slice a ns.length cap] 25 (0, 0))
  row : W.ownsRow (q + 1) 3 1 (.slice a ns.length cap) ns.length (cellsN ns)
theorem Pls.keep {q : Nat} {ns : List Int} {a : Option Addr} {cap : Nat} {W W' : World} (h : Pls q ns a cap W) (hb : Below W.heap.size W W') : Pls q ns a cap W' := ⟨(hb.block _ (blk_lt h.box)).trans h.box, row_below2 h.row hb⟩
/-- Only lists of numbers have turned. -/
def MvP (W W' : World) : Prop := W.heap.size ≤ W'.heap.size ∧ ∀ (k : Nat) (cur : Array Value) (t : TypeId) (z : Nat × Nat), t ≠ 25 → t ≠ 3 → W.heap[k]? = some (.cells cur t z) → W'.heap[k]? = some (.cells cur t z)
theorem MvP.refl (W : World) : MvP W W := ⟨Nat.le_refl _, fun _ _ _ _ _ _ h => h⟩
theorem MvP.trans {A B C : World} (h : MvP A B) (g : MvP B C) : MvP A C := ⟨Nat.le_trans h.1 g.1, fun k cur t z h1 h2 hk => g.2 k cur t z h1 h2 (h.2 k cur t z h1 h2 hk)⟩
theorem MvP.below {W W' : World} (h : Below W.heap.size W W') : MvP W W' := ⟨h.size, fun k _ _ _ _ _ hk => (h.block k (blk_lt hk)).trans hk⟩
theorem MvP.set {W : World} {b o : Nat} {cs : Array Value} {z : Nat × Nat} {u : Value} (hb : W.heap[b]? = some (.cells cs 25 z)) : MvP W (W.setCell ⟨b, o, none⟩ u) := by
  refine ⟨by simp [World.setCell], fun k cur t z' h1 h2 hk => (Below.heap_setCell _ _ _ k fun e => ?_).trans hk⟩
  subst e
  rw [hb] at hk
  cases hk
  exact h1 rfl
theorem MvP.step {W W' : World} {base n : Nat} {v v' : Value} {xs : List Value} (hr : W.ownsRow base 3 1 v n xs) (hs : Step W v W' v') : MvP W W' := by
  refine ⟨hs.1.size, fun k cur t z h1 h2 hk => (hs.1.block k (blk_lt hk) fun h => ?_).trans hk⟩
  rcases hr.2 with ⟨rfl, _⟩ | ⟨g, cap, cur', rfl, _, hh, _⟩
  · cases h
  · cases h
    rw [hk] at hh
    cases hh
    exact h2 rfl
def PlsEnd (q : Nat) (ns : List Int) (W : World) (e : Ending) (w' : World) : Prop := e = .returned (.tuple #[]) ∧ (∃ a cap, Pls q ns a cap w') ∧ Below q W w' ∧ MvP W w'
set_option maxRecDepth 100000 in
set_option maxHeartbeats 1000000 in
theorem note_any {q : Nat} {ns : List Int} {a : Option Addr} {cap : Nat} (b : Blk) (W : World) (h : Pls q ns a cap W) (hl : ns.length ≤ 1000000) : Calls Try.prog 34 #[b.v, .pointer (some ⟨q, 0, none⟩)] W (PlsEnd q (ns ++ [b.s]) W) := by
  obtain ⟨bs, bo, bl⟩ := b
  simp only [Blk.v]
  have bx4 := (Below.refl _ W).alloc (Nat.le_refl _) (.cells #[.int .i64 bs, .int .i64 bo, .bool bl] 50)
  have bx5 := bx4.alloc (by simp) (.cells #[.int .i64 bs] 3)
  have h5 := h.keep bx5
  obtain ⟨p0, z0⟩ := one_cell h.box
  have hlt := blk_lt h.box
  go_enter Try.func34, Try.ntmps34
  go_wp2_with (at_builtin; refine wpList_appN _ rfl _ _ 25 rfl elemN_int (q + 1) _ ns.length (cellsN ns) rfl h5.row _ rfl 1 [.int .i64 bs] (.inr ⟨⟨_, 0, none⟩, 1, rfl, cells_new6 _ [.int .i64 bs] 3 _ (World.size_alloc _ _)⟩) rfl (by simp [Value.oneCell']) (by unfold maxLen; omega) (by omega) (by simp; omega) ?_; intro v' w6 hr6 hs6; have m6 := MvP.step h5.row hs6; have b6 : w6.heap[q]? = some (.cells #[.slice a ns.length cap] 25 (0, 0)) := (hs6.1.block q (by simp; omega) (fun e => by have := (h5.row.lt q e.symm).1; omega)).trans h5.box; obtain ⟨j0, j1⟩ := one_cell b6; obtain ⟨vy, vd, rfl, _⟩ := row_form hr6)
  go_end0
  have hb6 := (bx5.mono (show q ≤ W.heap.size by omega)).trans ((hs6.below (B := q + 1) (by simp; omega) fun g e => (h5.row.lt g e).1).mono (by omega))
  have ec : cellsN (ns ++ [bs]) = cellsN ns ++ [.int .i64 bs] := by simp [cellsN]
  refine ⟨rfl, ⟨vy, vd, ⟨by rw [List.length_append]; exact one_set b6, ?_⟩⟩, hb6.setCell (p := ⟨q, 0, none⟩) (Nat.le_refl _) _, ((MvP.below bx5).trans m6).trans (MvP.set b6)⟩
  simp only [ec, List.length_append]
  exact row_other6 hr6 b6 (by decide)
theorem Stk.mvp {base p : Nat} {L : List Blk} {a : Option Addr} {cap : Nat} {W W' : World} (h : Stk base p L a cap W) (m : MvP W W') : Stk base p L a cap W' := by
  refine ⟨m.2 _ _ _ _ (by decide) (by decide) h.box, h.row.1, ?_⟩
  rcases h.row.2 with h2 | ⟨g, c, cur, e, hg, hh, r⟩
  · exact .inl h2
  · exact .inr ⟨g, c, cur, e, hg, m.2 _ _ _ _ (by decide) (by decide) hh, r⟩
set_option maxRecDepth 100000 in
set_option maxHeartbeats 1000000 in
theorem each_any {p q : Nat} {L : List Blk} {ns : List Int} {a a' : Option Addr} {cap cap' : Nat} (W : World) (hS : Stk (p + 1) p L a cap W) (hl : L.length ≤ 8) (hP : Pls q ns a' cap' W) (hn : ns.length ≤ 1000) :
    Calls Try.prog 33 #[.pointer (some ⟨p, 0, none⟩), .func (.func 34) #[] #[.pointer (some ⟨q, 0, none⟩)]] W (PlsEnd q (ns ++ L.map Blk.s) W) := by
  obtain ⟨n, hn'⟩ : ∃ n, n = L.length := ⟨_, rfl⟩
  have HN := hid6 hn'
  obtain ⟨c0, _⟩ := one_cell hS.box
  rw [← hn'] at hl c0
  obtain ⟨g, hg⟩ := hS.word
  have hcap : 0 < n → n ≤ cap ∧ a = some ⟨g, 0, none⟩ := fun h0 => by
    rw [hn'] at h0 ⊢
    obtain ⟨_, _, _, _, hc, _⟩ := hS.at h0
    exact ⟨hc, hg h0⟩
  have HA : Hid (∀ wr, MvP W wr → ∀ j (hj : j < L.length), wr.cell? ⟨g, j * 3, none⟩ = some (.int .i64 L[j].s) ∧ wr.cell? ⟨g, j * 3 + 1, none⟩ = some (.int .i64 L[j].o) ∧ wr.cell? ⟨g, j * 3 + 2, none⟩ = some (.bool L[j].l)) := hid6 fun wr m j hj => by
    obtain ⟨g', e, _, _, _, hc⟩ := (hS.mvp m).at (by omega)
    rw [hg (by omega)] at e
    cases e
    exact hc j hj
  have HP := hid6 hP
  have eF : ∀ args w, (callFunc 34 args).run Try.prog w = .ok (.enter 34 args) w := Go.Proofs.enters_of Try.func34 (by kernel_rfl) rfl
  have hql : q < W.heap.size := blk_lt hP.box
  clear hS hP hn' hg
  go_enter Try.func33, Try.ntmps33
  go_wp2_with fail
  go_loopw [11] (fun i wr => ∃ (k : Nat), k ≤ n ∧ i = .int .i64 k ∧ Hid ((∃ a cap, Pls q (ns ++ (L.take k).map Blk.s) a cap wr) ∧ Below q W wr ∧ MvP W wr)) (fun i _ => n - (intOf i).toNat)
  case atStart => exact ⟨0, Nat.zero_le _, rfl, hid6 ⟨⟨_, _, by simpa using HP.out⟩, Below.refl _ _, MvP.refl _⟩⟩
  case round =>
    obtain ⟨k, hk, rfl, HR⟩ := hrel
    by_cases hlt : k < n
    · have kl : k < L.length := by have := HN.out; omega
      obtain ⟨d0, d1, d2⟩ := HA.out wr HR.out.2.2 k kl
      obtain ⟨hc, ha⟩ := hcap (by omega)
      subst ha
      have HE : Hid (ns ++ (L.take (k + 1)).map Blk.s = (ns ++ (L.take k).map Blk.s) ++ [L[k].s]) := hid6 (by rw [List.take_succ_eq_append_getElem kl, List.map_append, List.append_assoc]; rfl)
      have hlen : Hid ((ns ++ (L.take k).map Blk.s).length ≤ 1000000) := hid6 (by simp; omega)
      generalize L[k] = b at d0 d1 d2 HE
      obtain ⟨bs, bo, bl⟩ := b
      simp only at d0 d1 d2
      have HX : Hid (Below wr.heap.size wr (wr.alloc (.cells #[.int .i64 bs, .int .i64 bo, .bool bl] 50))) := hid6 ((Below.refl _ wr).alloc (Nat.le_refl _) _)
      obtain ⟨⟨a1, cap1, hP1⟩, hB1, hM1⟩ := HR.out
      have hV := note_any ⟨bs, bo, bl⟩ _ (hP1.keep HX.out) hlen.out
      simp only [Blk.v] at hV
      have HB := hid6 (And.intro hB1 hM1)
      clear hP1 hB1 hM1
      go_wp2_with (first | (go_at_fn 34; refine hV.mono ?_; rintro e w4 ⟨rfl, h4, b4, m4⟩) | (go_at_call 34; refine hV.mono ?_; rintro e w4 ⟨rfl, h4, b4, m4⟩) | fail)
      refine ⟨⟨k + 1, by omega, by simp, hid6 ⟨?_, HB.out.1.trans ((HX.out.mono (by have := HB.out.1.size; omega)).trans b4), HB.out.2.trans ((MvP.below HX.out).trans m4)⟩⟩, by simp [intOf]; omega⟩
      rw [HE.out]
      exact h4
    · have : k = n := by omega
      subst this
      go_wp2_with fail
      go_end0
      have e : L.take k = L := List.take_of_length_le (by rw [← HN.out]; exact Nat.le_refl _)
      obtain ⟨h1, h2, h3⟩ := HR.out
      rw [e] at h1
      exact ⟨rfl, h1, h2, h3⟩
end Go.Proofs.Ytnlcokcpcfbdaaa
