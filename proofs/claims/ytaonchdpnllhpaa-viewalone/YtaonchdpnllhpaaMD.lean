/- Layer 17: letters and notes; Right, RightRecord. -/
import Derived.Test.YtaonchdpnllhpaaMB
namespace Go.Proofs.Ytaonchdpnllhpaa
open Go.RowKit
/-- Cells of a block that are written one behind the other. -/
def setN (W : World) (b : Nat) : Nat → List Value → World
  | _, [] => W
  | k, x :: r => setN (W.setCell ⟨b, k, none⟩ x) b (k + 1) r
theorem setN_blk {b : Nat} {t : TypeId} : ∀ (xs pre old : List Value) (W : World), old.length = xs.length → W.heap[b]? = some (.cells (pre ++ old).toArray t (0, 0)) → (setN W b pre.length xs).heap[b]? = some (.cells (pre ++ xs).toArray t (0, 0))
  | [], pre, old, W, h, hb => by
    obtain rfl : old = [] := List.eq_nil_of_length_eq_zero h
    exact hb
  | x :: r, pre, [], W, h, hb => by simp at h
  | x :: r, pre, o :: old, W, h, hb => by
    have e := heap_setCell_same W b pre.length _ _ x hb
    have e2 : ((pre ++ o :: old).toArray.setIfInBounds pre.length x) = (pre ++ [x] ++ old).toArray := by
      rw [List.setIfInBounds_toArray]
      congr 1
      rw [List.set_append_right _ _ (Nat.le_refl _)]
      simp
    rw [e2] at e
    have ih := setN_blk r (pre ++ [x]) old (W.setCell ⟨b, pre.length, none⟩ x) (by simpa using h) e
    rw [List.append_assoc] at ih
    simp only [List.length_append, List.length_cons, List.length_nil] at ih
    exact ih
theorem setN_all {W : World} {b : Nat} {t : TypeId} {old : Array Value} (xs : List Value) (h : W.heap[b]? = some (.cells old t (0, 0))) (hl : old.size = xs.length) : (setN W b 0 xs).heap[b]? = some (.cells xs.toArray t (0, 0)) := by
  have := setN_blk xs [] old.toList W (by simpa using hl) (by simpa using h)
  simpa using this
theorem setN_chg {b : Nat} : ∀ (xs : List Value) (k : Nat) (W : World), Chg W (setN W b k xs) (fun i => i = b)
  | [], _, W => Chg.refl W _
  | x :: r, k, W => (Chg.setCell W ⟨b, k, none⟩ x).trans (setN_chg r (k + 1) _) fun _ _ e => e
theorem setN_below {B b : Nat} {w W : World} (xs : List Value) (k : Nat) (h : Below B w W) (hz : B ≤ w.heap.size) (hb : B ≤ b) : Below B w (setN W b k xs) :=
  h.trans ((setN_chg xs k W).below (Nat.le_trans hz h.size) fun i (e : i = b) => by omega)
theorem ret_one {P : Program} {fn : Func} {t : Tmp} {ty : TypeId} (h : fn.results = #[.cell t ty]) (tmps : Array Value) (w : World) (a : Addr) (v : Value) (ha : tmps[t]?.getD undef = .pointer (some a)) (hl : (loadVar ty a).run P w = .ok v w) :
    (results fn tmps).run P w = .ok v w := by
  simp [results, h, ha, asAddr, hl]
theorem ret_set {P : Program} {fn : Func} {R : Ending → World → Prop} {a : Act} {t : Tmp} {T : TypeId} {W : World} {b : Nat} {old : Array Value} (xs : List Value) (h : fn.results = #[.cell t T]) (ha : a.tmps[t]?.getD undef = .pointer (some ⟨b, 0, none⟩)) (hd : a.defers = []) (hb : W.heap[b]? = some (.cells old T (0, 0))) (hs : old.size = xs.length)
    (hl : ∀ W', W'.heap[b]? = some (.cells xs.toArray T (0, 0)) → (loadVar T ⟨b, 0, none⟩).run P W' = .ok (.agg xs.toArray) W') (hR : R (.returned (.agg xs.toArray)) (setN W b 0 xs)) : bodyPost P fn R .ret a (setN W b 0 xs) :=
  bodyPost_ret (ret_one h _ _ _ _ ha (hl _ (setN_all xs hb hs))) hd hR
theorem load_let {w : World} {b : Nat} {x0 x1 x2 x3 x4 x5 x6 x7 : Value} (h : w.heap[b]? = some (.cells #[x0, x1, x2, x3, x4, x5, x6, x7] 105 (0, 0))) : (loadVar 105 ⟨b, 0, none⟩).run Try.prog w = .ok (.agg #[x0, x1, x2, x3, x4, x5, x6, x7]) w := by
  simp [loadVar, go_sem, Lib.cell_of_heap h]
theorem load_msg {w : World} {b : Nat} {x0 x1 x2 x3 x4 x5 x6 x7 : Value} (h : w.heap[b]? = some (.cells #[x0, x1, x2, x3, x4, x5, x6, x7] 41 (0, 0))) : (loadVar 41 ⟨b, 0, none⟩).run Try.prog w = .ok (.agg #[x0, x1, x2, x3, x4, x5, x6, x7]) w := by
  simp [loadVar, go_sem, Lib.cell_of_heap h]
theorem load_rec {w : World} {b : Nat} {x0 x1 x2 x3 x4 : Value} (h : w.heap[b]? = some (.cells #[x0, x1, x2, x3, x4] 85 (0, 0))) : (loadVar 85 ⟨b, 0, none⟩).run Try.prog w = .ok (.agg #[x0, x1, x2, x3, x4]) w := by
  simp [loadVar, go_sem, Lib.cell_of_heap h]
theorem load_note {w : World} {b : Nat} {x0 x1 x2 x3 x4 : Value} (h : w.heap[b]? = some (.cells #[x0, x1, x2, x3, x4] 96 (0, 0))) : (loadVar 96 ⟨b, 0, none⟩).run Try.prog w = .ok (.agg #[x0, x1, x2, x3, x4]) w := by
  simp [loadVar, go_sem, Lib.cell_of_heap h]
theorem two_boxes (w : World) (u v : Array Value) (s t : TypeId) : ((w.alloc (.cells u s)).alloc (.cells v t)).heap[w.heap.size + 1]? = some (.cells v t (0, 0)) ∧ Below w.heap.size w ((w.alloc (.cells u s)).alloc (.cells v t)) := by
  refine ⟨?_, ((Below.refl _ w).alloc (Nat.le_refl _) _).alloc (by simp) _⟩
  have := heap_alloc_new (w.alloc (.cells u s)) (.cells v t)
  simpa using this
set_option maxRecDepth 100000 in
set_option maxHeartbeats 400000 in
theorem letterOf_any (kd fr tt vw op cm nm : Int) (a : Option Addr) (n c : Nat) (w : World) : Calls Try.prog 50 #[msgV kd fr tt vw op cm nm (.slice a n c)] w fun e w' => e = .returned (letV kd fr tt vw op cm nm (.slice a n c)) ∧ Below w.heap.size w w' := by
  go_enter Try.func50, Try.ntmps50
  go_wp2_with fail
  exact bodyPost_ret (ret_one rfl _ _ _ _ rfl (load_let (two_boxes _ _ _ _ _).1)) rfl ⟨rfl, (two_boxes _ _ _ _ _).2⟩
set_option maxRecDepth 100000 in
set_option maxHeartbeats 400000 in
theorem noteOf_any (kd vw nm op : Int) (a : Option Addr) (n c : Nat) (w : World) : Calls Try.prog 44 #[recV kd vw nm op (.slice a n c)] w fun e w' => e = .returned (recV kd vw nm op (.slice a n c)) ∧ Below w.heap.size w w' := by
  go_enter Try.func44, Try.ntmps44
  go_wp2_with fail
  exact bodyPost_ret (ret_one rfl _ _ _ _ rfl (load_note (two_boxes _ _ _ _ _).1)) rfl ⟨rfl, (two_boxes _ _ _ _ _).2⟩
set_option maxRecDepth 100000 in
set_option maxHeartbeats 400000 in
theorem right17_any (m : Msg) (a : Option Addr) (n c : Nat) (w : World) (hn : m.log.length = n) (hN : EsAt w.cell? a m.log) (hs : ∀ x ∈ m.log, x.d.length ≤ 9223372036854775807) : Calls Try.prog 38 #[msgV m.kd m.fr m.tt m.vw m.op m.cm m.nm (.slice a n c)] w fun e w' => e = .returned (.bool m.ok) ∧ Below w.heap.size w w' := by
  have hL : ∀ W, Below w.heap.size w W → _ := fun W _ => letterOf_any m.kd m.fr m.tt m.vw m.op m.cm m.nm a n c W
  have hR : ∀ W, Below w.heap.size w W → Calls Try.prog 51 #[letV m.kd m.fr m.tt m.vw m.op m.cm m.nm (.slice a n c)] W fun e w' => e = .returned (.bool m.ok) ∧ Below W.heap.size W w' := fun W hW => by
    refine (letRight_any m.kd m.fr m.tt m.vw m.op m.cm m.nm a n c m.log W hn (hN.keep (below_keep hW)) hs).mono ?_
    rintro e w' ⟨rfl, hb⟩
    refine ⟨congrArg (fun b => Ending.returned (.bool b)) ?_, hb⟩
    unfold Msg.ok headOk
    simp only [List.contains_cons, List.contains_nil, Bool.or_false, Bool.or_assoc]
  clear hn hN hs
  generalize m.ok = ok at *
  obtain ⟨kd, fr, tt, vw, op, cm, nm, L⟩ := m
  simp only at hL hR ⊢
  have hb1 : Below w.heap.size w (w.alloc (.cells #[.int .i64 kd, .int .i64 fr, .int .i64 tt, .int .i64 vw, .int .i64 op, .int .i64 cm, .int .i64 nm, .slice a n c] 41)) := (Below.refl _ w).alloc (Nat.le_refl _) _
  go_enter Try.func38, Try.ntmps38
  go_wp2_with (first | (go_at_call 50; refine (hL _ hb1).mono ?_; clear hL; rintro e w2 ⟨rfl, hb2'⟩; have hb2 := hb1.trans (hb2'.mono hb1.size); clear hb2') | (go_at_call 51; refine (hR _ hb2).mono ?_; clear hR; rintro e w3 ⟨rfl, hb3'⟩; have hb3 := hb2.trans (hb3'.mono hb2.size)))
  go_ret
  exact ⟨rfl, hb3⟩
set_option maxRecDepth 100000 in
set_option maxHeartbeats 400000 in
theorem rightRec17_any (m : Rec17) (a : Option Addr) (n c : Nat) (w : World) (hn : m.log.length = n) (hN : EsAt w.cell? a m.log) (hs : ∀ x ∈ m.log, x.d.length ≤ 9223372036854775807) : Calls Try.prog 29 #[recV m.kd m.vw m.nm m.op (.slice a n c)] w fun e w' => e = .returned (.bool m.ok) ∧ Below w.heap.size w w' := by
  have hL : ∀ W, Below w.heap.size w W → _ := fun W _ => noteOf_any m.kd m.vw m.nm m.op a n c W
  have hR : ∀ W, Below w.heap.size w W → Calls Try.prog 45 #[recV m.kd m.vw m.nm m.op (.slice a n c)] W fun e w' => e = .returned (.bool m.ok) ∧ Below W.heap.size W w' := fun W hW => by
    refine (noteRight_any m.kd m.vw m.nm m.op a n c m.log W hn (hN.keep (below_keep hW)) hs).mono ?_
    rintro e w' ⟨rfl, hb⟩
    refine ⟨congrArg (fun b => Ending.returned (.bool b)) ?_, hb⟩
    unfold Rec17.ok headOk
    simp only [List.contains_cons, List.contains_nil, Bool.or_false]
  clear hn hN hs
  generalize m.ok = ok at *
  obtain ⟨kd, vw, nm, op, L⟩ := m
  simp only at hL hR ⊢
  have hb1 : Below w.heap.size w (w.alloc (.cells #[.int .i64 kd, .int .i64 vw, .int .i64 nm, .int .i64 op, .slice a n c] 85)) := (Below.refl _ w).alloc (Nat.le_refl _) _
  go_enter Try.func29, Try.ntmps29
  go_wp2_with (first | (go_at_call 44; refine (hL _ hb1).mono ?_; clear hL; rintro e w2 ⟨rfl, hb2'⟩; have hb2 := hb1.trans (hb2'.mono hb1.size); clear hb2') | (go_at_call 45; refine (hR _ hb2).mono ?_; clear hR; rintro e w3 ⟨rfl, hb3'⟩; have hb3 := hb2.trans (hb3'.mono hb2.size)))
  go_ret
  exact ⟨rfl, hb3⟩
end Go.Proofs.Ytaonchdpnllhpaa
