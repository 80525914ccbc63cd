/- What package code reads: functions. -/
import Derived.Test.YtkbmmaacmofijaaGF
namespace Go.Proofs.Ytkbmmaacmofijaa
open Go.RowKit
/-- What lies in the blocks from B on. -/
def upFrom (w : World) (B : Nat) : Addr → Option Value := fun a => if a.block < B then none else w.cell? a
theorem upFrom_le {w : World} {B : Nat} : ∀ a x, upFrom w B a = some x → w.cell? a = some x := fun a x h => by
  unfold upFrom at h
  split at h
  · cases h
  · exact h
theorem upFrom_at {w : World} {B : Nat} {a : Addr} {x : Value} (hb : B ≤ a.block) (h : w.cell? a = some x) : upFrom w B a = some x := by
  unfold upFrom
  rw [if_neg (by omega), h]
theorem upFrom_far {w : World} {B : Nat} {a : Addr} {x : Value} (h : upFrom w B a = some x) : B ≤ a.block := by
  unfold upFrom at h
  split at h
  · cases h
  · omega
theorem upFrom_chg {w w' : World} {B B' : Nat} {S : Nat → Prop} (hc : Chg w w' S) (hS : ∀ i, S i → i < B) (hB : B' ≤ B) : ∀ a x, upFrom w B a = some x → upFrom w' B' a = some x := fun a x h => by
  have hb := upFrom_far h
  exact upFrom_at (Nat.le_trans hB hb) (hc.cell (upFrom_le _ _ h) fun e => by have := hS _ e; omega)
theorem offRow_chg {w w' : World} {v : Value} {B h : Nat} (hc : Chg w w' (fun k => k = h)) (hh : h ≤ B) : ∀ a x, offRow w v B a = some x → offRow w' v B a = some x := fun a x e => by
  have hb := offRow_far a x e
  have h1 := hc.cell (offRow_le a x e) (show ¬ a.block = h by omega)
  unfold offRow at e ⊢
  split at e
  · cases e
  · rename_i hne
    rw [if_neg hne, h1]
theorem offRow_up {w : World} {v : Value} {B : Nat} : ∀ a x, offRow w v B a = some x → upFrom w (B + 1) a = some x := fun a x e => upFrom_at (offRow_far a x e) (offRow_le a x e)
theorem fs_of_row' {w : World} {base n : Nat} {e : TypeId} {v : Value} {fs : List Fn} {xs : List Value} {C : Addr → Option Value} (h : w.ownsRow base e 4 v n xs) (hF : FRow C fs xs) (hC : ∀ a x, base ≤ a.block → w.cell? a = some x → C a = some x) : n = fs.length ∧ ∃ a c, v = .slice a n c ∧ n ≤ c ∧ FsAt C a fs := by
  have hn : n = fs.length := by have := h.1; rw [hF.1] at this; omega
  subst hn
  obtain ⟨a, c, rfl, hc, _, hx⟩ := row_form h
  refine ⟨rfl, a, c, rfl, hc, ?_⟩
  rcases hx with ⟨_, h0, _⟩ | ⟨g, rfl, hg, _, hcell'⟩
  · exact .inl (List.eq_nil_of_length_eq_zero h0)
  · refine .inr ⟨g, 0, rfl, fun j hj => ?_⟩
    obtain ⟨v0, v1, v2, v3, q0, q1, q2, q3, hf⟩ := hF.2 j hj
    rw [Nat.zero_add]
    exact ⟨v0, v1, v2, v3, hC _ _ hg (hcell' _ _ q0), hC _ _ hg (hcell' _ _ q1), hC _ _ hg (hcell' _ _ q2), hC _ _ hg (hcell' _ _ q3), hf⟩
theorem FnOwn.is {w : World} {base : Nat} {f : Fn} {u0 u1 u2 u3 : Value} (h : FnOwn w base f u0 u1 u2 u3) {C : Addr → Option Value} (hC : ∀ a x, base ≤ a.block → w.cell? a = some x → C a = some x) : FnIs C f u0 u1 u2 u3 := by
  obtain ⟨_, a0, c0, e0, _, n0⟩ := ns_of_row h.1 hC
  obtain ⟨_, a1, c1, e1, _, n1⟩ := ns_of_row h.2.1 hC
  obtain ⟨_, a2, c2, e2, _, n2⟩ := ns_of_row h.2.2.1 hC
  obtain ⟨_, a3, c3, e3, _, n3⟩ := is_of_row h.2.2.2 hC
  exact ⟨⟨a0, c0, e0, n0⟩, ⟨a1, c1, e1, n1⟩, ⟨a2, c2, e2, n2⟩, ⟨a3, c3, e3, n3⟩⟩
theorem FnOwn.forms {w : World} {base : Nat} {f : Fn} {u0 u1 u2 u3 : Value} (h : FnOwn w base f u0 u1 u2 u3) : ∀ u ∈ [u0, u1, u2, u3], u.oneCell' = true := by
  obtain ⟨_, _, rfl, _⟩ := row_form h.1
  obtain ⟨_, _, rfl, _⟩ := row_form h.2.1
  obtain ⟨_, _, rfl, _⟩ := row_form h.2.2.1
  obtain ⟨_, _, rfl, _⟩ := row_form h.2.2.2
  simp [Value.oneCell']
/-- How functions that were read end. -/
def ManyFEnd (L : List Fn) (p h g : Nat) (st : RSt) (w : World) (x : Ending) (w' : World) : Prop := (∃ a c, x = .returned (.slice a L.length c) ∧ FsAt (upFrom w' (w.heap.size + 1)) a L) ∧ RdS w' p h g st.1 st.2 ∧ Chg w w' (fun k => k = h)
theorem manyf_step {w6 w2 wr w1 : World} {h k base : Nat} {v v' : Value} {xs : List Value} {L : List Fn} {f : Fn} {u0 u1 u2 u3 : Value} {o : Obj} (hB : base < w1.heap.size) (hh : h ≤ base) (hz : w1.heap.size ≤ wr.heap.size) (hrow : wr.ownsRow w1.heap.size 32 4 v k xs) (hF : FRow (offRow wr v base) L xs) (hc2 : Chg wr w2 (fun k => k = h)) (hO : FnOwn w2 wr.heap.size f u0 u1 u2 u3) (hs : Step (w2.alloc o) v w6 v') : FRow (offRow w6 v' base) (L ++ [f]) (xs ++ [u0, u1, u2, u3]) := by
  have h1 : FRow (offRow w2 v base) (L ++ [f]) (xs ++ [u0, u1, u2, u3]) := (hF.keep (offRow_chg hc2 hh)).snoc (hO.is (offRow_new (fun k e => (row_lt4 hrow k e).2) (by omega)))
  exact (h1.keep (offRow_keep fun a x e => alloc_keep _ _ _ _ e)).keep (offRow_step hs)
set_option maxRecDepth 100000 in
set_option maxHeartbeats 1000000 in
theorem manyF (p h g : Nat) (w : World) (n : Nat) (st : RSt) (H : RdS w p h g st.1 st.2) (hg : g < w.heap.size) (hn : n ≤ 65535) : Calls Try.prog 74 #[rdV p, .int .i64 n, .func (.func 75) #[rdV p] #[]] w (ManyFEnd (gMany gFn n st).1 p h g (gMany gFn n st).2 w) := by
  obtain ⟨hp, hh⟩ := rds_lt4 H
  have H1 := H.chg (Chg.alloc w (.cells #[.pointer (some ⟨p, 0, none⟩)] 70) (fun _ => False)) id id id
  have hC0 := Chg.alloc w (.cells #[.pointer (some ⟨p, 0, none⟩)] 70) (fun k => k = h)
  obtain ⟨W1, hW1⟩ : ∃ W1, W1 = w.alloc (.cells #[.pointer (some ⟨p, 0, none⟩)] 70) := ⟨_, rfl⟩
  have hbox : ∀ W, Chg W1 W (fun k => k = h) → W.cell? ⟨w.heap.size, 0, none⟩ = some (.pointer (some ⟨p, 0, none⟩)) := fun W hW => by rw [hW1] at hW; exact many_box hh hW
  have hz1 : W1.heap.size = w.heap.size + 1 := by rw [hW1]; simp
  rw [← hW1] at H1 hC0
  have hhW : h < W1.heap.size := by omega
  have fin : ∀ wr v L xs st', gMany gFn n st = (L, st') → wr.ownsRow W1.heap.size 32 4 v L.length xs → FRow (offRow wr v w.heap.size) L xs → RdS wr p h g st'.1 st'.2 → Chg W1 wr (fun k => k = h) → ManyFEnd (gMany gFn n st).1 p h g (gMany gFn n st).2 w (.returned v) wr := fun wr v L xs st' e hr hF HR hc => by
    rw [e]
    obtain ⟨_, a, c, rfl, _, hA⟩ := fs_of_row' (C := upFrom wr (w.heap.size + 1)) hr (hF.keep offRow_up) (fun a x hb e => upFrom_at (by omega) e)
    exact ⟨⟨a, c, rfl, hA⟩, HR, hC0.trans hc fun _ _ e => e⟩
  go_enter Try.func74, Try.ntmps74
  go_wp2_with fail
  rw [← hW1]
  clear hW1
  go_loopw [7, 9] (fun v i wr => ∃ (k : Nat) (L : List Fn) (s : RSt) (xs : List Value), k ≤ n ∧ i = .int .i64 k ∧ L.length = k ∧ Hid (gMany gFn n st = (L ++ (gMany gFn (n - k) s).1, (gMany gFn (n - k) s).2)) ∧ wr.ownsRow W1.heap.size 32 4 v k xs ∧ FRow (offRow wr v w.heap.size) L xs ∧ RdS wr p h g s.1 s.2 ∧ Chg W1 wr (fun k => k = h)) (fun _ i _ => n - (intOf i).toNat)
  case atStart => exact ⟨0, [], st, [], Nat.zero_le _, rfl, rfl, hid (by simp), World.ownsRow_nil _ _ _ _, FRow.nil _, H1, Chg.refl _ _⟩
  case round =>
    obtain ⟨k, L, s, xs, hk, rfl, hL, HM, hrow, hF, HR, C1⟩ := hrel
    have cb := hbox wr C1
    have hEr := rerr_any p h g s.1 s.2 wr HR
    by_cases hlt : k < n
    · by_cases herr : s.2 = 0
      · have HM' := hid (gMany_round hlt herr HM.out)
        have hO := gfn_s p h g s wr HR (Nat.lt_of_lt_of_le hg (Nat.le_trans hC0.size C1.size))
        rw [herr] at hEr
        obtain ⟨x, hx⟩ : ∃ x, x = (gFn s).1 := ⟨_, rfl⟩
        obtain ⟨s', hs'⟩ : ∃ s', s' = (gFn s).2 := ⟨_, rfl⟩
        rw [← hx] at hO HM'
        rw [← hs'] at hO HM'
        have hsW := C1.size
        clear HM hx hs' hbox
        go_wp2_with (first | (go_at_call 76; refine hEr.mono ?_; rintro e w' ⟨rfl, rfl⟩; clear hEr) | (go_at_call 75; refine hO.mono ?_; clear hO; rintro e w2 ⟨⟨x0, x1, x2, x3, rfl, hQ⟩, H2, hc2⟩; have hs2 := hc2.size; have h4 := hQ.forms) | (at_builtin; refine wpList_appN _ rfl _ _ 23 rfl elemN_fn W1.heap.size _ k xs rfl (many_row rfl hhW hrow hc2 _) _ rfl 1 [x0, x1, x2, x3] (.inr ⟨⟨w2.heap.size, 0, none⟩, 1, rfl, cells_new4 w2 [x0, x1, x2, x3] 32 _ rfl⟩) rfl h4 (by unfold maxLen; omega) (by omega) (by simp; omega) ?_; intro v' w6 hr6 hs6))
        obtain ⟨F6, C6⟩ := many_step rfl (Nat.lt_of_lt_of_le hp hC0.size) hhW (Nat.lt_of_lt_of_le hg hC0.size) C1 hrow hc2 H2 hs6
        have R6 := manyf_step (base := w.heap.size) (by omega) (by omega) hsW hrow hF hc2 hQ hs6
        exact ⟨⟨k + 1, L ++ [x], s', _, by omega, by go_num, by simp [hL], HM', hr6, R6, F6, C6⟩, by simp [intOf]; omega⟩
      · have hne : (s.2 != 0) = true := by simp [herr]
        have hE := gMany_end (.inr herr) HM.out
        have hG := fin wr _ L xs s hE (by rw [hL]; exact hrow) hF HR C1
        clear HM fin hE
        generalize s.2 = er at hEr hne
        go_wp2_with (go_at_call 76; refine hEr.mono ?_; rintro e w' ⟨rfl, rfl⟩; clear hEr)
        go_ret
        exact hG
    · obtain rfl : k = n := by omega
      have hE := gMany_end (.inl rfl) HM.out
      have hG := fin wr _ L xs s hE (by rw [hL]; exact hrow) hF HR C1
      clear HM fin hE
      go_wp2_with fail
      go_ret
      exact hG
end Go.Proofs.Ytkbmmaacmofijaa
