/- Layer 11: the document's Scan of a store. Layer 11: the law's comparison of pairs with the document's. Layer 11: the document's Delete. -/
import Derived.Test.YtcjakgogdbfagaaKL
import Derived.Test.YtcjakgogdbfagaaKJ
namespace Go.Proofs.Ytcjakgogdbfagaa
open Go.RowKit
/-- At most so many, all if it is 0. -/
def capL (m : Int) (X : Kvs) : Kvs := if m = 0 then X else X.take m.toNat
/-- A pair that the document's Scan tells, but for the count. -/
def tellB (fr tk : Bt) (x : Bt × Bt) : Bool := !ltB x.1 fr && inB tk x
/-- What the document's Scan answers. -/
def scanA (L : Kvs) (fr tk : Bt) (m : Int) : Kvs := capL m (L.filter (tellB fr tk))
theorem capL_snoc (m : Int) (X : Kvs) (x : Bt × Bt) : capL m (X ++ [x]) = if m = 0 ∨ ((capL m X).length : Int) < m then capL m X ++ [x] else capL m X := by
  unfold capL
  by_cases h : m = 0
  · simp [h]
  · simp only [h, if_false, false_or]
    rw [List.length_take]
    split
    · rename_i hl
      have hx : X.length < m.toNat := by omega
      rw [List.take_of_length_le (by simp; omega), List.take_of_length_le (by omega)]
    · rename_i hl
      rw [List.take_append_of_le_length (by omega)]
theorem capL_len (m : Int) (X : Kvs) : (capL m X).length ≤ X.length := by
  unfold capL
  split
  · exact Nat.le_refl _
  · exact List.length_take_le' _ _
theorem inB_down {tk : Bt} {x y : Bt × Bt} (h : klt x.1 y.1) (hy : inB tk y = true) : inB tk x = true := by
  unfold inB ltB at *
  simp only [Bool.or_eq_true, decide_eq_true_eq] at *
  rcases hy with e | e
  · exact .inl e
  · exact .inr (klt_trans _ _ _ h e)
theorem cut_filter {tk : Bt} : ∀ {X : Kvs}, SrtL X → X.takeWhile (inB tk) = X.filter (inB tk)
  | [], _ => rfl
  | x :: X, s => by
    have s2 := List.pairwise_cons.1 s
    rw [List.takeWhile_cons, List.filter_cons]
    split
    · rw [cut_filter s2.2]
    · rename_i hx
      rw [eq_comm, List.filter_eq_nil_iff]
      intro y hy e
      exact hx (inB_down (s2.1 y hy) e)
theorem scanA_scanL {L : Kvs} (s : SrtL L) (fr tk : Bt) {m : Int} (_hm : 0 ≤ m) : scanA L fr tk m = scanL L fr tk m := by
  have hs : SrtL (fromL L fr) := List.Pairwise.filter _ s
  have hf : L.filter (tellB fr tk) = cutL tk (fromL L fr) := by
    rw [cutL_eq, cut_filter hs]
    unfold fromL
    rw [List.filter_filter]
    congr 1
    funext x
    unfold tellB ltB
    simp [Bool.and_comm]
  unfold scanA scanL capL
  rw [hf]
theorem scanA_neg {L : Kvs} {fr tk : Bt} {m : Int} (hm : m < 0) : scanA L fr tk m = [] := by
  unfold scanA capL
  rw [if_neg (by omega), show m.toNat = 0 by omega, List.take_zero]
theorem scanA_snoc {L : Kvs} {fr tk : Bt} {m : Int} {i : Nat} (h : i < L.length) : scanA (L.take (i + 1)) fr tk m = if tellB fr tk L[i] = true ∧ (m = 0 ∨ ((scanA (L.take i) fr tk m).length : Int) < m) then scanA (L.take i) fr tk m ++ [L[i]] else scanA (L.take i) fr tk m := by
  unfold scanA
  rw [List.take_succ_eq_append_getElem h, List.filter_append]
  by_cases e : tellB fr tk L[i] = true
  · rw [List.filter_cons_of_pos e, List.filter_nil, capL_snoc]
    simp [e]
  · rw [List.filter_cons_of_neg e, List.filter_nil, List.append_nil]
    simp [e]
theorem scanA_len (L : Kvs) (fr tk : Bt) (m : Int) : (scanA L fr tk m).length ≤ L.length := Nat.le_trans (capL_len _ _) (List.length_filter_le _ _)
/-- What Scan leaves. -/
def RScEnd (X : Kvs) (w : World) (e : Ending) (w' : World) : Prop := ∃ v, e = .returned v ∧ w'.ownsRow w.heap.size 73 2 v X.length (cellsP X) ∧ Below w.heap.size w w'
end Go.Proofs.Ytcjakgogdbfagaa
namespace Go.Proofs.Ytcjakgogdbfagaa
open Go.RowKit
/-- A row of the document's pairs lies there. -/
def DRow (va : Option Addr) (n vc : Nat) (X : Kvs) (w : World) : Prop := n = X.length ∧ ∃ B, w.ownsRow B 73 2 (.slice va n vc) X.length (cellsP X)
theorem DRow.below {va : Option Addr} {n vc : Nat} {X : Kvs} {w w' : World} (h : DRow va n vc X w) (k : Below w.heap.size w w') : DRow va n vc X w' := by
  obtain ⟨h1, B, h2⟩ := h
  exact ⟨h1, B, row_below2 h2 k⟩
theorem DRow.at {va : Option Addr} {n vc : Nat} {X : Kvs} {w : World} (h : DRow va n vc X w) {k : Nat} (hk : k < X.length) : ∃ g, va = some ⟨g, 0, none⟩ ∧ g < w.heap.size ∧ w.cell? ⟨g, k * 2, none⟩ = some (sv X[k].1) ∧ w.cell? ⟨g, k * 2 + 1, none⟩ = some (sv X[k].2) := by
  obtain ⟨h1, B, h2⟩ := h
  exact row_pairR h2 hk
set_option maxRecDepth 100000 in
set_option maxHeartbeats 1000000 in
theorem same11_yes (X : Kvs) (va vb : Option Addr) (n vc vd : Nat) (w : World) (hX : PRow va n vc X w) (hY : DRow vb n vd X w) (hn : n ≤ 1000000) :
    Calls Try.prog 19 #[.slice va n vc, .slice vb n vd] w fun e w' => e = .returned (.bool true) ∧ Below w.heap.size w w' := by
  have HX := hidb hX
  have HY := hidb hY
  clear hX hY
  go_enter Try.func19, Try.ntmps19
  go_wp2_with fail
  go_loopw [5] (fun iv wr => ∃ i : Nat, iv = .int .i64 i ∧ i ≤ n ∧ Hid (Below w.heap.size w wr)) (fun iv _ => n - (intOf iv).toNat)
  case atStart => exact ⟨0, rfl, Nat.zero_le _, hidb (Below.refl _ _)⟩
  case round =>
    obtain ⟨i, rfl, hi, HB⟩ := hrel
    by_cases hlt : i < n
    · have hil : i < X.length := by rw [← HX.out.1]; exact hlt
      obtain ⟨g, eg, hg, a0, a1⟩ := (HX.out.below HB.out).at hil
      obtain ⟨k, ek, hk, b0, b1⟩ := (HY.out.below HB.out).at hil
      subst eg ek
      generalize X[i].1 = xk at *
      generalize X[i].2 = xv at *
      have hj0 : (0 : Int) ≤ (i : Int) := by omega
      have hj1 : (i : Int) < (n : Int) := by omega
      have e1 : (xk == xk) = true := by simp
      have e2 : (xv == xv) = true := by simp
      clear HX HY
      go_wp2_with fail
      go_quiet (fail)
      go_wp2_with fail
      exact ⟨⟨i + 1, by go_num, by omega, hidb (below_drewN HB.out _)⟩, by simp [intOf]; omega⟩
    · clear HX HY
      go_wp2_with fail
      go_ret
      exact ⟨rfl, HB.out⟩
end Go.Proofs.Ytcjakgogdbfagaa
namespace Go.Proofs.Ytcjakgogdbfagaa
open Go.RowKit
set_option maxRecDepth 100000 in
set_option maxHeartbeats 400000 in
theorem rdel_no (rb : Nat) (v : Value) (L : Kvs) (w : World) (k : Bt) (h : RfAt rb v L w) (s : SrtL L) (hL : L.length ≤ 1000000) (hg : getL L k = none) :
    Calls Try.prog 38 #[.pointer (some ⟨rb, 0, none⟩), sv k] w fun e w' => e = .returned (.bool false) ∧ ∃ m, w' = w.drewN m := by
  have HF := hidb (rfind_any rb v L w k h s hL)
  rw [hg] at HF
  go_enter Try.func38, Try.ntmps38
  go_wp2_with (first
    | (go_at_call 37; refine HF.out.mono ?_; clear HF; rintro e w1 ⟨rfl, m1, rfl⟩)
    | fail)
  go_ret
  exact ⟨rfl, m1, rfl⟩
theorem wrap_j {x : Int} (h0 : 0 ≤ x) (h1 : x < 9223372036854775808) : IntKind.i64.wrap x = x := by
  simp only [IntKind.wrap, IntKind.signed, IntKind.bits]
  first | omega | (simp; omega)
def DP (B n j : Nat) (L : Kvs) (vr v0 v7 v15 : Value) (listed : Array Bool) (i : Nat) (u : Value) (W : World) : Prop :=
  match i with
  | 1 => listed.getD 8 false = true ∨ ∃ g, u = .slice (some ⟨g, 0, none⟩) 0 0 ∧ B ≤ g ∧ W.heap[g]? = some (.cells #[] 73 (0, 0))
  | 5 => u = v0
  | 6 => u = .int .i64 (j : Int)
  | 7 => u = v7
  | 8 => listed.getD 16 false = true ∨ W.ownsRow B 73 2 u j (cellsP (L.take j))
  | 12 => u = v0
  | 13 => u = .int .i64 (j : Int)
  | 14 => u = .int .i64 ((j : Int) + 1)
  | 15 => u = v15
  | 16 => listed.getD 19 false = true ∨ W.ownsRow B 73 2 u (j + (n - (j + 1))) (cellsP (L.take j) ++ cellsP (L.drop (j + 1)))
  | 19 => True
  | _ => u = vr
theorem DP.below {B n j : Nat} {L : Kvs} {vr v0 v7 v15 : Value} {listed : Array Bool} {W W' : World} (hb : Below W.heap.size W W') {i : Nat} : ∀ k u, listed.getD k false = true → DP B n j L vr v0 v7 v15 listed k u W → DP B n j L vr v0 v7 v15 (listed.setIfInBounds i true) k u W' := by
  intro k u _ h
  unfold DP at h ⊢
  split at h
  all_goals first
    | exact h
    | exact h.imp getD_moreK fun h => row_below2 h hb
    | (refine h.imp getD_moreK fun h => ?_
       obtain ⟨g, rfl, h1, hg⟩ := h
       exact ⟨g, rfl, h1, by rw [hb.block g (Array.getElem?_eq_some_iff.1 hg).1]; exact hg⟩)
def RG19 (w : World) (rb : Nat) (L' : Kvs) (listed : Array Bool) (W : World) : Prop := Kt (fun i => i = rb) w W ∧ (listed.getD 19 false = true → RFin w rb L' W) ∧ (listed.getD 19 false = false → W.heap[rb]? = w.heap[rb]?)
theorem RG19.below {w : World} {rb : Nat} {L' : Kvs} {listed : Array Bool} {W W' : World} {i : Nat} (h : RG19 w rb L' listed W) (hl : rb < W.heap.size) (hi : i ≠ 19) (hb : Below W.heap.size W W') : RG19 w rb L' (listed.setIfInBounds i true) W' :=
  ⟨h.1.trans (Kt.below hb) fun _ _ e => e, fun e => (h.2.1 (by rwa [getD_ne hi] at e)).below hb, fun e => (hb.block _ hl).trans (h.2.2 (by rwa [getD_ne hi] at e))⟩
set_option maxRecDepth 100000 in
set_option maxHeartbeats 2000000 in
theorem rdel_yes (rb : Nat) (v0 : Value) (L : Kvs) (w : World) (k u0 : Bt) (h : RfAt rb v0 L w) (s : SrtL L) (hL : L.length ≤ 512) (hg : getL L k = some u0) :
    Calls Try.prog 38 #[.pointer (some ⟨rb, 0, none⟩), sv k] w fun e w' => e = .returned (.bool true) ∧ Hid (RFin w rb (delL L k) w') := by
  have HF := hidb (rfind_any rb v0 L w k h s (by omega))
  rw [hg] at HF
  simp only [Option.isSome_some] at HF
  obtain ⟨ca, cc, rfl, hcc, hcm⟩ := h.form
  obtain ⟨hpl, HP⟩ : posL L k < L.length ∧ Hid (delL L k = L.take (posL L k) ++ L.drop (posL L k + 1)) := by
    rcases pos_there s (k := k) with ⟨v, e, hp, e2⟩ | ⟨e, _⟩
    · refine ⟨hp, hidb ?_⟩
      have e3 : L = L.take (posL L k) ++ (k, v) :: L.drop (posL L k + 1) := by
        conv => lhs; rw [← List.take_append_drop (posL L k) L, List.drop_eq_getElem_cons hp, e2]
      have s2 := s
      rw [e3] at s2
      conv => lhs; rw [e3]
      exact delL_mid s2
    · rw [hg] at e; cases e
  generalize hj : posL L k = j at HF hpl HP
  clear hj s hg
  obtain ⟨n, hn⟩ : ∃ n, n = L.length := ⟨_, rfl⟩
  have HR := hidb h.row
  have HB := hidb h.box
  have Hn := hidb hn
  have hx0 := heap_ltb h.box
  rw [← hn] at hcc hpl hL HR
  clear h hn
  go_enter Try.func38, Try.ntmps38
  go_wp2_with (first
    | (go_at_call 37; refine HF.out.mono ?_; clear HF; rintro e w1 ⟨rfl, m1, rfl⟩)
    | fail)
  obtain ⟨W0, hW0⟩ : ∃ W0, W0 = w.drewN m1 := ⟨_, rfl⟩
  have hz0 : w.heap.size = W0.heap.size := by rw [hW0]; rfl
  have HK0 : Hid (Kt (fun i => i = rb) w W0 ∧ W0.heap[rb]? = w.heap[rb]?) := hidb (by rw [hW0]; exact ⟨(Kt.refl _ w).drewN m1, rfl⟩)
  rw [← hW0]
  clear hW0
  refine wp_region_each (by kernel_rfl) 34 rfl (by kernel_rfl) (RG19 w rb (L.take j ++ L.drop (j + 1))) (DP w.heap.size n j L (.pointer (some ⟨rb, 0, none⟩)) (.slice ca n cc) (sliced ca 0 j cc 2) (sliced ca (j + 1) n cc 2)) ?start ?each ?fin
  case start => exact ⟨HK0.out.1.drewN 1, fun e => absurd e (by decide), fun _ => HK0.out.2⟩
  case each =>
    intro i o' ho' listed act W hE hnl haf
    have hi : i < 20 := (Array.getElem?_eq_some_iff.1 ho').1
    have t0 : act.tmps[0]?.getD undef = .pointer (some ⟨rb, 0, none⟩) := hE.rest 0 (rest_of (by kernel_rfl))
    have t5 : act.tmps[5]?.getD undef = .int .i64 (j : Int) := hE.rest 5 (rest_of (by kernel_rfl))
    have hG := hE.glob
    have hsW : w.heap.size ≤ W.heap.size := hG.1.size
    have hoff := getD_off hnl
    have hlr : rb < W.heap.size := by omega
    have hL2 : W.ownsRow 0 73 2 (.slice ca n cc) L.length (cellsP L) := by
      have hr := HR.out
      rw [Hn.out] at hr
      have := row_kt hr hG.1 fun g e => ?_
      · rw [Hn.out]; exact this
      · rintro rfl
        exact absurd (row_typed hr e HB.out) (by decide)
    have hn2 : n = L.length := Hn.out
    have step : i ≠ 19 → ∀ vv W', Below W.heap.size W W' → DP w.heap.size n j L (.pointer (some ⟨rb, 0, none⟩)) (.slice ca n cc) (sliced ca 0 j cc 2) (sliced ca (j + 1) n cc 2) (listed.setIfInBounds i true) i vv W' → ∃ u, act.put o'.dst vv = act.put o'.dst u ∧ DP w.heap.size n j L (.pointer (some ⟨rb, 0, none⟩)) (.slice ca n cc) (sliced ca 0 j cc 2) (sliced ca (j + 1) n cc 2) (listed.setIfInBounds i true) i u W' ∧ RG19 w rb (L.take j ++ L.drop (j + 1)) (listed.setIfInBounds i true) W' ∧ ∀ kk uu, listed.getD kk false = true → DP w.heap.size n j L (.pointer (some ⟨rb, 0, none⟩)) (.slice ca n cc) (sliced ca 0 j cc 2) (sliced ca (j + 1) n cc 2) listed kk uu W → DP w.heap.size n j L (.pointer (some ⟨rb, 0, none⟩)) (.slice ca n cc) (sliced ca 0 j cc 2) (sliced ca (j + 1) n cc 2) (listed.setIfInBounds i true) kk uu W' := fun h19 vv W' hb hv => ⟨vv, rfl, hv, hG.below hlr h19 hb, DP.below hb⟩
    match i, hi, ho', hnl, haf, hoff, step with
    | 0, _, ho', hnl, haf, hoff, step =>
      obtain rfl := Option.some.inj ho'
      exact op_value (v := .pointer (some ⟨rb, 0, none⟩)) (W' := W) (by simp [execOp, go_sem, t0]) (step (by decide) _ _ (Below.refl _ _) rfl)
    | 1, _, ho', hnl, haf, hoff, step =>
      obtain rfl := Option.some.inj ho'
      exact op_value (v := .slice (some ⟨W.heap.size, 0, none⟩) 0 0) (W' := W.alloc (.cells #[] 73)) (by simp [execOp, go_sem]) (step (by decide) _ _ ((Below.refl _ W).alloc (Nat.le_refl _) _) (.inr ⟨_, rfl, hsW, heap_alloc_new W _⟩))
    | 2, _, ho', hnl, haf, hoff, step =>
      obtain rfl := Option.some.inj ho'
      exact op_value (v := .pointer (some ⟨rb, 0, none⟩)) (W' := W) (by simp [execOp, go_sem, t0]) (step (by decide) _ _ (Below.refl _ _) rfl)
    | 3, _, ho', hnl, haf, hoff, step =>
      obtain rfl := Option.some.inj ho'
      have h2 := hE.vals 2 _ 16 rfl (haf ⟨2, .data⟩ (by simp) rfl) rfl
      simp only [DP] at h2
      exact op_value (v := .pointer (some ⟨rb, 0, none⟩)) (W' := W) (by simp [execOp, go_sem, h2]) (step (by decide) _ _ (Below.refl _ _) rfl)
    | 4, _, ho', hnl, haf, hoff, step =>
      obtain rfl := Option.some.inj ho'
      have h3 := hE.vals 3 _ 17 rfl (haf ⟨3, .data⟩ (by simp) rfl) rfl
      simp only [DP] at h3
      exact op_value (v := .pointer (some ⟨rb, 0, none⟩)) (W' := W) (by simp [execOp, go_sem, h3]) (step (by decide) _ _ (Below.refl _ _) rfl)
    | 5, _, ho', hnl, haf, hoff, step =>
      obtain rfl := Option.some.inj ho'
      have h4 := hE.vals 4 _ 18 rfl (haf ⟨4, .data⟩ (by simp) rfl) rfl
      simp only [DP] at h4
      have h19 : listed.getD 19 false = false := by
        cases e : listed.getD 19 false with
        | false => rfl
        | true => have := (hE.closed 7 _ rfl (hE.closed 8 _ rfl (hE.closed 16 _ rfl (hE.closed 19 _ rfl e ⟨16, .data⟩ (by simp) rfl) ⟨8, .data⟩ (by simp) rfl) ⟨7, .data⟩ (by simp) rfl) ⟨5, .data⟩ (by simp) rfl); rw [hoff] at this; cases this
      have cW : W.cell? ⟨rb, 0, none⟩ = some (.slice ca n cc) := by rw [Lib.cell_of_heap ((hG.2.2 h19).trans HB.out), hn2]; rfl
      exact op_value (v := .slice ca n cc) (W' := W) (by simp [execOp, go_sem, h4, cW]) (step (by decide) _ _ (Below.refl _ _) rfl)
    | 6, _, ho', hnl, haf, hoff, step =>
      obtain rfl := Option.some.inj ho'
      exact op_value (v := .int .i64 (j : Int)) (W' := W) (by simp [execOp, go_sem, t5]) (step (by decide) _ _ (Below.refl _ _) rfl)
    | 7, _, ho', hnl, haf, hoff, step =>
      obtain rfl := Option.some.inj ho'
      have h5 := hE.vals 5 _ 19 rfl (haf ⟨5, .data⟩ (by simp) rfl) rfl
      simp only [DP] at h5
      have h6 := hE.vals 6 _ 20 rfl (haf ⟨6, .data⟩ (by simp) rfl) rfl
      simp only [DP] at h6
      exact op_value (v := sliced ca 0 j cc 2) (W' := W) (by simp [execOp, eval_tmp, h5, h6, slice_h_runR W ca n cc j (by omega)]) (step (by decide) _ _ (Below.refl _ _) rfl)
    | 8, _, ho', hnl, haf, hoff, step =>
      obtain rfl := Option.some.inj ho'
      have h1 := hE.vals 1 _ 15 rfl (haf ⟨1, .data⟩ (by simp) rfl) rfl
      have h7 := hE.vals 7 _ 21 rfl (haf ⟨7, .data⟩ (by simp) rfl) rfl
      simp only [DP] at h1 h7
      rw [hoff] at h1
      rcases h1 with h1 | ⟨g, hu, hgb, hgl⟩
      · cases h1
      have hl := lies_pieceR hL2 (Nat.zero_le j) (by omega : j ≤ L.length)
      rw [Nat.sub_zero, List.drop_zero] at hl
      refine wp_app0 W (.tmp 15) (.tmp 21) 49 rfl elemN_pairR w.heap.size g hgb hgl ((eval_tmp _ _).trans hu) _ ((eval_tmp _ _).trans h7) j (cellsP (L.take j)) hl (by rw [cellsP_len, List.length_take]; omega) (cellsP_one _) (by unfold maxLen; omega) (by omega) hsW ?_
      intro v' W' hr' hb'
      exact step (by decide) _ _ hb' (.inr hr')
    | 9, _, ho', hnl, haf, hoff, step =>
      obtain rfl := Option.some.inj ho'
      exact op_value (v := .pointer (some ⟨rb, 0, none⟩)) (W' := W) (by simp [execOp, go_sem, t0]) (step (by decide) _ _ (Below.refl _ _) rfl)
    | 10, _, ho', hnl, haf, hoff, step =>
      obtain rfl := Option.some.inj ho'
      have h9 := hE.vals 9 _ 23 rfl (haf ⟨9, .data⟩ (by simp) rfl) rfl
      simp only [DP] at h9
      exact op_value (v := .pointer (some ⟨rb, 0, none⟩)) (W' := W) (by simp [execOp, go_sem, h9]) (step (by decide) _ _ (Below.refl _ _) rfl)
    | 11, _, ho', hnl, haf, hoff, step =>
      obtain rfl := Option.some.inj ho'
      have h10 := hE.vals 10 _ 24 rfl (haf ⟨10, .data⟩ (by simp) rfl) rfl
      simp only [DP] at h10
      exact op_value (v := .pointer (some ⟨rb, 0, none⟩)) (W' := W) (by simp [execOp, go_sem, h10]) (step (by decide) _ _ (Below.refl _ _) rfl)
    | 12, _, ho', hnl, haf, hoff, step =>
      obtain rfl := Option.some.inj ho'
      have h11 := hE.vals 11 _ 25 rfl (haf ⟨11, .data⟩ (by simp) rfl) rfl
      simp only [DP] at h11
      have h19 : listed.getD 19 false = false := by
        cases e : listed.getD 19 false with
        | false => rfl
        | true => have := (hE.closed 15 _ rfl (hE.closed 16 _ rfl (hE.closed 19 _ rfl e ⟨16, .data⟩ (by simp) rfl) ⟨15, .data⟩ (by simp) rfl) ⟨12, .data⟩ (by simp) rfl); rw [hoff] at this; cases this
      have cW : W.cell? ⟨rb, 0, none⟩ = some (.slice ca n cc) := by rw [Lib.cell_of_heap ((hG.2.2 h19).trans HB.out), hn2]; rfl
      exact op_value (v := .slice ca n cc) (W' := W) (by simp [execOp, go_sem, h11, cW]) (step (by decide) _ _ (Below.refl _ _) rfl)
    | 13, _, ho', hnl, haf, hoff, step =>
      obtain rfl := Option.some.inj ho'
      exact op_value (v := .int .i64 (j : Int)) (W' := W) (by simp [execOp, go_sem, t5]) (step (by decide) _ _ (Below.refl _ _) rfl)
    | 14, _, ho', hnl, haf, hoff, step =>
      obtain rfl := Option.some.inj ho'
      have h13 := hE.vals 13 _ 27 rfl (haf ⟨13, .data⟩ (by simp) rfl) rfl
      simp only [DP] at h13
      exact op_value (v := .int .i64 ((j : Int) + 1)) (W' := W) (by simp [execOp, go_sem, h13]; exact wrap_j (by omega) (by omega)) (step (by decide) _ _ (Below.refl _ _) rfl)
    | 15, _, ho', hnl, haf, hoff, step =>
      obtain rfl := Option.some.inj ho'
      have h12 := hE.vals 12 _ 26 rfl (haf ⟨12, .data⟩ (by simp) rfl) rfl
      simp only [DP] at h12
      have h14 := hE.vals 14 _ 28 rfl (haf ⟨14, .data⟩ (by simp) rfl) rfl
      simp only [DP] at h14
      have hs := slice_l_runR W ca n cc (j + 1) (by omega)
      rw [show (((j + 1 : Nat) : Int)) = (j : Int) + 1 by omega] at hs
      exact op_value (v := sliced ca (j + 1) n cc 2) (W' := W) (by simp [execOp, eval_tmp, h12, h14, hs]) (step (by decide) _ _ (Below.refl _ _) rfl)
    | 16, _, ho', hnl, haf, hoff, step =>
      obtain rfl := Option.some.inj ho'
      have l8 := haf ⟨8, .data⟩ (by simp) rfl
      have h8 := hE.vals 8 _ 22 rfl l8 rfl
      have h15 := hE.vals 15 _ 29 rfl (haf ⟨15, .data⟩ (by simp) rfl) rfl
      simp only [DP] at h8 h15
      rw [hoff] at h8
      rcases h8 with h8 | h8
      · cases h8
      have hl := lies_pieceR hL2 (l := j + 1) (h := L.length) (by omega) (Nat.le_refl _)
      rw [List.take_length, ← hn2] at hl
      refine wp_appN W (.tmp 22) (.tmp 29) 49 rfl elemN_pairR w.heap.size _ j (cellsP (L.take j)) (eval_tmp _ _) h8 _ ((eval_tmp _ _).trans h15) (n - (j + 1)) (cellsP (L.drop (j + 1))) hl (by rw [cellsP_len, List.length_drop, hn2]) (cellsP_one _) (by unfold maxLen; omega) (by omega) hsW ?_
      intro v' W' hr' hs'
      refine ⟨v', rfl, .inr hr', ?_, ?_⟩
      · have h19 : listed.getD 19 false = false := by
          cases e : listed.getD 19 false with
          | false => rfl
          | true => have := (hE.closed 19 _ rfl e ⟨16, .data⟩ (by simp) rfl); rw [hoff] at this; cases this
        have hB := hs'.below hsW fun q h => (h8.lt q h).1
        exact ⟨hG.1.trans (below_toKt (S := fun i => w.heap.size ≤ i) hB fun i _ e => e) fun i hi e => by omega, fun e => (by rw [getD_ne (by decide), h19] at e; cases e), fun _ => (hB.block _ hx0).trans (hG.2.2 h19)⟩
      intro q u hq h
      have n16 : q ≠ 16 := fun e => by subst e; rw [hoff] at hq; cases hq
      have s16 : (listed.setIfInBounds 16 true).getD 16 false = true := by rw [getD_set, if_pos ⟨rfl, getD_lt hnl⟩]
      unfold DP at h ⊢
      split at h
      all_goals first
        | exact h
        | exact .inl (getD_moreK l8)
        | exact .inl s16
        | exact absurd rfl n16
    | 17, _, ho', hnl, haf, hoff, step =>
      obtain rfl := Option.some.inj ho'
      have h0 := hE.vals 0 _ 14 rfl (haf ⟨0, .data⟩ (by simp) rfl) rfl
      simp only [DP] at h0
      exact op_value (v := .pointer (some ⟨rb, 0, none⟩)) (W' := W) (by simp [execOp, go_sem, h0]) (step (by decide) _ _ (Below.refl _ _) rfl)
    | 18, _, ho', hnl, haf, hoff, step =>
      obtain rfl := Option.some.inj ho'
      have h17 := hE.vals 17 _ 31 rfl (haf ⟨17, .data⟩ (by simp) rfl) rfl
      simp only [DP] at h17
      exact op_value (v := .pointer (some ⟨rb, 0, none⟩)) (W' := W) (by simp [execOp, go_sem, h17]) (step (by decide) _ _ (Below.refl _ _) rfl)
    | 19, _, ho', hnl, haf, hoff, step =>
      obtain rfl := Option.some.inj ho'
      have l16 := haf ⟨16, .data⟩ (by simp) rfl
      have h18 := hE.vals 18 _ 32 rfl (haf ⟨18, .data⟩ (by simp) rfl) rfl
      have h16 := hE.vals 16 _ 30 rfl l16 rfl
      simp only [DP] at h18 h16
      rw [hoff] at h16
      rcases h16 with h16 | h16
      · cases h16
      have cW : W.cell? ⟨rb, 0, none⟩ = some (.slice ca n cc) := by rw [Lib.cell_of_heap ((hG.2.2 hoff).trans HB.out), hn2]; rfl
      have fW : W.frozen? ⟨rb, 0, none⟩ = false := Lib.frozen_of_heap ((hG.2.2 hoff).trans HB.out) 0
      have l8 := hE.closed 16 _ rfl l16 ⟨8, .data⟩ (by simp) rfl
      have s19 : (listed.setIfInBounds 19 true).getD 19 false = true := by rw [getD_set, if_pos ⟨rfl, getD_lt hnl⟩]
      have hfin := rfin_store hG.1 ((hG.2.2 hoff).trans HB.out) hx0 h16 (show (j + (n - (j + 1))) = (L.take j ++ L.drop (j + 1)).length by simp; omega) (by simp [cellsP])
      obtain ⟨na, nc, e30, _⟩ := row_form h16
      rw [e30] at hfin
      refine op_skip (W' := W.setCell ⟨rb, 0, none⟩ (.slice na (j + (n - (j + 1))) nc)) (by simp [execOp, go_sem, h18, e30, cW, fW]) ?_
      refine ⟨undef, rfl, trivial, ⟨by obtain ⟨_, _, _, h3⟩ := hfin; exact h3, fun _ => hfin, fun e => by rw [s19] at e; cases e⟩, ?_⟩
      intro q u hq h
      unfold DP at h ⊢
      split at h
      all_goals first
        | exact h
        | exact .inl (getD_moreK l8)
        | exact .inl (getD_moreK l16)
        | exact .inl s19
  case fin =>
    intro act W hE
    have hfin := hE.glob.2.1 rfl
    rw [← HP.out] at hfin
    have HF := hidb hfin
    have t6 : act.tmps[6]?.getD undef = .bool true := hE.rest 6 (rest_of (by kernel_rfl))
    have hsz := hE.tsize
    have hdf := hE.defers
    obtain ⟨tm, df⟩ := act
    simp only at hsz hdf t6
    have htm := arr_out 34 tm (by rw [hsz]; rfl) undef
    simp only [List.range, List.range.loop, List.map_cons, List.map_nil, t6] at htm
    generalize tm[0]?.getD undef = u0 at htm
    generalize tm[1]?.getD undef = u1 at htm
    generalize tm[2]?.getD undef = u2 at htm
    generalize tm[3]?.getD undef = u3 at htm
    generalize tm[4]?.getD undef = u4 at htm
    generalize tm[5]?.getD undef = u5 at htm
    generalize tm[7]?.getD undef = u7 at htm
    generalize tm[8]?.getD undef = u8 at htm
    generalize tm[9]?.getD undef = u9 at htm
    generalize tm[10]?.getD undef = u10 at htm
    generalize tm[11]?.getD undef = u11 at htm
    generalize tm[12]?.getD undef = u12 at htm
    generalize tm[13]?.getD undef = u13 at htm
    generalize tm[14]?.getD undef = u14 at htm
    generalize tm[15]?.getD undef = u15 at htm
    generalize tm[16]?.getD undef = u16 at htm
    generalize tm[17]?.getD undef = u17 at htm
    generalize tm[18]?.getD undef = u18 at htm
    generalize tm[19]?.getD undef = u19 at htm
    generalize tm[20]?.getD undef = u20 at htm
    generalize tm[21]?.getD undef = u21 at htm
    generalize tm[22]?.getD undef = u22 at htm
    generalize tm[23]?.getD undef = u23 at htm
    generalize tm[24]?.getD undef = u24 at htm
    generalize tm[25]?.getD undef = u25 at htm
    generalize tm[26]?.getD undef = u26 at htm
    generalize tm[27]?.getD undef = u27 at htm
    generalize tm[28]?.getD undef = u28 at htm
    generalize tm[29]?.getD undef = u29 at htm
    generalize tm[30]?.getD undef = u30 at htm
    generalize tm[31]?.getD undef = u31 at htm
    generalize tm[32]?.getD undef = u32 at htm
    generalize tm[33]?.getD undef = u33 at htm
    subst hdf
    rw [htm]
    clear hE htm hsz
    go_wp2_with fail
    go_ret
    exact ⟨rfl, HF⟩
end Go.Proofs.Ytcjakgogdbfagaa
