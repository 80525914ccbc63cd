/- Layer 11: the document's Put. -/
import Derived.Test.YtcjakgogdbfagaaKI
import Derived.Test.YtcjakgogdbfagaaQO
import Derived.Test.YtcjakgogdbfagaaKC
namespace Go.Proofs.Ytcjakgogdbfagaa
open Go.RowKit
theorem elemN_pairR : ElemN Try.prog 49 73 2 32 := by
  refine ⟨Try.underlying49, ?_, by decide⟩
  obtain ⟨i, hi, h1, h2, h3⟩ := info_parts (show (Try.prog.info? 73).map (fun i => (i.zero, i.size, i.bytes)) = some (some (.agg #[.string ⟨#[]⟩, .string ⟨#[]⟩]), 2, 32) by kernel_rfl)
  exact ⟨i, _, hi, h1, h2, h3, rfl⟩
theorem cellsP_one (L : Kvs) : ∀ u ∈ cellsP L, u.oneCell' = true := by
  intro u hu
  simp only [cellsP, List.mem_flatMap, List.mem_cons, List.not_mem_nil, or_false] at hu
  obtain ⟨x, _, rfl | rfl⟩ := hu <;> rfl
theorem cellsP_take : ∀ (L : Kvs) (j : Nat), cellsP (L.take j) = (cellsP L).take (j * 2)
  | [], j => by simp [cellsP]
  | x :: L, 0 => by simp [cellsP]
  | x :: L, j + 1 => by
    rw [List.take_succ_cons, cellsP_consK, cellsP_consK, cellsP_take L j, show (j + 1) * 2 = j * 2 + 1 + 1 by omega]
    rfl
theorem cellsP_drop : ∀ (L : Kvs) (j : Nat), cellsP (L.drop j) = (cellsP L).drop (j * 2)
  | [], j => by simp [cellsP]
  | x :: L, 0 => by simp [cellsP]
  | x :: L, j + 1 => by
    rw [List.drop_succ_cons, cellsP_consK, cellsP_drop L j, show (j + 1) * 2 = j * 2 + 1 + 1 by omega]
    rfl
/-- A piece of a row of pairs. -/
theorem lies_pieceR {W : World} {B n cc l h : Nat} {ca : Option Addr} {L : Kvs} {t : TypeId} (hr : W.ownsRow B t 2 (.slice ca n cc) L.length (cellsP L)) (h1 : l ≤ h) (h2 : h ≤ L.length) : Lies W (sliced ca l h cc 2) (h - l) (cellsP ((L.take h).drop l)) := by
  have hlen : ((L.take h).drop l).length = h - l := by simp; omega
  rcases hr.2 with ⟨e, e0⟩ | ⟨g, cap, cur, e, hb, hc, hn, hm, hs, ht⟩
  · injection e with e1 e2 e3
    subst e1
    have : (L.take h).drop l = [] := List.eq_nil_of_length_eq_zero (by omega)
    rw [this]
    refine .inl ⟨cc - l, ?_, by omega, rfl⟩
    unfold sliced
    have : h - l = 0 := by omega
    split <;> simp_all
  · injection e with e1 e2 e3
    subst e1 e3
    have cell : ∀ q u, (cellsP ((L.take h).drop l))[q]? = some u → W.cell? ⟨g, l * 2 + q, none⟩ = some u := fun q u hu => by
      rw [cellsP_drop, cellsP_take, List.getElem?_drop] at hu
      have hq : l * 2 + q < h * 2 := by
        rcases Nat.lt_or_ge (l * 2 + q) (h * 2) with x | x
        · exact x
        · rw [List.getElem?_eq_none (by rw [List.length_take]; omega)] at hu
          cases hu
      rw [List.getElem?_take_of_lt hq, ← ht, List.getElem?_take_of_lt (by omega), Array.getElem?_toList] at hu
      rw [Lib.cell_of_heap hc]
      exact hu
    unfold sliced
    split
    · rename_i ec
      have he : (L.take h).drop l = [] := List.eq_nil_of_length_eq_zero (by omega)
      rw [he]
      refine .inr ⟨⟨g, 0, none⟩, cc - l, by rw [show h - l = 0 by omega], fun q u hu => by simp [cellsP] at hu⟩
    · rw [Option.map_some, Addr.add_lit]
      refine .inr ⟨_, _, rfl, fun q u hu => ?_⟩
      rw [Addr.add_lit]
      have := cell q u hu
      simpa using this
theorem slice_h_runR (W : World) (ca : Option Addr) (n cc j : Nat) (h : j ≤ cc) : (Go.Instr.sliceAt 49 (.slice ca n cc) none (some (.int .i64 (j : Int))) none).run Try.prog W = .ok (sliced ca 0 j cc 2) W := by
  have hu := Try.underlying49
  have he : Try.prog.elem 49 = 73 := by simp [Program.elem, hu]
  have ht : Try.prog.underlying 49 = some (.slice (Try.prog.elem 49)) := by rw [he]; exact hu
  rw [run_sliceAt_slice _ _ _ _ _ _ ht, run_slice_h _ _ _ _ _ ht _ _ (by omega) (by omega), he]
  simp [go_sem]
theorem slice_l_runR (W : World) (ca : Option Addr) (n cc j : Nat) (h : j ≤ n) : (Go.Instr.sliceAt 49 (.slice ca n cc) (some (.int .i64 (j : Int))) none none).run Try.prog W = .ok (sliced ca j n cc 2) W := by
  have hu := Try.underlying49
  have he : Try.prog.elem 49 = 73 := by simp [Program.elem, hu]
  have ht : Try.prog.underlying 49 = some (.slice (Try.prog.elem 49)) := by rw [he]; exact hu
  rw [run_sliceAt_slice _ _ _ _ _ _ ht, run_slice_l _ _ _ _ _ ht _ _ (by omega) (by omega), he]
  simp [go_sem]
theorem row_cellsR {W : World} {g : Nat} {x : Bt × Bt} (hg : W.heap[g]? = some (.cells #[sv x.1, sv x.2] 73 (0, 0))) : ∀ j u, (cellsP [x])[j]? = some u → W.cell? ((⟨g, 0, none⟩ : Addr).add j) = some u := by
  intro j u hu
  rw [Addr.add_lit, Lib.cell_of_heap hg]
  simpa [cellsP] using hu
/-- What the document's store is when its row is another one. -/
def RFin (w : World) (rb : Nat) (L' : Kvs) (W : World) : Prop := ∃ v', RfAt rb v' L' W ∧ (∀ q, v'.ownBlock = some q → w.heap.size ≤ q) ∧ Kt (fun i => i = rb) w W
theorem RFin.below {w : World} {rb : Nat} {L' : Kvs} {W W' : World} (h : RFin w rb L' W) (hb : Below W.heap.size W W') : RFin w rb L' W' := by
  obtain ⟨v', h1, h2, h3⟩ := h
  exact ⟨v', h1.below hb, h2, h3.trans (Kt.below hb) fun _ _ e => e⟩
theorem getD_moreK {listed : Array Bool} {i k : Nat} (h : listed.getD k false = true) : (listed.setIfInBounds i true).getD k false = true := by
  rw [getD_set]
  split
  · rfl
  · exact h
/-- What each operation of the region leaves. -/
def RP (B n j : Nat) (L : Kvs) (x : Bt × Bt) (vr v0 v7 v19 : Value) (listed : Array Bool) (i : Nat) (u : Value) (W : World) : Prop :=
  match i with
  | 0 => u = vr
  | 1 => listed.getD 8 false = true ∨ ∃ g, u = .slice (some ⟨g, 0, none⟩) 0 0 ∧ B ≤ g ∧ W.heap[g]? = some (.cells #[] 73 (0, 0))
  | 2 => u = vr
  | 3 => u = vr
  | 4 => u = vr
  | 5 => u = v0
  | 6 => u = .int .i64 (j : Int)
  | 7 => u = v7
  | 8 => listed.getD 13 false = true ∨ W.ownsRow B 73 2 u j (cellsP (L.take j))
  | 9 => u = sv x.1
  | 10 => u = sv x.2
  | 11 => u = .agg #[sv x.1, sv x.2]
  | 12 => listed.getD 13 false = true ∨ ∃ g, u = .slice (some ⟨g, 0, none⟩) 1 1 ∧ W.heap[g]? = some (.cells #[sv x.1, sv x.2] 73 (0, 0))
  | 13 => listed.getD 20 false = true ∨ W.ownsRow B 73 2 u (j + 1) (cellsP (L.take j) ++ cellsP [x])
  | 14 => u = vr
  | 15 => u = vr
  | 16 => u = vr
  | 17 => u = v0
  | 18 => u = .int .i64 (j : Int)
  | 19 => u = v19
  | 20 => listed.getD 23 false = true ∨ W.ownsRow B 73 2 u (j + 1 + (n - j)) (cellsP (L.take j) ++ cellsP [x] ++ cellsP (L.drop j))
  | 21 => u = vr
  | 22 => u = vr
  | _ => True
theorem RP.below {B n j : Nat} {L : Kvs} {x : Bt × Bt} {vr v0 v7 v19 : Value} {listed : Array Bool} {W W' : World} (hb : Below W.heap.size W W') {i : Nat} : ∀ k u, listed.getD k false = true → RP B n j L x vr v0 v7 v19 listed k u W → RP B n j L x vr v0 v7 v19 (listed.setIfInBounds i true) k u W' := by
  intro k u _ h
  unfold RP at h ⊢
  split at h
  all_goals first
    | exact h
    | exact h.imp getD_moreK fun h => row_below2 h hb
    | (refine h.imp getD_moreK fun h => ?_
       obtain ⟨g, rfl, h1, hg⟩ := h
       exact ⟨g, rfl, h1, by rw [hb.block g (Array.getElem?_eq_some_iff.1 hg).1]; exact hg⟩)
    | (refine h.imp getD_moreK fun h => ?_
       obtain ⟨g, rfl, hg⟩ := h
       exact ⟨g, rfl, by rw [hb.block g (Array.getElem?_eq_some_iff.1 hg).1]; exact hg⟩)
def RG23 (w : World) (rb : Nat) (L' : Kvs) (listed : Array Bool) (W : World) : Prop := Kt (fun i => i = rb) w W ∧ (listed.getD 23 false = true → RFin w rb L' W) ∧ (listed.getD 23 false = false → W.heap[rb]? = w.heap[rb]?)
theorem below_toKt {B : Nat} {w w' : World} {S : Nat → Prop} (h : Below B w w') (hS : ∀ i, i < w.heap.size → B ≤ i → S i) : Kt S w w' := ⟨h.os, h.tape, h.output, h.size, fun i hi hn => by
  rcases Nat.lt_or_ge i B with x | x
  · exact h.block i x
  · exact absurd (hS i hi x) hn⟩
theorem rfin_store {w W : World} {rb n : Nat} {v0 u : Value} {L' : Kvs} {xs : List Value} (hk : Kt (fun i => i = rb) w W) (hb : W.heap[rb]? = some (.cells #[v0] 56 (0, 0))) (hl : rb < w.heap.size) (hr : W.ownsRow w.heap.size 73 2 u n xs) (hn : n = L'.length) (hx : xs = cellsP L') : RFin w rb L' (W.setCell ⟨rb, 0, none⟩ u) := by
  subst hn hx
  have hq : ∀ q, u.ownBlock = some q → w.heap.size ≤ q := fun q e => (row_cells hr q e).1
  refine ⟨u, ⟨by rw [heap_setCell_same _ _ _ _ _ _ hb]; rfl, row_lower (row_kt hr ((Kt.refl (fun i => i = rb) W).set fun _ => rfl) fun g e => by have := hq g e; omega) (Nat.zero_le _)⟩, hq, hk.set fun _ => rfl⟩
theorem getD_ne {listed : Array Bool} {i k : Nat} (h : i ≠ k) : (listed.setIfInBounds i true).getD k false = listed.getD k false := by rw [getD_set, if_neg fun e => h e.1]
theorem RG23.below {w : World} {rb : Nat} {L' : Kvs} {listed : Array Bool} {W W' : World} {i : Nat} (h : RG23 w rb L' listed W) (hl : rb < W.heap.size) (hi : i ≠ 23) (hb : Below W.heap.size W W') : RG23 w rb L' (listed.setIfInBounds i true) W' :=
  ⟨h.1.trans (Kt.below hb) fun _ _ e => e, fun e => (h.2.1 (by rwa [getD_ne hi] at e)).below hb, fun e => (hb.block _ hl).trans (h.2.2 (by rwa [getD_ne hi] at e))⟩
set_option maxRecDepth 100000 in
set_option maxHeartbeats 2000000 in
theorem rput_new (rb : Nat) (v0 : Value) (L : Kvs) (w : World) (k v : Bt) (h : RfAt rb v0 L w) (s : SrtL L) (hk : k.length ≤ 32) (hv : v.length ≤ 256) (hL : L.length < 512) (hg : getL L k = none) :
    Calls Try.prog 10 #[.pointer (some ⟨rb, 0, none⟩), sv k, sv v] w fun e w' => e = .returned (.int .i64 0) ∧ Hid (RFin w rb (putL L k v) w') := by
  have HF := hidb (rfind_any rb v0 L w k h s (by omega))
  rw [hg] at HF
  simp only [Option.isSome_none] at HF
  obtain ⟨ca, cc, rfl, hcc, hcm⟩ := h.form
  have hpl := pos_le L k
  have HP := hidb (putL_pos s (v := v) hg)
  generalize hj : posL L k = j at HF hpl HP
  clear hj s hg
  obtain ⟨n, hn⟩ : ∃ n, n = L.length := ⟨_, rfl⟩
  have c0 := h.c
  have HR := hidb h.row
  have HB := hidb h.box
  have Hn := hidb hn
  have hx0 := heap_ltb h.box
  rw [← hn] at c0 hcc hpl hL HR
  clear h hn
  have hd1 : decide ((32 : Int) < k.length) = false := by simp; omega
  have hd2 : decide ((256 : Int) < v.length) = false := by simp; omega
  have hd3 : decide ((512 : Int) ≤ (n : Int)) = false := by simp; omega
  go_enter Try.func10, Try.ntmps10
  go_wp2_with (first
    | (go_at_call 37; refine HF.out.mono ?_; clear HF; rintro e w1 ⟨rfl, m1, rfl⟩)
    | fail)
  obtain ⟨W0, hW0⟩ : ∃ W0, W0 = w.drewN m1 := ⟨_, rfl⟩
  have hz0 : w.heap.size = W0.heap.size := by rw [hW0]; rfl
  have HK0 : Hid (Kt (fun i => i = rb) w W0 ∧ W0.heap[rb]? = w.heap[rb]?) := hidb (by rw [hW0]; exact ⟨(Kt.refl _ w).drewN m1, rfl⟩)
  rw [← hW0]
  clear hW0 hd1 hd2 hd3 c0
  refine wp_region_each (by kernel_rfl) 64 rfl (by kernel_rfl) (RG23 w rb (L.take j ++ (k, v) :: L.drop j)) (RP w.heap.size n j L (k, v) (.pointer (some ⟨rb, 0, none⟩)) (.slice ca n cc) (sliced ca 0 j cc 2) (sliced ca j n cc 2)) ?start ?each ?fin
  case start => exact ⟨HK0.out.1.drewN 1, fun e => absurd e (by decide), fun _ => HK0.out.2⟩
  case each =>
    intro i o' ho' listed act W hE hnl haf
    have hi : i < 24 := (Array.getElem?_eq_some_iff.1 ho').1
    have t0 : act.tmps[0]?.getD undef = .pointer (some ⟨rb, 0, none⟩) := hE.rest 0 (rest_of (by kernel_rfl))
    have t1 : act.tmps[1]?.getD undef = sv k := hE.rest 1 (rest_of (by kernel_rfl))
    have t2 : act.tmps[2]?.getD undef = sv v := hE.rest 2 (rest_of (by kernel_rfl))
    have t7 : act.tmps[7]?.getD undef = .int .i64 (j : Int) := hE.rest 7 (rest_of (by kernel_rfl))
    have hG := hE.glob
    have hsW : w.heap.size ≤ W.heap.size := hG.1.size
    have hoff := getD_off hnl
    have hlr : rb < W.heap.size := by omega
    have hL2 : W.ownsRow 0 73 2 (.slice ca n cc) L.length (cellsP L) := by
      have hr := HR.out
      rw [Hn.out] at hr
      have := row_kt hr hG.1 fun g e => ?_
      · rw [Hn.out]; exact this
      · rintro rfl
        exact absurd (row_typed hr e HB.out) (by decide)
    have hn2 : n = L.length := Hn.out
    have step : i ≠ 23 → ∀ vv W', Below W.heap.size W W' → RP w.heap.size n j L (k, v) (.pointer (some ⟨rb, 0, none⟩)) (.slice ca n cc) (sliced ca 0 j cc 2) (sliced ca j n cc 2) (listed.setIfInBounds i true) i vv W' → ∃ u, act.put o'.dst vv = act.put o'.dst u ∧ RP w.heap.size n j L (k, v) (.pointer (some ⟨rb, 0, none⟩)) (.slice ca n cc) (sliced ca 0 j cc 2) (sliced ca j n cc 2) (listed.setIfInBounds i true) i u W' ∧ RG23 w rb (L.take j ++ (k, v) :: L.drop j) (listed.setIfInBounds i true) W' ∧ ∀ kk uu, listed.getD kk false = true → RP w.heap.size n j L (k, v) (.pointer (some ⟨rb, 0, none⟩)) (.slice ca n cc) (sliced ca 0 j cc 2) (sliced ca j n cc 2) listed kk uu W → RP w.heap.size n j L (k, v) (.pointer (some ⟨rb, 0, none⟩)) (.slice ca n cc) (sliced ca 0 j cc 2) (sliced ca j n cc 2) (listed.setIfInBounds i true) kk uu W' := fun h23 vv W' hb hv => ⟨vv, rfl, hv, hG.below hlr h23 hb, RP.below hb⟩
    match i, hi, ho', hnl, haf, hoff, step with
    | 0, _, ho', hnl, haf, hoff, step =>
      obtain rfl := Option.some.inj ho'
      exact op_value (v := .pointer (some ⟨rb, 0, none⟩)) (W' := W) (by simp [execOp, go_sem, t0]) (step (by decide) _ _ (Below.refl _ _) rfl)
    | 1, _, ho', hnl, haf, hoff, step =>
      obtain rfl := Option.some.inj ho'
      exact op_value (v := .slice (some ⟨W.heap.size, 0, none⟩) 0 0) (W' := W.alloc (.cells #[] 73)) (by simp [execOp, go_sem]) (step (by decide) _ _ ((Below.refl _ W).alloc (Nat.le_refl _) _) (.inr ⟨_, rfl, hsW, heap_alloc_new W _⟩))
    | 2, _, ho', hnl, haf, hoff, step =>
      obtain rfl := Option.some.inj ho'
      exact op_value (v := .pointer (some ⟨rb, 0, none⟩)) (W' := W) (by simp [execOp, go_sem, t0]) (step (by decide) _ _ (Below.refl _ _) rfl)
    | 3, _, ho', hnl, haf, hoff, step =>
      obtain rfl := Option.some.inj ho'
      have h2 := hE.vals 2 _ 43 rfl (haf ⟨2, .data⟩ (by simp) rfl) rfl
      simp only [RP] at h2
      exact op_value (v := .pointer (some ⟨rb, 0, none⟩)) (W' := W) (by simp [execOp, go_sem, h2]) (step (by decide) _ _ (Below.refl _ _) rfl)
    | 4, _, ho', hnl, haf, hoff, step =>
      obtain rfl := Option.some.inj ho'
      have h3 := hE.vals 3 _ 44 rfl (haf ⟨3, .data⟩ (by simp) rfl) rfl
      simp only [RP] at h3
      exact op_value (v := .pointer (some ⟨rb, 0, none⟩)) (W' := W) (by simp [execOp, go_sem, h3]) (step (by decide) _ _ (Below.refl _ _) rfl)
    | 5, _, ho', hnl, haf, hoff, step =>
      obtain rfl := Option.some.inj ho'
      have h4 := hE.vals 4 _ 45 rfl (haf ⟨4, .data⟩ (by simp) rfl) rfl
      simp only [RP] at h4
      have h23 : listed.getD 23 false = false := by
        cases e : listed.getD 23 false with
        | false => rfl
        | true => have := (hE.closed 7 _ rfl (hE.closed 8 _ rfl (hE.closed 13 _ rfl (hE.closed 20 _ rfl (hE.closed 23 _ rfl e ⟨20, .data⟩ (by simp) rfl) ⟨13, .data⟩ (by simp) rfl) ⟨8, .data⟩ (by simp) rfl) ⟨7, .data⟩ (by simp) rfl) ⟨5, .data⟩ (by simp) rfl); rw [hoff] at this; cases this
      have cW : W.cell? ⟨rb, 0, none⟩ = some (.slice ca n cc) := by rw [Lib.cell_of_heap ((hG.2.2 h23).trans HB.out), hn2]; rfl
      exact op_value (v := .slice ca n cc) (W' := W) (by simp [execOp, go_sem, h4, cW]) (step (by decide) _ _ (Below.refl _ _) rfl)
    | 6, _, ho', hnl, haf, hoff, step =>
      obtain rfl := Option.some.inj ho'
      exact op_value (v := .int .i64 (j : Int)) (W' := W) (by simp [execOp, go_sem, t7]) (step (by decide) _ _ (Below.refl _ _) rfl)
    | 7, _, ho', hnl, haf, hoff, step =>
      obtain rfl := Option.some.inj ho'
      have h5 := hE.vals 5 _ 46 rfl (haf ⟨5, .data⟩ (by simp) rfl) rfl
      have h6 := hE.vals 6 _ 47 rfl (haf ⟨6, .data⟩ (by simp) rfl) rfl
      simp only [RP] at h5 h6
      exact op_value (v := sliced ca 0 j cc 2) (W' := W) (by simp [execOp, eval_tmp, h5, h6, slice_h_runR W ca n cc j (by omega)]) (step (by decide) _ _ (Below.refl _ _) rfl)
    | 8, _, ho', hnl, haf, hoff, step =>
      obtain rfl := Option.some.inj ho'
      have h1 := hE.vals 1 _ 42 rfl (haf ⟨1, .data⟩ (by simp) rfl) rfl
      have h7 := hE.vals 7 _ 48 rfl (haf ⟨7, .data⟩ (by simp) rfl) rfl
      simp only [RP] at h1 h7
      rw [hoff] at h1
      rcases h1 with h1 | ⟨g, hu, hgb, hgl⟩
      · cases h1
      have hl := lies_pieceR hL2 (Nat.zero_le j) (by omega : j ≤ L.length)
      rw [Nat.sub_zero, List.drop_zero] at hl
      refine wp_app0 W (.tmp 42) (.tmp 48) 49 rfl elemN_pairR w.heap.size g hgb hgl ((eval_tmp _ _).trans hu) _ ((eval_tmp _ _).trans h7) j (cellsP (L.take j)) hl (by rw [cellsP_len, List.length_take]; omega) (cellsP_one _) (by unfold maxLen; omega) (by omega) hsW ?_
      intro v' W' hr' hb'
      exact step (by decide) _ _ hb' (.inr hr')
    | 9, _, ho', hnl, haf, hoff, step =>
      obtain rfl := Option.some.inj ho'
      exact op_value (v := sv k) (W' := W) (by simp [execOp, go_sem, t1]) (step (by decide) _ _ (Below.refl _ _) rfl)
    | 10, _, ho', hnl, haf, hoff, step =>
      obtain rfl := Option.some.inj ho'
      exact op_value (v := sv v) (W' := W) (by simp [execOp, go_sem, t2]) (step (by decide) _ _ (Below.refl _ _) rfl)
    | 11, _, ho', hnl, haf, hoff, step =>
      obtain rfl := Option.some.inj ho'
      have h9 := hE.vals 9 _ 50 rfl (haf ⟨9, .data⟩ (by simp) rfl) rfl
      have h10 := hE.vals 10 _ 51 rfl (haf ⟨10, .data⟩ (by simp) rfl) rfl
      simp only [RP] at h9 h10
      exact op_value (v := .agg #[sv k, sv v]) (W' := W) (by simp [execOp, go_sem, h9, h10]) (step (by decide) _ _ (Below.refl _ _) rfl)
    | 12, _, ho', hnl, haf, hoff, step =>
      obtain rfl := Option.some.inj ho'
      have h11 := hE.vals 11 _ 52 rfl (haf ⟨11, .data⟩ (by simp) rfl) rfl
      simp only [RP] at h11
      exact op_value (v := .slice (some ⟨W.heap.size, 0, none⟩) 1 1) (W' := W.alloc (.cells #[sv k, sv v] 73)) (by simp [execOp, go_sem, h11]) (step (by decide) _ _ ((Below.refl _ W).alloc (Nat.le_refl _) _) (.inr ⟨_, rfl, heap_alloc_new W _⟩))
    | 13, _, ho', hnl, haf, hoff, step =>
      obtain rfl := Option.some.inj ho'
      have l8 := haf ⟨8, .data⟩ (by simp) rfl
      have l12 := haf ⟨12, .data⟩ (by simp) rfl
      have h8 := hE.vals 8 _ 49 rfl l8 rfl
      have h12 := hE.vals 12 _ 53 rfl l12 rfl
      simp only [RP] at h8 h12
      rw [hoff] at h8 h12
      rcases h8 with h8 | h8
      · cases h8
      rcases h12 with h12 | ⟨g, h12, hg⟩
      · cases h12
      refine wp_appN W (.tmp 49) (.tmp 53) 49 rfl elemN_pairR w.heap.size _ j (cellsP (L.take j)) (eval_tmp _ _) h8 _ ((eval_tmp _ _).trans h12) 1 (cellsP [(k, v)]) (.inr ⟨⟨g, 0, none⟩, 1, rfl, row_cellsR (x := (k, v)) hg⟩) rfl (cellsP_one _) (by unfold maxLen; omega) (by omega) hsW ?_
      intro v' W' hr' hs'
      refine ⟨v', rfl, .inr hr', ?_, ?_⟩
      · have h23 : listed.getD 23 false = false := by
          cases e : listed.getD 23 false with
          | false => rfl
          | true => have := (hE.closed 20 _ rfl (hE.closed 23 _ rfl e ⟨20, .data⟩ (by simp) rfl) ⟨13, .data⟩ (by simp) rfl); rw [hoff] at this; cases this
        have hB := hs'.below hsW fun q h => (h8.lt q h).1
        exact ⟨hG.1.trans (below_toKt (S := fun i => w.heap.size ≤ i) hB fun i _ e => e) fun i hi e => by omega, fun e => (by rw [getD_ne (by decide), h23] at e; cases e), fun _ => (hB.block _ hx0).trans (hG.2.2 h23)⟩
      intro q u hq h
      have n13 : q ≠ 13 := fun e => by subst e; rw [hoff] at hq; cases hq
      have n20 : q ≠ 20 := fun e0 => by
        subst e0
        have := hE.closed 20 _ rfl hq ⟨13, .data⟩ (by simp) rfl
        rw [hoff] at this; cases this
      have s13 : (listed.setIfInBounds 13 true).getD 13 false = true := by rw [getD_set, if_pos ⟨rfl, getD_lt hnl⟩]
      unfold RP at h ⊢
      split at h
      all_goals first
        | exact h
        | exact .inl (getD_moreK l8)
        | exact .inl s13
        | exact absurd rfl n13
        | exact absurd rfl n20
    | 14, _, ho', hnl, haf, hoff, step =>
      obtain rfl := Option.some.inj ho'
      exact op_value (v := .pointer (some ⟨rb, 0, none⟩)) (W' := W) (by simp [execOp, go_sem, t0]) (step (by decide) _ _ (Below.refl _ _) rfl)
    | 15, _, ho', hnl, haf, hoff, step =>
      obtain rfl := Option.some.inj ho'
      have h14 := hE.vals 14 _ 55 rfl (haf ⟨14, .data⟩ (by simp) rfl) rfl
      simp only [RP] at h14
      exact op_value (v := .pointer (some ⟨rb, 0, none⟩)) (W' := W) (by simp [execOp, go_sem, h14]) (step (by decide) _ _ (Below.refl _ _) rfl)
    | 16, _, ho', hnl, haf, hoff, step =>
      obtain rfl := Option.some.inj ho'
      have h15 := hE.vals 15 _ 56 rfl (haf ⟨15, .data⟩ (by simp) rfl) rfl
      simp only [RP] at h15
      exact op_value (v := .pointer (some ⟨rb, 0, none⟩)) (W' := W) (by simp [execOp, go_sem, h15]) (step (by decide) _ _ (Below.refl _ _) rfl)
    | 17, _, ho', hnl, haf, hoff, step =>
      obtain rfl := Option.some.inj ho'
      have h16 := hE.vals 16 _ 57 rfl (haf ⟨16, .data⟩ (by simp) rfl) rfl
      simp only [RP] at h16
      have h23 : listed.getD 23 false = false := by
        cases e : listed.getD 23 false with
        | false => rfl
        | true => have := (hE.closed 19 _ rfl (hE.closed 20 _ rfl (hE.closed 23 _ rfl e ⟨20, .data⟩ (by simp) rfl) ⟨19, .data⟩ (by simp) rfl) ⟨17, .data⟩ (by simp) rfl); rw [hoff] at this; cases this
      have cW : W.cell? ⟨rb, 0, none⟩ = some (.slice ca n cc) := by rw [Lib.cell_of_heap ((hG.2.2 h23).trans HB.out), hn2]; rfl
      exact op_value (v := .slice ca n cc) (W' := W) (by simp [execOp, go_sem, h16, cW]) (step (by decide) _ _ (Below.refl _ _) rfl)
    | 18, _, ho', hnl, haf, hoff, step =>
      obtain rfl := Option.some.inj ho'
      exact op_value (v := .int .i64 (j : Int)) (W' := W) (by simp [execOp, go_sem, t7]) (step (by decide) _ _ (Below.refl _ _) rfl)
    | 19, _, ho', hnl, haf, hoff, step =>
      obtain rfl := Option.some.inj ho'
      have h17 := hE.vals 17 _ 58 rfl (haf ⟨17, .data⟩ (by simp) rfl) rfl
      have h18 := hE.vals 18 _ 59 rfl (haf ⟨18, .data⟩ (by simp) rfl) rfl
      simp only [RP] at h17 h18
      exact op_value (v := sliced ca j n cc 2) (W' := W) (by simp [execOp, eval_tmp, h17, h18, slice_l_runR W ca n cc j (by omega)]) (step (by decide) _ _ (Below.refl _ _) rfl)
    | 20, _, ho', hnl, haf, hoff, step =>
      obtain rfl := Option.some.inj ho'
      have l13 := haf ⟨13, .data⟩ (by simp) rfl
      have h13 := hE.vals 13 _ 54 rfl l13 rfl
      have h19 := hE.vals 19 _ 60 rfl (haf ⟨19, .data⟩ (by simp) rfl) rfl
      simp only [RP] at h13 h19
      rw [hoff] at h13
      rcases h13 with h13 | h13
      · cases h13
      have hl := lies_pieceR hL2 (l := j) (h := L.length) (by omega) (Nat.le_refl _)
      rw [List.take_length, ← hn2] at hl
      refine wp_appN W (.tmp 54) (.tmp 60) 49 rfl elemN_pairR w.heap.size _ (j + 1) (cellsP (L.take j) ++ cellsP [(k, v)]) (eval_tmp _ _) h13 _ ((eval_tmp _ _).trans h19) (n - j) (cellsP (L.drop j)) hl (by rw [cellsP_len, List.length_drop]; omega) (cellsP_one _) (by unfold maxLen; omega) (by omega) hsW ?_
      intro v' W' hr' hs'
      refine ⟨v', rfl, .inr hr', ?_, ?_⟩
      · have h23 : listed.getD 23 false = false := by
          cases e : listed.getD 23 false with
          | false => rfl
          | true => have := (hE.closed 23 _ rfl e ⟨20, .data⟩ (by simp) rfl); rw [hoff] at this; cases this
        have hB := hs'.below hsW fun q h => (h13.lt q h).1
        exact ⟨hG.1.trans (below_toKt (S := fun i => w.heap.size ≤ i) hB fun i _ e => e) fun i hi e => by omega, fun e => (by rw [getD_ne (by decide), h23] at e; cases e), fun _ => (hB.block _ hx0).trans (hG.2.2 h23)⟩
      intro q u hq h
      have l8 := hE.closed 13 _ rfl l13 ⟨8, .data⟩ (by simp) rfl
      have n20 : q ≠ 20 := fun e => by subst e; rw [hoff] at hq; cases hq
      have s20 : (listed.setIfInBounds 20 true).getD 20 false = true := by rw [getD_set, if_pos ⟨rfl, getD_lt hnl⟩]
      unfold RP at h ⊢
      split at h
      all_goals first
        | exact h
        | exact .inl (getD_moreK l8)
        | exact .inl (getD_moreK l13)
        | exact .inl s20
        | exact absurd rfl n20
    | 21, _, ho', hnl, haf, hoff, step =>
      obtain rfl := Option.some.inj ho'
      have h0 := hE.vals 0 _ 41 rfl (haf ⟨0, .data⟩ (by simp) rfl) rfl
      simp only [RP] at h0
      exact op_value (v := .pointer (some ⟨rb, 0, none⟩)) (W' := W) (by simp [execOp, go_sem, h0]) (step (by decide) _ _ (Below.refl _ _) rfl)
    | 22, _, ho', hnl, haf, hoff, step =>
      obtain rfl := Option.some.inj ho'
      have h21 := hE.vals 21 _ 62 rfl (haf ⟨21, .data⟩ (by simp) rfl) rfl
      simp only [RP] at h21
      exact op_value (v := .pointer (some ⟨rb, 0, none⟩)) (W' := W) (by simp [execOp, go_sem, h21]) (step (by decide) _ _ (Below.refl _ _) rfl)
    | 23, _, ho', hnl, haf, hoff, step =>
      obtain rfl := Option.some.inj ho'
      have h22 := hE.vals 22 _ 63 rfl (haf ⟨22, .data⟩ (by simp) rfl) rfl
      have h20 := hE.vals 20 _ 61 rfl (haf ⟨20, .data⟩ (by simp) rfl) rfl
      simp only [RP] at h22 h20
      rw [hoff] at h20
      rcases h20 with h20 | h20
      · cases h20
      have cW : W.cell? ⟨rb, 0, none⟩ = some (.slice ca n cc) := by rw [Lib.cell_of_heap ((hG.2.2 hoff).trans HB.out), hn2]; rfl
      have fW : W.frozen? ⟨rb, 0, none⟩ = false := Lib.frozen_of_heap ((hG.2.2 hoff).trans HB.out) 0
      have l20 := haf ⟨20, .data⟩ (by simp) rfl
      have l13 := hE.closed 20 _ rfl l20 ⟨13, .data⟩ (by simp) rfl
      have l8 := hE.closed 13 _ rfl l13 ⟨8, .data⟩ (by simp) rfl
      have s23 : (listed.setIfInBounds 23 true).getD 23 false = true := by rw [getD_set, if_pos ⟨rfl, getD_lt hnl⟩]
      have hfin := rfin_store hG.1 ((hG.2.2 hoff).trans HB.out) hx0 h20 (show (j + 1 + (n - j)) = (L.take j ++ (k, v) :: L.drop j).length by simp; omega) (by simp [cellsP])
      obtain ⟨na, nc, e61, _⟩ := row_form h20
      rw [e61] at hfin
      refine op_skip (W' := W.setCell ⟨rb, 0, none⟩ (.slice na (j + 1 + (n - j)) nc)) (by simp [execOp, go_sem, h22, e61, cW, fW]) ?_
      refine ⟨undef, rfl, trivial, ⟨by obtain ⟨_, _, _, h3⟩ := hfin; exact h3, fun _ => hfin, fun e => by rw [s23] at e; cases e⟩, ?_⟩
      intro q u hq h
      unfold RP at h ⊢
      split at h
      all_goals first
        | exact h
        | exact .inl (getD_moreK l8)
        | exact .inl (getD_moreK l13)
        | exact .inl (getD_moreK l20)
        | exact .inl s23
  case fin =>
    intro act W hE
    have hfin := hE.glob.2.1 rfl
    rw [← HP.out] at hfin
    have HF := hidb hfin
    have hsz := hE.tsize
    have hdf := hE.defers
    obtain ⟨tm, df⟩ := act
    simp only at hsz hdf
    have htm := arr_out 64 tm (by rw [hsz]; rfl) undef
    simp only [List.range, List.range.loop, List.map_cons, List.map_nil] at htm
    generalize tm[0]?.getD undef = u0 at htm
    generalize tm[1]?.getD undef = u1 at htm
    generalize tm[2]?.getD undef = u2 at htm
    generalize tm[3]?.getD undef = u3 at htm
    generalize tm[4]?.getD undef = u4 at htm
    generalize tm[5]?.getD undef = u5 at htm
    generalize tm[6]?.getD undef = u6 at htm
    generalize tm[7]?.getD undef = u7 at htm
    generalize tm[8]?.getD undef = u8 at htm
    generalize tm[9]?.getD undef = u9 at htm
    generalize tm[10]?.getD undef = u10 at htm
    generalize tm[11]?.getD undef = u11 at htm
    generalize tm[12]?.getD undef = u12 at htm
    generalize tm[13]?.getD undef = u13 at htm
    generalize tm[14]?.getD undef = u14 at htm
    generalize tm[15]?.getD undef = u15 at htm
    generalize tm[16]?.getD undef = u16 at htm
    generalize tm[17]?.getD undef = u17 at htm
    generalize tm[18]?.getD undef = u18 at htm
    generalize tm[19]?.getD undef = u19 at htm
    generalize tm[20]?.getD undef = u20 at htm
    generalize tm[21]?.getD undef = u21 at htm
    generalize tm[22]?.getD undef = u22 at htm
    generalize tm[23]?.getD undef = u23 at htm
    generalize tm[24]?.getD undef = u24 at htm
    generalize tm[25]?.getD undef = u25 at htm
    generalize tm[26]?.getD undef = u26 at htm
    generalize tm[27]?.getD undef = u27 at htm
    generalize tm[28]?.getD undef = u28 at htm
    generalize tm[29]?.getD undef = u29 at htm
    generalize tm[30]?.getD undef = u30 at htm
    generalize tm[31]?.getD undef = u31 at htm
    generalize tm[32]?.getD undef = u32 at htm
    generalize tm[33]?.getD undef = u33 at htm
    generalize tm[34]?.getD undef = u34 at htm
    generalize tm[35]?.getD undef = u35 at htm
    generalize tm[36]?.getD undef = u36 at htm
    generalize tm[37]?.getD undef = u37 at htm
    generalize tm[38]?.getD undef = u38 at htm
    generalize tm[39]?.getD undef = u39 at htm
    generalize tm[40]?.getD undef = u40 at htm
    generalize tm[41]?.getD undef = u41 at htm
    generalize tm[42]?.getD undef = u42 at htm
    generalize tm[43]?.getD undef = u43 at htm
    generalize tm[44]?.getD undef = u44 at htm
    generalize tm[45]?.getD undef = u45 at htm
    generalize tm[46]?.getD undef = u46 at htm
    generalize tm[47]?.getD undef = u47 at htm
    generalize tm[48]?.getD undef = u48 at htm
    generalize tm[49]?.getD undef = u49 at htm
    generalize tm[50]?.getD undef = u50 at htm
    generalize tm[51]?.getD undef = u51 at htm
    generalize tm[52]?.getD undef = u52 at htm
    generalize tm[53]?.getD undef = u53 at htm
    generalize tm[54]?.getD undef = u54 at htm
    generalize tm[55]?.getD undef = u55 at htm
    generalize tm[56]?.getD undef = u56 at htm
    generalize tm[57]?.getD undef = u57 at htm
    generalize tm[58]?.getD undef = u58 at htm
    generalize tm[59]?.getD undef = u59 at htm
    generalize tm[60]?.getD undef = u60 at htm
    generalize tm[61]?.getD undef = u61 at htm
    generalize tm[62]?.getD undef = u62 at htm
    generalize tm[63]?.getD undef = u63 at htm
    subst hdf
    rw [htm]
    clear hE htm hsz
    go_wp2_with fail
    go_ret
    exact ⟨rfl, HF⟩
end Go.Proofs.Ytcjakgogdbfagaa
