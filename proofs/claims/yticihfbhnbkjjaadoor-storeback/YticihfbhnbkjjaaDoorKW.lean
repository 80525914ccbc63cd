/- Layer 11: a tree and a store copied. -/
import Derived.Test.YticihfbhnbkjjaaDoorKY
namespace Go.Proofs.YticihfbhnbkjjaaDoor
open Go.RowKit
theorem wp_app00 {P : Program} {w : World} {o : Oper} {a : Act} {K : Act → World → Prop} {Q : Exit → Act → World → Prop} (s x : Operand) (t : TypeId) (ho : o.op = .call { callee := .builtin .append, args := #[s, x], argTypes := #[t, t] })
    {e : TypeId} {size bytes : Nat} (E : ElemN P t e size bytes) (g : Nat) (ad : Addr) (m c : Nat) (news : List Value) (hv : a.eval s = .slice (some ⟨g, 0, none⟩) 0 0) (hyv : a.eval x = .slice (some ad) m c) (hn : ∀ j u, news[j]? = some u → w.cell? (ad.add j) = some u) (hl : news.length = m * size) (h1 : ∀ u ∈ news, u.oneCell' = true) (hm : 0 < m)
    (h63 : m ≤ maxLen) (hbytes : m * bytes ≤ 140737488355328)
    (h : ∀ v' w', w'.ownsRow w.heap.size e size v' m news → Below w.heap.size w w' → K (a.put o.dst v') w') : o.wp P a w K Q := by
  obtain ⟨v', w', hr, h2, h3⟩ := run_app00 (P := P) w (ty := o.type) E g ad m c news hn hl h1 hm h63 hbytes
  unfold Oper.wp execOp
  simp only [ho, resolve, invoke, builtin, Sem.run_bind, Sem.run_pure, Result.andThen_ok, List.map_toArray, List.map_cons, List.map_nil, hv, hyv, hr]
  exact h v' w' h2 h3
theorem row_lowW {w : World} {B B' n size : Nat} {e : TypeId} {v : Value} {xs : List Value} (h : w.ownsRow B e size v n xs) (hB : B' ≤ B) : w.ownsRow B' e size v n xs := by
  obtain ⟨hl, r⟩ := h
  refine ⟨hl, r.imp id ?_⟩
  rintro ⟨g, cap, cur, e, hg, r⟩
  exact ⟨g, cap, cur, e, Nat.le_trans hB hg, r⟩
theorem flat_one (f : Nat → Nd) : ∀ n, ∀ u ∈ flat f n, u.oneCell' = true
  | 0 => fun u h => by cases h
  | n + 1 => fun u h => by
    rw [flat, List.mem_append] at h
    rcases h with h | h
    · exact flat_one f n u h
    · simp only [Nd.row, List.mem_cons, List.not_mem_nil, or_false] at h
      rcases h with rfl | rfl | rfl | rfl | rfl <;> rfl
theorem TS.cells {tb g n cap root : Nat} {f : Nat → Nd} {w : World} (h : TS tb g n cap root f w) (j : Nat) (u : Value) (hj : (flat f n)[j]? = some u) : w.cell? ((⟨g, 0, none⟩ : Addr).add j) = some u := by
  obtain ⟨cur, h1, h2, h3, h4⟩ := h.nb
  have hl : j < n * 5 := by
    have := (List.getElem?_eq_some_iff.1 hj).1
    rwa [flat_len] at this
  rw [show (⟨g, 0, none⟩ : Addr).add j = ⟨g, j, none⟩ by simp [Addr.add, Addr.mk.injEq]; omega, Lib.cell_of_heap h1]
  have e : j / 5 * 5 + j % 5 = j := by omega
  have := h4 (j / 5) (by omega) (j % 5) (by omega)
  rw [e] at this
  rw [this]
  have := flat_at f (p := j / 5) (k := j % 5) (by omega) n (by omega)
  rw [e, hj] at this
  exact this.symm
theorem row_slice {W : World} {B n size : Nat} {e : TypeId} {v : Value} {xs : List Value} (r : W.ownsRow B e size v n xs) (hn0 : 0 < n) : ∃ g2 c2, v = .slice (some ⟨g2, 0, none⟩) n c2 := by
  rcases r.2 with ⟨_, hz, _⟩ | ⟨g2, c2, cur, hv, _⟩
  · omega
  · exact ⟨g2, c2, hv⟩
def YP (B tb n root : Nat) (f : Nat → Nd) (vs v4 : Value) (_ : Array Bool) (i : Nat) (u : Value) (W : World) : Prop :=
  match i with
  | 3 => u = vs
  | 4 => u = v4
  | 8 => u = vs
  | 9 => W.ownsRow B 99 5 u n (flat f n)
  | 12 => u = .pointer (some ⟨tb, 1, none⟩)
  | 13 => u = .int .i64 root
  | 14 => ∃ v, u = .agg #[v, .int .i64 root] ∧ W.ownsRow B 99 5 v n (flat f n)
  | 15 => ∃ t2 v, u = .pointer (some ⟨t2, 0, none⟩) ∧ B ≤ t2 ∧ W.heap[t2]? = some (.cells #[v, .int .i64 root] 90 (0, 0)) ∧ W.ownsRow B 99 5 v n (flat f n)
  | 16 => ∃ t2 v, u = .pointer (some ⟨t2, 0, none⟩) ∧ B ≤ t2 ∧ W.heap[t2]? = some (.cells #[v, .int .i64 root] 90 (0, 0)) ∧ W.ownsRow B 99 5 v n (flat f n)
  | _ => u = .pointer (some ⟨tb, 0, none⟩)
theorem YP.below {B tb n root : Nat} {f : Nat → Nd} {vs v4 : Value} {listed : Array Bool} {W W' : World} (hb : Below W.heap.size W W') {i : Nat} : ∀ k u, listed.getD k false = true → YP B tb n root f vs v4 listed k u W → YP B tb n root f vs v4 (listed.setIfInBounds i true) k u W' := by
  intro k u _ h
  unfold YP at h ⊢
  split at h
  all_goals first
    | exact h
    | exact row_below2 h hb
    | (obtain ⟨v, h1, h2⟩ := h
       exact ⟨v, h1, row_below2 h2 hb⟩)
    | (obtain ⟨t2, v, h1, h2, h3, h4⟩ := h
       exact ⟨t2, v, h1, h2, by rw [hb.block t2 (Array.getElem?_eq_some_iff.1 h3).1]; exact h3, row_below2 h4 hb⟩)
set_option maxRecDepth 100000 in
set_option maxHeartbeats 1000000 in
theorem copied_any (tb g n cap root : Nat) (f : Nat → Nd) (w : World) (h : TS tb g n cap root f w) (hn0 : 0 < n) (hn1 : n * 56 ≤ 140737488355328) :
    Calls Tryd.prog 57 #[.pointer (some ⟨tb, 0, none⟩)] w fun e w' => ∃ t2, e = .returned (.pointer (some ⟨t2, 0, none⟩)) ∧ Hid (∃ g2 c2, TS t2 g2 n c2 root f w' ∧ w.heap.size ≤ t2 ∧ w.heap.size ≤ g2 ∧ Below w.heap.size w w') := by
  go_enter Tryd.func57, Tryd.ntmps57
  go_wp2_with fail
  refine wp_region_each (by kernel_rfl) 19 rfl (by kernel_rfl) (fun _ W => Below w.heap.size w W) (YP w.heap.size tb n root f (.slice (some ⟨g, 0, none⟩) n cap) (.slice (some ⟨g, 0, none⟩) 0 0)) ?start ?each ?fin
  case start => exact (Below.refl _ _).drew
  case each =>
    intro i o ho listed a W hE hnl haf
    have hi : i < 17 := (Array.getElem?_eq_some_iff.1 ho).1
    have t0 : a.tmps[0]?.getD undef = .pointer (some ⟨tb, 0, none⟩) := hE.rest 0 (rest_of (by kernel_rfl))
    have hG : Below w.heap.size w W := hE.glob
    have hsW : w.heap.size ≤ W.heap.size := hG.size
    have hW : TS tb g n cap root f W := h.keep (hG.block _ h.ltb) (hG.block _ h.ltg)
    have step : ∀ v W', Below W.heap.size W W' → YP w.heap.size tb n root f (.slice (some ⟨g, 0, none⟩) n cap) (.slice (some ⟨g, 0, none⟩) 0 0) (listed.setIfInBounds i true) i v W' → ∃ u, a.put o.dst v = a.put o.dst u ∧ YP w.heap.size tb n root f (.slice (some ⟨g, 0, none⟩) n cap) (.slice (some ⟨g, 0, none⟩) 0 0) (listed.setIfInBounds i true) i u W' ∧ Below w.heap.size w W' ∧ ∀ j u, listed.getD j false = true → YP w.heap.size tb n root f (.slice (some ⟨g, 0, none⟩) n cap) (.slice (some ⟨g, 0, none⟩) 0 0) listed j u W → YP w.heap.size tb n root f (.slice (some ⟨g, 0, none⟩) n cap) (.slice (some ⟨g, 0, none⟩) 0 0) (listed.setIfInBounds i true) j u W' := fun v W' hb hv => ⟨v, rfl, hv, hG.trans (hb.mono hsW), YP.below hb⟩
    match i, hi, ho, hnl, haf, step with
    | 0, _, ho, hnl, haf, step =>
      obtain rfl := Option.some.inj ho
      exact op_value (v := .pointer (some ⟨tb, 0, none⟩)) (W' := W) (by simp [execOp, go_sem, t0]) (step _ _ (Below.refl _ _) rfl)
    | 1, _, ho, hnl, haf, step =>
      obtain rfl := Option.some.inj ho
      have h0 := hE.vals 0 _ 3 rfl (haf ⟨0, .data⟩ (by simp) rfl) rfl
      simp only [YP] at h0
      exact op_value (v := .pointer (some ⟨tb, 0, none⟩)) (W' := W) (by simp [execOp, go_sem, h0]) (step _ _ (Below.refl _ _) rfl)
    | 2, _, ho, hnl, haf, step =>
      obtain rfl := Option.some.inj ho
      have h0 := hE.vals 1 _ 4 rfl (haf ⟨1, .data⟩ (by simp) rfl) rfl
      simp only [YP] at h0
      exact op_value (v := .pointer (some ⟨tb, 0, none⟩)) (W' := W) (by simp [execOp, go_sem, h0]) (step _ _ (Below.refl _ _) rfl)
    | 3, _, ho, hnl, haf, step =>
      obtain rfl := Option.some.inj ho
      have h0 := hE.vals 2 _ 5 rfl (haf ⟨2, .data⟩ (by simp) rfl) rfl
      simp only [YP] at h0
      exact op_value (v := .slice (some ⟨g, 0, none⟩) n cap) (W' := W) (by simp [execOp, go_sem, h0, hW.c0]) (step _ _ (Below.refl _ _) rfl)
    | 4, _, ho, hnl, haf, step =>
      obtain rfl := Option.some.inj ho
      have h0 := hE.vals 3 _ 6 rfl (haf ⟨3, .data⟩ (by simp) rfl) rfl
      simp only [YP] at h0
      exact op_value (v := .slice (some ⟨g, 0, none⟩) 0 0) (W' := W) (by simp [execOp, Act.eval, h0, slice_00_run W g n cap]) (step _ _ (Below.refl _ _) rfl)
    | 5, _, ho, hnl, haf, step =>
      obtain rfl := Option.some.inj ho
      exact op_value (v := .pointer (some ⟨tb, 0, none⟩)) (W' := W) (by simp [execOp, go_sem, t0]) (step _ _ (Below.refl _ _) rfl)
    | 6, _, ho, hnl, haf, step =>
      obtain rfl := Option.some.inj ho
      have h0 := hE.vals 5 _ 8 rfl (haf ⟨5, .data⟩ (by simp) rfl) rfl
      simp only [YP] at h0
      exact op_value (v := .pointer (some ⟨tb, 0, none⟩)) (W' := W) (by simp [execOp, go_sem, h0]) (step _ _ (Below.refl _ _) rfl)
    | 7, _, ho, hnl, haf, step =>
      obtain rfl := Option.some.inj ho
      have h0 := hE.vals 6 _ 9 rfl (haf ⟨6, .data⟩ (by simp) rfl) rfl
      simp only [YP] at h0
      exact op_value (v := .pointer (some ⟨tb, 0, none⟩)) (W' := W) (by simp [execOp, go_sem, h0]) (step _ _ (Below.refl _ _) rfl)
    | 8, _, ho, hnl, haf, step =>
      obtain rfl := Option.some.inj ho
      have h0 := hE.vals 7 _ 10 rfl (haf ⟨7, .data⟩ (by simp) rfl) rfl
      simp only [YP] at h0
      exact op_value (v := .slice (some ⟨g, 0, none⟩) n cap) (W' := W) (by simp [execOp, go_sem, h0, hW.c0]) (step _ _ (Below.refl _ _) rfl)
    | 9, _, ho, hnl, haf, step =>
      obtain rfl := Option.some.inj ho
      have h4 := hE.vals 4 _ 7 rfl (haf ⟨4, .data⟩ (by simp) rfl) rfl
      have h8 := hE.vals 8 _ 11 rfl (haf ⟨8, .data⟩ (by simp) rfl) rfl
      simp only [YP] at h4 h8
      refine wp_app00 (.tmp 7) (.tmp 11) 88 rfl elemN_node g ⟨g, 0, none⟩ n cap (flat f n) ((eval_tmp _ _).trans h4) ((eval_tmp _ _).trans h8) hW.cells (flat_len f n) (flat_one f n) hn0 (by unfold maxLen; omega) hn1 ?_
      intro v' W' hr' hb'
      exact step _ _ hb' (row_lowW hr' hsW)
    | 10, _, ho, hnl, haf, step =>
      obtain rfl := Option.some.inj ho
      exact op_value (v := .pointer (some ⟨tb, 0, none⟩)) (W' := W) (by simp [execOp, go_sem, t0]) (step _ _ (Below.refl _ _) rfl)
    | 11, _, ho, hnl, haf, step =>
      obtain rfl := Option.some.inj ho
      have h0 := hE.vals 10 _ 13 rfl (haf ⟨10, .data⟩ (by simp) rfl) rfl
      simp only [YP] at h0
      exact op_value (v := .pointer (some ⟨tb, 0, none⟩)) (W' := W) (by simp [execOp, go_sem, h0]) (step _ _ (Below.refl _ _) rfl)
    | 12, _, ho, hnl, haf, step =>
      obtain rfl := Option.some.inj ho
      have h0 := hE.vals 11 _ 14 rfl (haf ⟨11, .data⟩ (by simp) rfl) rfl
      simp only [YP] at h0
      exact op_value (v := .pointer (some ⟨tb, 1, none⟩)) (W' := W) (by simp [execOp, go_sem, h0]) (step _ _ (Below.refl _ _) rfl)
    | 13, _, ho, hnl, haf, step =>
      obtain rfl := Option.some.inj ho
      have h0 := hE.vals 12 _ 15 rfl (haf ⟨12, .data⟩ (by simp) rfl) rfl
      simp only [YP] at h0
      exact op_value (v := .int .i64 root) (W' := W) (by simp [execOp, go_sem, h0, hW.c1]) (step _ _ (Below.refl _ _) rfl)
    | 14, _, ho, hnl, haf, step =>
      obtain rfl := Option.some.inj ho
      have h9 := hE.vals 9 _ 12 rfl (haf ⟨9, .data⟩ (by simp) rfl) rfl
      have h13 := hE.vals 13 _ 16 rfl (haf ⟨13, .data⟩ (by simp) rfl) rfl
      simp only [YP] at h9 h13
      generalize hv : a.tmps[12]?.getD undef = v at h9
      obtain ⟨g2, c2, rfl⟩ := row_slice h9 hn0
      exact op_value (v := .agg #[.slice (some ⟨g2, 0, none⟩) n c2, .int .i64 root]) (W' := W) (by simp [execOp, go_sem, hv, h13]) (step _ _ (Below.refl _ _) ⟨_, rfl, h9⟩)
    | 15, _, ho, hnl, haf, step =>
      obtain rfl := Option.some.inj ho
      have h0 := hE.vals 14 _ 17 rfl (haf ⟨14, .data⟩ (by simp) rfl) rfl
      simp only [YP] at h0
      obtain ⟨v, e, r⟩ := h0
      obtain ⟨g2, c2, rfl⟩ := row_slice r hn0
      have hb := (Below.refl _ W).alloc (Nat.le_refl _) (.cells #[.slice (some ⟨g2, 0, none⟩) n c2, .int .i64 root] 90)
      exact op_value (v := .pointer (some ⟨W.heap.size, 0, none⟩)) (W' := W.alloc (.cells #[.slice (some ⟨g2, 0, none⟩) n c2, .int .i64 root] 90)) (by simp [execOp, go_sem, e]) (step _ _ hb ⟨_, _, rfl, hsW, heap_alloc_new W _, row_below2 r hb⟩)
    | 16, _, ho, hnl, haf, step =>
      obtain rfl := Option.some.inj ho
      have h0 := hE.vals 15 _ 18 rfl (haf ⟨15, .data⟩ (by simp) rfl) rfl
      simp only [YP] at h0
      exact op_value (v := a.tmps[18]?.getD undef) (W' := W) (by simp [execOp, go_sem]) (step _ _ (Below.refl _ _) h0)
  case fin =>
    intro a W hE
    have h16 := hE.vals 16 _ 2 rfl (by rfl) rfl
    have hsz := hE.tsize
    have hdf := hE.defers
    have hlo : Below w.heap.size w W := hE.glob
    simp only [YP] at h16
    obtain ⟨tm, df⟩ := a
    simp only at hsz hdf h16
    have htm := arr_out 19 tm (by rw [hsz]; rfl) undef
    simp only [List.range, List.range.loop, List.map_cons, List.map_nil] at htm
    generalize tm[2]?.getD undef = v at htm h16
    subst hdf
    rw [htm]
    clear hE htm hsz
    obtain ⟨t2, v2, rfl, ht2, hbx, hrow⟩ := h16
    have HE : Hid (∃ g2 c2, TS t2 g2 n c2 root f W ∧ w.heap.size ≤ t2 ∧ w.heap.size ≤ g2 ∧ Below w.heap.size w W) := hidb (by
      rcases hrow.2 with ⟨_, hz, _⟩ | ⟨g2, c2, cur, rfl, hg2, hg, _⟩
      · omega
      · obtain ⟨nb, hc⟩ := NB.of (row_lowW hrow (Nat.zero_le _))
        refine ⟨g2, c2, ⟨hbx, nb, ?_, hc, h.lt⟩, ht2, hg2, hlo⟩
        rintro rfl
        rw [hg] at hbx
        exact absurd (Obj.cells.inj (Option.some.inj hbx)).2.1 (by decide))
    clear hrow hbx hlo h
    go_wp2_with fail
    go_ret
    exact ⟨_, rfl, HE⟩
theorem copied_t (tb g : Nat) (L : Kvs) (w : World) (h : TreeAt tb g L w) (hL : (L.length + 1) * 56 ≤ 140737488355328) :
    Calls Tryd.prog 57 #[.pointer (some ⟨tb, 0, none⟩)] w fun e w' => ∃ t2, e = .returned (.pointer (some ⟨t2, 0, none⟩)) ∧ Hid (∃ g2, TreeAt t2 g2 L w' ∧ w.heap.size ≤ t2 ∧ w.heap.size ≤ g2 ∧ Below w.heap.size w w') := by
  obtain ⟨n, cap, root, f, T, h1, h2⟩ := h
  have hl : L.length + 1 = n := by rw [← h2.len, ← h2.kv, kvs, List.length_map]
  refine (copied_any tb g n cap root f w h1 h2.pos (by rw [← hl]; exact hL)).mono ?_
  rintro e w' ⟨t2, rfl, H⟩
  obtain ⟨g2, c2, a, b, c, d⟩ := H.out
  exact ⟨t2, rfl, hidb ⟨g2, ⟨n, c2, root, f, T, a, h2⟩, b, c, d⟩⟩
set_option maxRecDepth 100000 in
theorem sclone_any (sb tb g : Nat) (L : Kvs) (w : World) (h : StAt sb tb g L w) (hL : (L.length + 1) * 56 ≤ 140737488355328) :
    Calls Tryd.prog 24 #[.pointer (some ⟨sb, 0, none⟩)] w fun e w' => ∃ s2, e = .returned (.pointer (some ⟨s2, 0, none⟩)) ∧ Hid (∃ t2 g2, StAt s2 t2 g2 L w' ∧ w.heap.size ≤ s2 ∧ w.heap.size ≤ t2 ∧ w.heap.size ≤ g2 ∧ Below w.heap.size w w') := by
  have c := h.c
  have HM := hidb (stmade_any sb w tb c)
  have HC := hidb (copied_t tb g L w h.t hL)
  clear h
  go_enter Tryd.func24, Tryd.ntmps24
  go_wp2_with (first
    | (go_at_call 37; refine HM.out.mono ?_; clear HM; rintro e w1 ⟨rfl, rfl⟩)
    | (go_at_call 57; refine HC.out.mono ?_; clear HC; rintro e w1 ⟨t2, rfl, K1⟩)
    | fail)
  go_ret
  obtain ⟨g2, t, h1, h2, h3⟩ := K1.out
  have hb := (Below.refl w1.heap.size w1).alloc (Nat.le_refl _) (.cells #[.pointer (some ⟨t2, 0, none⟩)] 52)
  have := h3.size
  exact ⟨_, rfl, hidb ⟨t2, g2, ⟨heap_alloc_new w1 _, t.below hb, by have := t.lts; omega, by have := t.lts; omega⟩, by omega, h1, h2, h3.alloc (by omega) _⟩⟩
end Go.Proofs.YticihfbhnbkjjaaDoor
