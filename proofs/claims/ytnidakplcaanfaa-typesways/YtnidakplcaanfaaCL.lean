/- Slots: the program's and the document's; the law's comparison of two lists of numbers. -/
import Derived.Test.YtnidakplcaanfaaCS
namespace Go.Proofs.Ytnidakplcaanfaa
open Go.RowKit
set_option maxRecDepth 100000 in
set_option maxHeartbeats 1000000 in
theorem lints_any (a b : Option Addr) (c d n m : Nat) (ns ms : List Int) (hn : ns.length = n) (hm : ms.length = m) (w : World) (ha : NsAt w.cell? a ns) (hb : NsAt w.cell? b ms) (hl : n ≤ 17592186044416) (hl' : m ≤ 17592186044416) : Calls Try.prog 17 #[.slice a n c, .slice b m d] w fun e w' => e = .returned (.bool (decide (ns = ms))) ∧ ∃ k, w' = w.drewN k := by
  by_cases hnm : n = m
  · subst hnm
    go_enter Try.func17, Try.ntmps17
    go_wp2
    go_loopw [5] (fun i wr => ∃ k m : Nat, k ≤ n ∧ i = .int .i64 k ∧ (∀ j (h1 : j < ns.length) (h2 : j < ms.length), j < k → ns[j] = ms[j]) ∧ wr = w.drewN m) (fun i _ => n - (intOf i).toNat)
    case atStart => exact ⟨0, 0, Nat.zero_le _, rfl, by omega, rfl⟩
    case round =>
      obtain ⟨k, m, hk, rfl, hr, rfl⟩ := hrel
      by_cases hlt : k < n
      · rcases ha with h0 | ⟨b0, off0, rfl, hc0⟩
        · subst h0; simp at hn; omega
        rcases hb with h0 | ⟨b1, off1, rfl, hc1⟩
        · subst h0; simp at hm; omega
        have c0 := hc0 k (by omega)
        have d0 := hc1 k (by omega)
        have HN : Hid (ns[k] ≠ ms[k] → decide (ns = ms) = false) := hid (list_ne (by omega) (by omega))
        have HT : Hid (ns[k] = ms[k] → ∀ j (h1 : j < ns.length) (h2 : j < ms.length), j < k + 1 → ns[j] = ms[j]) := hid fun h j h1 h2 hjk => by
          rcases Nat.lt_or_ge j k with h3 | h3
          · exact hr j h1 h2 h3
          · obtain rfl : j = k := by omega
            exact h
        generalize ns[k] = x at c0 HN HT
        generalize ms[k] = y at d0 HN HT
        clear hc0 hc1
        by_cases h1 : x = y
        · subst h1
          go_wp2
          go_quiet (fail)
          go_wp2
          refine ⟨⟨k + 1, _, by omega, by go_num, HT.out (by simp), rfl⟩, by simp [intOf]; omega⟩
        · have q : (x != y) = true := by simp [h1]
          go_wp2
          go_quiet (fail)
          go_wp2
          go_ret
          exact ⟨by rw [HN.out h1]; rfl, m + nq, World.drewN_drewN _ _ _⟩
      · have HE : Hid (decide (ns = ms) = true) := hid (decide_eq_true (List.ext_getElem (by omega) fun j h1 h2 => hr j h1 h2 (by omega)))
        go_wp2
        go_ret
        exact ⟨by rw [HE.out]; rfl, m, rfl⟩
  · have hne : ((n : Int) != (m : Int)) = true := by simp; omega
    have hd : decide (ns = ms) = false := decide_eq_false fun h => hnm (by rw [← hn, ← hm, h])
    go_enter Try.func17, Try.ntmps17
    go_wp2
    go_ret
    exact ⟨by rw [hd]; rfl, 0, rfl⟩
def RowEnd (base : Nat) (ns : List Int) (w : World) (e : Ending) (w' : World) : Prop := (∃ v, e = .returned v ∧ w'.ownsRow base 3 1 v ns.length (cellsN ns)) ∧ Below base w w'
theorem cellsN_append (p l : List Int) : cellsN (p ++ l) = cellsN p ++ cellsN l := by simp [cellsN]
theorem row_lower {w : World} {base base' n size : Nat} {e : TypeId} {v : Value} {xs : List Value} (h : w.ownsRow base e size v n xs) (hb : base' ≤ base) : w.ownsRow base' e size v n xs := by
  refine ⟨h.1, ?_⟩
  rcases h.2 with h2 | ⟨g, cap, cur, e, hg, r⟩
  · exact .inl h2
  · exact .inr ⟨g, cap, cur, e, Nat.le_trans hb hg, r⟩
def SP (B n0 n2 : Nat) (v0 v2 : Value) (p l : List Int) (listed : Array Bool) (i : Nat) (u : Value) (W : World) : Prop :=
  match i with
  | 0 => listed.getD 3 false = true ∨ ∃ g, u = .slice (some ⟨g, 0, none⟩) 0 0 ∧ B + 1 ≤ g ∧ W.heap[g]? = some (.cells #[] 3 (0, 0))
  | 1 => u = .pointer (some ⟨B, 0, none⟩)
  | 2 => u = v0
  | 3 => listed.getD 6 false = true ∨ W.ownsRow (B + 1) 3 1 u n0 (cellsN p)
  | 4 => u = .pointer (some ⟨B, 2, none⟩)
  | 5 => u = v2
  | 6 => W.ownsRow (B + 1) 3 1 u (n0 + n2) (cellsN p ++ cellsN l)
  | 7 => W.ownsRow (B + 1) 3 1 u (n0 + n2) (cellsN p ++ cellsN l)
  | _ => True
theorem getD_more {listed : Array Bool} {i j : Nat} (h : listed.getD j false = true) : (listed.setIfInBounds i true).getD j false = true := by
  rw [getD_set]
  split
  · rfl
  · exact h
theorem SP.below {B n0 n2 : Nat} {v0 v2 : Value} {p l : List Int} {listed : Array Bool} {W W' : World} (hb : Below W.heap.size W W') {i : Nat} : ∀ j u, listed.getD j false = true → SP B n0 n2 v0 v2 p l listed j u W → SP B n0 n2 v0 v2 p l (listed.setIfInBounds i true) j u W' := by
  intro j u _ h
  unfold SP at h ⊢
  split at h
  all_goals first
    | exact h
    | exact row_below2 h hb
    | exact h.imp getD_more fun h => row_below2 h hb
    | (refine h.imp getD_more fun h => ?_
       obtain ⟨g, rfl, h1, hg⟩ := h
       exact ⟨g, rfl, h1, by rw [hb.block g (Array.getElem?_eq_some_iff.1 hg).1]; exact hg⟩)
set_option maxRecDepth 100000 in
set_option maxHeartbeats 1000000 in
theorem rslots_any (f : Fn) (v0 v1 v2 v3 : Value) (w : World) (hf : FnIs w.cell? f v0 v1 v2 v3) (hff : f.fits) (hpl : f.p.length + f.l.length ≤ 17592186044416) : Calls Try.prog 54 #[.agg #[v0, v1, v2, v3]] w (RowEnd w.heap.size (f.p ++ f.l) w) := by
  obtain ⟨⟨a0, c0, rfl, g0⟩, ⟨a1, c1, rfl, g1⟩, ⟨a2, c2, rfl, g2⟩, ⟨a3, c3, rfl, g3⟩⟩ := hf
  obtain ⟨z0, z1, z2, z3⟩ := hff
  have hLies : ∀ W, Below w.heap.size w W → Lies W (.slice a0 f.p.length c0) f.p.length (cellsN f.p) ∧ Lies W (.slice a2 f.l.length c2) f.l.length (cellsN f.l) := fun W hW => ⟨(g0.keep (below_keep hW)).lies c0, (g2.keep (below_keep hW)).lies c2⟩
  have hb1 : Below w.heap.size w (w.alloc (.cells #[.slice a0 f.p.length c0, .slice a1 f.r.length c1, .slice a2 f.l.length c2, .slice a3 f.code.length c3] 50)) := (Below.refl _ w).alloc (Nat.le_refl _) _
  have bF := heap_alloc_new w (.cells #[.slice a0 f.p.length c0, .slice a1 f.r.length c1, .slice a2 f.l.length c2, .slice a3 f.code.length c3] 50)
  have sF : (w.alloc (.cells #[.slice a0 f.p.length c0, .slice a1 f.r.length c1, .slice a2 f.l.length c2, .slice a3 f.code.length c3] 50)).heap.size = w.heap.size + 1 := by simp
  go_enter Try.func54, Try.ntmps54
  go_wp2_with fail
  generalize w.alloc (.cells #[.slice a0 f.p.length c0, .slice a1 f.r.length c1, .slice a2 f.l.length c2, .slice a3 f.code.length c3] 50) = w2 at *
  refine wp_region_each (by kernel_rfl) 10 rfl (by kernel_rfl) (fun _ W => Below (w.heap.size + 1) w2 W) (SP w.heap.size f.p.length f.l.length (.slice a0 f.p.length c0) (.slice a2 f.l.length c2) f.p f.l) ?start ?each ?fin
  case start => exact (Below.refl _ _).drew
  case each =>
    intro i o ho listed a W hE hnl haf
    have hi : i < 8 := (Array.getElem?_eq_some_iff.1 ho).1
    have t1 : a.tmps[1]?.getD undef = .pointer (some ⟨w.heap.size, 0, none⟩) := hE.rest 1 (rest_of (by kernel_rfl))
    have hG := hE.glob
    have hsW : w.heap.size + 1 ≤ W.heap.size := by have := hG.size; omega
    have hoff := getD_off hnl
    have eF := (hG.block _ (by omega)).trans bF
    have hL := hLies W (hb1.trans (hG.mono (by omega)))
    have step : ∀ v W', Below W.heap.size W W' → SP w.heap.size f.p.length f.l.length (.slice a0 f.p.length c0) (.slice a2 f.l.length c2) f.p f.l (listed.setIfInBounds i true) i v W' → ∃ u, a.put o.dst v = a.put o.dst u ∧ SP w.heap.size f.p.length f.l.length (.slice a0 f.p.length c0) (.slice a2 f.l.length c2) f.p f.l (listed.setIfInBounds i true) i u W' ∧ Below (w.heap.size + 1) w2 W' ∧ ∀ j u, listed.getD j false = true → SP w.heap.size f.p.length f.l.length (.slice a0 f.p.length c0) (.slice a2 f.l.length c2) f.p f.l listed j u W → SP w.heap.size f.p.length f.l.length (.slice a0 f.p.length c0) (.slice a2 f.l.length c2) f.p f.l (listed.setIfInBounds i true) j u W' := fun v W' hb hv => ⟨v, rfl, hv, hG.trans (hb.mono (by omega)), SP.below hb⟩
    match i, hi, ho, hnl, haf, hoff, step with
    | 0, _, ho, hnl, haf, hoff, step =>
      obtain rfl := Option.some.inj ho
      exact op_value (v := .slice (some ⟨W.heap.size, 0, none⟩) 0 0) (W' := W.alloc (.cells #[] 3)) (by simp [execOp, go_sem]) (step _ _ ((Below.refl _ W).alloc (Nat.le_refl _) _) (.inr ⟨_, rfl, hsW, heap_alloc_new W _⟩))
    | 1, _, ho, hnl, haf, hoff, step =>
      obtain rfl := Option.some.inj ho
      exact op_value (v := .pointer (some ⟨w.heap.size, 0, none⟩)) (W' := W) (by simp [execOp, go_sem, t1]) (step _ _ (Below.refl _ _) rfl)
    | 2, _, ho, hnl, haf, hoff, step =>
      obtain rfl := Option.some.inj ho
      have h := hE.vals 1 _ 4 rfl (haf ⟨1, .data⟩ (by simp) rfl) rfl
      simp only [SP] at h
      have hc : W.cell? ⟨w.heap.size, 0, none⟩ = some (.slice a0 f.p.length c0) := by rw [Lib.cell_of_heap eF]; rfl
      exact op_value (v := .slice a0 f.p.length c0) (W' := W) (by simp [execOp, go_sem, h, hc]) (step _ _ (Below.refl _ _) rfl)
    | 3, _, ho, hnl, haf, hoff, step =>
      obtain rfl := Option.some.inj ho
      have h0 := hE.vals 0 _ 3 rfl (haf ⟨0, .data⟩ (by simp) rfl) rfl
      have h2 := hE.vals 2 _ 5 rfl (haf ⟨2, .data⟩ (by simp) rfl) rfl
      simp only [SP] at h0 h2
      rw [hoff] at h0
      rcases h0 with h0 | ⟨g, hu, hgb, hgl⟩
      · cases h0
      refine wp_app0 W (.tmp 3) (.tmp 5) 35 rfl elemN_int (w.heap.size + 1) g hgb hgl ((eval_tmp _ _).trans hu) _ ((eval_tmp _ _).trans h2) f.p.length (cellsN f.p) hL.1 (cellsN_len _) (cellsN_one _) (by unfold maxLen; omega) (by omega) hsW ?_
      intro v' W' hr' hb'
      exact step _ _ hb' (.inr hr')
    | 4, _, ho, hnl, haf, hoff, step =>
      obtain rfl := Option.some.inj ho
      exact op_value (v := .pointer (some ⟨w.heap.size, 2, none⟩)) (W' := W) (by simp [execOp, go_sem, t1]) (step _ _ (Below.refl _ _) rfl)
    | 5, _, ho, hnl, haf, hoff, step =>
      obtain rfl := Option.some.inj ho
      have h := hE.vals 4 _ 7 rfl (haf ⟨4, .data⟩ (by simp) rfl) rfl
      simp only [SP] at h
      have hc : W.cell? ⟨w.heap.size, 2, none⟩ = some (.slice a2 f.l.length c2) := by rw [Lib.cell_of_heap eF]; rfl
      exact op_value (v := .slice a2 f.l.length c2) (W' := W) (by simp [execOp, go_sem, h, hc]) (step _ _ (Below.refl _ _) rfl)
    | 6, _, ho, hnl, haf, hoff, step =>
      obtain rfl := Option.some.inj ho
      have l3 := haf ⟨3, .data⟩ (by simp) rfl
      have h3 := hE.vals 3 _ 6 rfl l3 rfl
      have h5 := hE.vals 5 _ 8 rfl (haf ⟨5, .data⟩ (by simp) rfl) rfl
      simp only [SP] at h3 h5
      rw [hoff] at h3
      rcases h3 with h3 | h3
      · cases h3
      refine wp_appN W (.tmp 6) (.tmp 8) 35 rfl elemN_int (w.heap.size + 1) _ f.p.length (cellsN f.p) (eval_tmp _ _) h3 _ ((eval_tmp _ _).trans h5) f.l.length (cellsN f.l) hL.2 (cellsN_len _) (cellsN_one _) (by unfold maxLen; omega) (by omega) hsW ?_
      intro v' W' hr' hs'
      refine ⟨v', rfl, hr', hG.trans (hs'.below hsW fun j h => (h3.lt j h).1), ?_⟩
      intro j u hj h
      have n7 : j ≠ 7 := fun e => by
        subst e
        have := hE.closed 7 _ rfl hj ⟨6, .data⟩ (by simp) rfl
        rw [hoff] at this; cases this
      have n6 : j ≠ 6 := fun e => by subst e; rw [hoff] at hj; cases hj
      have s6 : (listed.setIfInBounds 6 true).getD 6 false = true := by rw [getD_set, if_pos ⟨rfl, getD_lt hnl⟩]
      unfold SP at h ⊢
      split at h
      all_goals first
        | exact h
        | exact .inl (getD_more l3)
        | exact .inl s6
        | exact absurd rfl n6
        | exact absurd rfl n7
    | 7, _, ho, hnl, haf, hoff, step =>
      obtain rfl := Option.some.inj ho
      have h6 := hE.vals 6 _ 9 rfl (haf ⟨6, .data⟩ (by simp) rfl) rfl
      simp only [SP] at h6
      exact op_value (v := a.tmps[9]?.getD undef) (W' := W) (by simp [execOp, go_sem]) (step _ _ (Below.refl _ _) h6)
  case fin =>
    intro a W hE
    have h7 := hE.vals 7 _ 2 rfl (by rfl) rfl
    have hsz := hE.tsize
    have hdf := hE.defers
    have hlo := hE.glob
    simp only [SP] at h7
    obtain ⟨tm, df⟩ := a
    simp only at hsz hdf h7
    have htm := arr_out 10 tm (by rw [hsz]; rfl) undef
    simp only [List.range, List.range.loop, List.map_cons, List.map_nil] at htm
    generalize tm[2]?.getD undef = v at htm h7
    subst hdf
    rw [htm]
    clear hE htm hsz
    go_wp2_with fail
    go_ret
    refine ⟨⟨v, rfl, ?_⟩, hb1.trans (hlo.mono (by omega))⟩
    rw [List.length_append, cellsN_append]
    exact row_lower h7 (by omega)
set_option maxRecDepth 100000 in
set_option maxHeartbeats 1000000 in
theorem grow_nil (n : Nat) (hn : n ≤ 17592186044416) (w : World) : Calls Try.prog 80 #[.slice none 0 0, .int .i64 n] w (RowEnd w.heap.size [] w) := by
  by_cases h0 : n = 0
  · subst h0
    go_enter Try.func80, Try.ntmps80
    go_wp2_with fail
    go_ret
    exact ⟨⟨_, rfl, ⟨rfl, .inl ⟨rfl, rfl⟩⟩⟩, Below.refl _ _⟩
  · have h1 : (0 : Int) < (n : Int) := by omega
    have h2 : ¬ 281474976710656 < Builtin.nextslicecap n 0 * Try.t3.bytes := by
      rw [nextslicecap_zero (by omega)]
      show ¬ 281474976710656 < n * 8
      omega
    have h3 : ¬ (281474976710656 : Int) < (n : Int) * (Try.t3.bytes : Int) := by
      show ¬ (281474976710656 : Int) < (n : Int) * ((8 : Nat) : Int)
      omega
    have hge := grownCap_ge w n 0 3
    have hcm : grownCap w n 0 3 ≤ maxLen := grownCap_le_maxLen w n 0 3 (by unfold maxLen; omega)
    unfold grownCap at hge hcm
    go_enter Try.func80, Try.ntmps80
    go_wp2_with fail
    go_ret
    generalize (Question.appendCap n 0 3).cut (w.tape w.drawn (Question.appendCap n 0 3)) = c at *
    refine ⟨⟨_, rfl, ⟨rfl, .inr ⟨w.heap.size, c, _, rfl, Nat.le_refl _, heap_alloc_new w _, Nat.zero_le _, hcm, ?_, by simp [cellsN]⟩⟩⟩, ((Below.refl _ w).alloc (Nat.le_refl _) _).drew⟩
    simp only [Array.size_append, size_zeroCells, List.size_toArray, List.length_cons, List.length_nil]
    omega
set_option maxRecDepth 100000 in
set_option maxHeartbeats 1000000 in
theorem concat_two (a b : Option Addr) (c d : Nat) (p l : List Int) (g : Nat) (w : World) (hg : w.heap[g]? = some (.cells #[.slice a p.length c, .slice b l.length d] 35 (0, 0))) (ha : NsAt w.cell? a p) (hb : NsAt w.cell? b l) (hpl : p.length + l.length ≤ 17592186044416) : Calls Try.prog 65 #[.slice (some ⟨g, 0, none⟩) 2 2] w (RowEnd w.heap.size (p ++ l) w) := by
  obtain ⟨n0, hn0⟩ : ∃ n, n = p.length := ⟨_, rfl⟩
  obtain ⟨n2, hn2⟩ : ∃ n, n = l.length := ⟨_, rfl⟩
  rw [← hn0] at hg hpl
  rw [← hn2] at hg hpl
  have k0 : w.cell? ⟨g, 0, none⟩ = some (.slice a n0 c) := by rw [Lib.cell_of_heap hg]; rfl
  have k1 : w.cell? ⟨g, 1, none⟩ = some (.slice b n2 d) := by rw [Lib.cell_of_heap hg]; rfl
  have H0 := hid hn0
  have H2 := hid hn2
  clear hn0 hn2
  have hsum : IntKind.i64.wrap ((n0 : Int) + (n2 : Int)) = (n0 : Int) + (n2 : Int) := by rw [IntKind.wrap_i64]; omega
  have hG := grow_nil (n0 + n2) (by omega) w
  have hcast : ((n0 + n2 : Nat) : Int) = (n0 : Int) + (n2 : Int) := by omega
  rw [hcast] at hG
  clear hcast
  go_enter Try.func65, Try.ntmps65
  go_wp2_with fail
  go_loopw [3, 11] (fun s i wr => (i = .int .i64 0 ∧ s = .int .i64 0 ∨ i = .int .i64 1 ∧ s = .int .i64 n0 ∨ i = .int .i64 2 ∧ s = .int .i64 ((n0 : Int) + (n2 : Int))) ∧ wr = w) (fun _ i _ => 2 - (intOf i).toNat)
  case atStart => exact ⟨.inl ⟨rfl, rfl⟩, rfl⟩
  case round =>
    obtain ⟨hc, hw⟩ := hrel
    replace hw := hw.symm
    subst hw
    rcases hc with ⟨rfl, rfl⟩ | ⟨rfl, rfl⟩ | ⟨rfl, rfl⟩
    · go_wp2_with fail
      exact ⟨⟨.inr (.inl ⟨by go_num, by go_num⟩), by first | rfl | trivial⟩, by simp [intOf]⟩
    · go_wp2_with fail
      exact ⟨⟨.inr (.inr ⟨by go_num, by go_num⟩), by first | rfl | trivial⟩, by simp [intOf]⟩
    · go_wp2_with (go_at_call 80; refine hG.mono ?_; rintro e w5 ⟨⟨v, rfl, hr⟩, hb5⟩)
      go_loopw [6, 27] (fun v i wr => ∃ n xs, (i = .int .i64 0 ∧ n = 0 ∧ xs = [] ∨ i = .int .i64 1 ∧ n = n0 ∧ xs = cellsN p ∨ i = .int .i64 2 ∧ n = n0 + n2 ∧ xs = cellsN p ++ cellsN l) ∧ wr.ownsRow w.heap.size 3 1 v n xs ∧ Below w.heap.size w wr) (fun _ i _ => 2 - (intOf i).toNat)
      case atStart => exact ⟨0, [], .inl ⟨rfl, rfl, rfl⟩, hr, hb5⟩
      case round =>
        obtain ⟨n, xs, hc, hrow, hbr⟩ := hrel
        have q0 := below_keep hbr _ _ k0
        have q1 := below_keep hbr _ _ k1
        have hL0 := (ha.keep (below_keep hbr)).lies c
        have hL2 := (hb.keep (below_keep hbr)).lies d
        rw [← H0.out] at hL0
        rw [← H2.out] at hL2
        have hl0 : (cellsN p).length = n0 * 1 := by rw [cellsN_len, H0.out]
        have hl2 : (cellsN l).length = n2 * 1 := by rw [cellsN_len, H2.out]
        have hlt := hrow.lt
        rcases hc with ⟨rfl, rfl, rfl⟩ | ⟨rfl, rfl, rfl⟩ | ⟨rfl, rfl, rfl⟩
        · go_wp2_with (at_builtin; go_loud (refine wpList_appN _ rfl _ _ _ rfl elemN_int w.heap.size _ 0 [] rfl hrow _ rfl n0 (cellsN p) hL0 hl0 (cellsN_one _) (by unfold maxLen; omega) (by omega) hbr.size ?_); intro v' w6 hr6 hs6)
          exact ⟨⟨n0, cellsN p, .inr (.inl ⟨by go_num, rfl, rfl⟩), by simpa using hr6, hbr.trans (hs6.below hbr.size fun j h => (hlt j h).1)⟩, by simp [intOf]⟩
        · go_wp2_with (at_builtin; go_loud (refine wpList_appN _ rfl _ _ _ rfl elemN_int w.heap.size _ n (cellsN p) rfl hrow _ rfl n2 (cellsN l) hL2 hl2 (cellsN_one _) (by unfold maxLen; omega) (by omega) hbr.size ?_); intro v' w6 hr6 hs6)
          exact ⟨⟨_, _, .inr (.inr ⟨by go_num, rfl, rfl⟩), hr6, hbr.trans (hs6.below hbr.size fun j h => (hlt j h).1)⟩, by simp [intOf]⟩
        · go_wp2_with fail
          go_ret
          refine ⟨⟨_, rfl, ?_⟩, hbr⟩
          rw [List.length_append, cellsN_append, ← H0.out, ← H2.out]
          exact hrow
set_option maxRecDepth 100000 in
set_option maxHeartbeats 1000000 in
theorem slots_any (f : Fn) (v0 v1 v2 v3 : Value) (w : World) (hf : FnIs w.cell? f v0 v1 v2 v3) (hff : f.fits) (hpl : f.p.length + f.l.length ≤ 17592186044416) : Calls Try.prog 43 #[.agg #[v0, v1, v2, v3]] w (RowEnd w.heap.size (f.p ++ f.l) w) := by
  obtain ⟨⟨a0, c0, rfl, g0⟩, ⟨a1, c1, rfl, g1⟩, ⟨a2, c2, rfl, g2⟩, ⟨a3, c3, rfl, g3⟩⟩ := hf
  obtain ⟨z0, z1, z2, z3⟩ := hff
  have hC : ∀ (W : World), Below w.heap.size w W → ∀ g, W.heap[g]? = some (.cells #[.slice a0 f.p.length c0, .slice a2 f.l.length c2] 35 (0, 0)) → Calls Try.prog 65 #[.slice (some ⟨g, 0, none⟩) 2 2] W (RowEnd W.heap.size (f.p ++ f.l) W) := fun W hW g hg => concat_two a0 a2 c0 c2 f.p f.l g W hg (g0.keep (below_keep hW)) (g2.keep (below_keep hW)) hpl
  go_enter Try.func43, Try.ntmps43
  go_wp2_with fail
  have hbA : Below w.heap.size w ((w.alloc (.cells #[.slice a0 f.p.length c0, .slice a1 f.r.length c1, .slice a2 f.l.length c2, .slice a3 f.code.length c3] 50)).alloc (.cells #[.slice a0 f.p.length c0, .slice a2 f.l.length c2] 35)) := ((Below.refl _ w).alloc (Nat.le_refl _) _).alloc (by simp) _
  refine (hC _ hbA (w.heap.size + 1) (by have := heap_alloc_new (w.alloc (.cells #[.slice a0 f.p.length c0, .slice a1 f.r.length c1, .slice a2 f.l.length c2, .slice a3 f.code.length c3] 50)) (.cells #[.slice a0 f.p.length c0, .slice a2 f.l.length c2] 35); simpa using this)).mono ?_
  rintro e w5 ⟨⟨v, rfl, hr⟩, hb5⟩
  have hs := hbA.size
  generalize (w.alloc (.cells #[.slice a0 f.p.length c0, .slice a1 f.r.length c1, .slice a2 f.l.length c2, .slice a3 f.code.length c3] 50)).alloc (.cells #[.slice a0 f.p.length c0, .slice a2 f.l.length c2] 35) = W at hbA hb5 hr hs
  go_wp2_with fail
  go_ret
  exact ⟨⟨v, rfl, row_lower hr hs⟩, hbA.trans (hb5.mono hs)⟩
end Go.Proofs.Ytnidakplcaanfaa
