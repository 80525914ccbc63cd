/- Layer 8: Reach. -/
import Derived.Test.YtikomfbpaimnmaaXK
namespace Go.Proofs.Ytikomfbpaimnmaa
open Go.RowKit Go.Maps Go.Sort Go.Shelf
/-- What is met, rising. -/
def metL (n : Nat) (m : Nat → Option Nat) : List Nat := (List.range n).filter fun x => (m x).isSome
theorem rowI_rise {n : Nat} (p : Nat → Bool) : (rowI ((List.range n).filter p)).Pairwise (· < ·) := by
  rw [rowI, List.pairwise_map]
  exact (List.Pairwise.filter _ (range_rise n)).imp fun h => Int.ofNat_lt.2 h
theorem sort_rise {l : List Int} (h : l.Pairwise (· < ·)) : (l.mergeSort fun x y => decide (x ≤ y)) = l :=
  List.mergeSort_of_pairwise (h.imp fun h => by simp; omega)
theorem keys_met {w : World} {b n S : Nat} {m : Nat → Option Nat} {D : DataW Unit} {N : Nat} (h1 : w.ownsMap Try.prog 3 (plainElem Try.prog 3) b N D) (h2 : ∀ x : Int, has D (.int .i64 x) = true → ∃ k : Nat, x = k ∧ m k ≠ none) (h3 : ∀ k v : Nat, m k = some v → k < n ∧ v + white n m ≤ S ∧ has D (.int .i64 k) = true ∧ ∀ z, D.atKey (.int .i64 k) z = .lit (.int .i64 v)) {ss : List Int} (hp : ss.Perm (intKeys D)) : (ss.mergeSort fun x y => decide (x ≤ y)) = rowI (metL n m) := by
  obtain ⟨es, e, hpw, _⟩ := h1.entries int_key8
  have hk : ∀ p ∈ es, ∃ x, p.1 = .int .i64 x := by
    obtain ⟨es0, cl, hb, F, _, hD⟩ := h1
    rw [e] at hD
    injection hD with hD
    intro p hp
    rw [hD] at hp
    obtain ⟨v, hv⟩ := fit_keys F p (mem_sorted.1 hp)
    obtain ⟨x, _, hx, _⟩ := keyOf_i64 Try.underlying3 hv
    exact ⟨x, hx⟩
  subst e
  have hr := rowI_rise (n := n) fun x => (m x).isSome
  have := perm_intKeys hpw hk (ss := rowI (metL n m)) (hr.imp fun h => by omega) fun x => ?_
  · rw [mergeSort_of_perm_i (hp.trans this.symm)]
    exact sort_rise hr
  · rw [rowI, List.mem_map]
    constructor
    · rintro ⟨k, hk, rfl⟩
      obtain ⟨q1, q2⟩ := List.mem_filter.1 hk
      obtain ⟨v, hv⟩ := Option.isSome_iff_exists.1 q2
      exact (h3 k v hv).2.2.1
    · intro hx
      obtain ⟨k, rfl, hk⟩ := h2 x hx
      obtain ⟨v, hv⟩ := Option.ne_none_iff_exists'.1 hk
      exact ⟨k, List.mem_filter.2 ⟨by simpa using (h3 k v hv).1, by rw [hv]; rfl⟩, rfl⟩
theorem sorts8 (m : Nat) : AnyZI.SortsIn Try.prog Try.sortedA_ren Fence.wide m :=
  ⟨fun blk off cap ss W hH hblk hsz => callsIn_wide.2 (Try.slices_Sort_int blk off cap ss W hH hblk hsz),
   fun p cap W => callsIn_wide.2 (Try.slices_Sort_int_none p cap W)⟩
theorem keys8_any (mb : Option Nat) (W : World) : Calls Try.prog 28 #[.map mb] W fun e w' => e = .returned (.func (.func 40) #[] #[.pointer (some ⟨W.heap.size, 0, none⟩)]) ∧ w' = W.alloc (.cells #[.map mb] 54) :=
  (callsIn_wide (n := 5)).1 (AnyZI.keys_in Try.keysA Fence.wide 5 trivial rfl mb W)
set_option maxHeartbeats 1000000 in
theorem sorted8_any {w : World} {b n S : Nat} {m : Nat → Option Nat} (h : MapN w b n S m) : Calls Try.prog 27 #[.func (.func 40) #[] #[.pointer (some ⟨w.heap.size, 0, none⟩)]] (w.alloc (.cells #[.map (some b)] 54)) (RowE (rowI (metL n m)) w) := by
  obtain ⟨D, N, h1, q1, q2, h2, h3⟩ := h
  have hsz := h1.size_le
  have hbl := h1.lt
  have hseq : SeqGives Fence.wide 2 Try.prog 40 #[.pointer (some ⟨w.heap.size, 0, none⟩)] encZ (fun ss => ss.Perm (intKeys D)) (Maps.size D) (w.alloc (.cells #[.map (some b)] 54)) :=
    AnyZI.keys_gives (ρ := Try.keysA_ren) { Try.keysA with } Fence.wide _ trivial rfl (by omega) w.heap.size b N D _ (by simp) (by simp) (by
      obtain ⟨es, clock, hb, Ft, hs, hD⟩ := h1
      exact ⟨es, clock, (Below.heap_alloc _ _ b hbl).trans hb, Ft, hs, hD⟩)
  have cS := AnyZI.sorted_in Try.sortedA Fence.wide 5 trivial trivial trivial trivial rfl (by omega) (sorts8 _) (enters_of Try.func35 (by kernel_rfl) rfl) 40 #[.pointer (some ⟨w.heap.size, 0, none⟩)] trivial (enters_of Try.func40 (by kernel_rfl) rfl) _ _ (by unfold maxLen; omega) (by omega) _ hseq
  change CallsIn _ _ Try.prog 27 _ _ _ at cS
  refine ((callsIn_wide (n := 5)).1 cS).mono fun e w' ⟨v, ss, e1, hS, hrow, _, hb⟩ => ?_
  have b1 := (Below.refl _ w).alloc (Nat.le_refl _) (.cells #[.map (some b)] 54)
  have hk := keys_met h1 h2 h3 hS
  have hrow2 : w'.ownsRow w.heap.size 3 1 v ss.length (cellsN (rowI (metL n m))) := by
    have := hrow
    rw [hk] at this
    exact row_base this (by simp)
  have hl : ss.length = (rowI (metL n m)).length := by
    have := congrArg List.length hk
    simpa using this
  rw [hl] at hrow2
  obtain ⟨a, c, ev, _, _⟩ := row_form hrow2
  subst ev
  exact ⟨a, c, e1, hrow2, b1.trans (hb.mono b1.size)⟩
/-- What f reaches. -/
def reachS (s : Scr) (f : Int) : List Nat := if s.right = true ∧ 0 ≤ f ∧ f < s.funcs.length then (List.range s.funcs.length).filter (reachN s.funcs.length (gF s) f.toNat s.funcs.length) else []
theorem met_reach {s : Scr} {f : Nat} (hr : s.right = true) (hf : f < s.funcs.length) {m : Nat → Option Nat} {r : Bool} (h : Wlk (gF s) [f] m r) : metL s.funcs.length m = reachS s f := by
  rw [reachS, if_pos ⟨hr, by omega, by omega⟩, metL]
  apply List.filter_congr
  intro x _
  rw [Bool.eq_iff_iff, Int.toNat_natCast, reach_iff (graph_inn s).1 hf, Option.isSome_iff_ne_none, wlk_reach h]
  simp
def ReachEnd (L : List Nat) (w : World) (e : Ending) (w' : World) : Prop := ∃ a c, e = .returned (.slice a L.length c) ∧ NsAt w'.cell? a (rowI L) ∧ Below w.heap.size w w'
theorem reachEnd_of {L : List Nat} {w w0 w' : World} {e : Ending} (h : RowE (rowI L) w0 e w') (hb : Below w.heap.size w w0) : ReachEnd L w e w' := by
  obtain ⟨a, c, h1, h2, h3⟩ := h
  refine ⟨a, c, by rw [h1]; simp [rowI], ?_, hb.trans (h3.mono hb.size)⟩
  obtain ⟨a', c', e, _, _, q⟩ := row_form h2
  cases e
  rcases q with ⟨_, q, _⟩ | ⟨g, e, _, _, q⟩
  · exact .inl (List.length_eq_zero_iff.1 q)
  · exact .inr ⟨g, 0, e, fun j hj => by rw [Nat.zero_add]; exact q j _ (by simp [cellsN, hj])⟩
set_option maxRecDepth 100000 in
set_option maxHeartbeats 1000000 in
theorem reach_any (s : Scr) (V0 V1 : Value) (f : Int) (w : World) (hs : ScIs w.cell? s V0 V1) (hsf : s.fits) : Calls Try.prog 14 #[.agg #[V0, V1], .int .i64 f] w (ReachEnd (reachS s f) w) := by
  obtain ⟨⟨a0, c0, rfl, n0⟩, ⟨a1, c1, rfl, n1⟩⟩ := hs
  have b1 := (Below.refl _ w).alloc (Nat.le_refl _) (.cells #[.slice a0 s.consts.length c0, .slice a1 s.funcs.length c1] 25)
  have hG := graph_any s _ _ (w.alloc (.cells #[.slice a0 s.consts.length c0, .slice a1 s.funcs.length c1] 25)) ⟨⟨a0, c0, rfl, n0.keep (below_keep b1)⟩, ⟨a1, c1, rfl, n1.keep (below_keep b1)⟩⟩ hsf
  by_cases hr : s.right = true
  · obtain ⟨r1, r2, r3⟩ := right_calls hr
    obtain ⟨i1, i2, i3, i4⟩ := graph_inn s
    have HG : Hid (Calls Try.prog 9 #[.agg #[.slice a0 s.consts.length c0, .slice a1 s.funcs.length c1]] (w.alloc (.cells #[.slice a0 s.consts.length c0, .slice a1 s.funcs.length c1] 25)) fun e w1 => ∃ ga gc, e = .returned (.tuple #[.slice ga s.funcs.length gc, .int .i64 0]) ∧ Hid (RsAt w1.cell? ga (rowsI (graphS s)) ∧ Below w.heap.size w w1)) := hid7 (hG.mono fun e w1 ⟨h1, h2⟩ => by
      rw [if_pos hr] at h1
      obtain ⟨ga, gc, e1, h3⟩ := h1
      exact ⟨ga, gc, e1, hid7 ⟨h3, b1.trans (h2.mono b1.size)⟩⟩)
    by_cases hf : 0 ≤ f ∧ f < s.funcs.length
    · obtain ⟨k, rfl⟩ : ∃ k : Nat, f = k := ⟨f.toNat, by omega⟩
      have hk : k < s.funcs.length := by omega
      have HW : Hid (∀ ga gc w1, RsAt w1.cell? ga (rowsI (graphS s)) → Below w.heap.size w w1 → Calls Try.prog 26 #[.slice ga s.funcs.length gc, .slice (some ⟨w1.heap.size, 0, none⟩) 1 1] (w1.alloc (.cells #[.int .i64 (k : Int)] 3)) fun e w3 => ∃ mb r, e = .returned (.tuple #[.map (some mb), .bool r]) ∧ Hid (Calls Try.prog 27 #[.func (.func 40) #[] #[.pointer (some ⟨w3.heap.size, 0, none⟩)]] (w3.alloc (.cells #[.map (some mb)] 54)) fun e w4 => ∃ a n c, e = .returned (.slice a n c) ∧ Hid (ReachEnd (reachS s k) w e w4))) := hid7 fun ga gc w1 h1 h2 => by
        have b2 := (Below.refl _ w1).alloc (Nat.le_refl _) (.cells #[.int .i64 (k : Int)] 3)
        refine (walk8_any (graphS s) s.funcs.length gc ga i4 (by omega) i1 (fun l hl => by have := i3 l hl; omega) [k] _ 1 _ rfl (by omega) (by simpa using hk) _ (h1.keep (below_keep b2)) (.inr ⟨w1.heap.size, 0, rfl, fun j hj => ?_⟩)).mono fun e w3 ⟨mb, m, r, q1, q2, q3, q4, q5⟩ => ⟨mb, r, q1, hid7 ((sorted8_any q3).mono fun e w4 q6 => ?_)⟩
        · have : j = 0 := by simp [rowI] at hj; omega
          subst this
          exact Lib.cell_of_heap (heap_alloc_new w1 _) 0
        · rw [met_reach hr hk q2] at q6
          have bb := h2.trans ((b2.trans (q5.mono b2.size)).mono h2.size)
          have := reachEnd_of q6 bb
          obtain ⟨a, c, e1, e2⟩ := this
          exact ⟨a, _, c, e1, hid7 ⟨a, c, e1, e2⟩⟩
      have t1 : ¬ ((s.funcs.length : Int) ≤ k) := by omega
      generalize reachS s k = RR at HW ⊢
      obtain ⟨fl, hfe⟩ : ∃ fl, fl = s.funcs.length := ⟨_, rfl⟩
      rw [← hfe] at HG HW r1 t1 ⊢
      generalize s.consts.length = cl at HG ⊢
      clear hG hr r2 r3 i1 i2 i3 i4 n0 n1 hsf hfe b1 hf hk
      go_enter Try.func14, Try.ntmps14
      go_wp2_with (first
        | (go_at_call 9; refine HG.out.mono ?_; clear HG; rintro e w1 ⟨ga, gc, rfl, K1⟩)
        | (go_at_call 26; refine (HW.out ga gc w1 K1.out.1 K1.out.2).mono ?_; clear HW; rintro e w3 ⟨mb, r, rfl, HSo⟩)
        | (go_at_call 28; refine (keys8_any (some mb) w3).mono ?_; rintro e w4 ⟨rfl, w4e⟩; rw [w4e]; clear w4e)
        | (go_at_call 27; refine HSo.out.mono ?_; clear HSo; rintro e w5 ⟨a5, n5, c5, rfl, K5⟩)
        | fail)
      go_ret
      exact K5.out
    · have HE : Hid (∀ W, Below w.heap.size w W → ReachEnd (reachS s f) w (.returned (.slice none 0 0)) W) := hid7 fun W hW => by
        rw [reachS, if_neg (fun h => hf h.2)]
        exact ⟨none, 0, rfl, .inl rfl, hW⟩
      have t1 : f < 0 ∨ (s.funcs.length : Int) ≤ f := by omega
      generalize reachS s f = RR at HE ⊢
      obtain ⟨fl, hfe⟩ : ∃ fl, fl = s.funcs.length := ⟨_, rfl⟩
      rw [← hfe] at HG r1 t1 ⊢
      generalize s.consts.length = cl at HG ⊢
      clear hG hr r2 r3 i1 i2 i3 i4 n0 n1 hsf hfe b1 hf
      by_cases h0 : f < 0
      · clear t1
        go_enter Try.func14, Try.ntmps14
        go_wp2_with (first | (go_at_call 9; refine HG.out.mono ?_; clear HG; rintro e w1 ⟨ga, gc, rfl, K1⟩) | fail)
        go_ret
        exact HE.out _ K1.out.2
      · have t2 : (fl : Int) ≤ f := by omega
        clear t1
        go_enter Try.func14, Try.ntmps14
        go_wp2_with (first | (go_at_call 9; refine HG.out.mono ?_; clear HG; rintro e w1 ⟨ga, gc, rfl, K1⟩) | fail)
        go_ret
        exact HE.out _ K1.out.2
  · have HG : Hid (Calls Try.prog 9 #[.agg #[.slice a0 s.consts.length c0, .slice a1 s.funcs.length c1]] (w.alloc (.cells #[.slice a0 s.consts.length c0, .slice a1 s.funcs.length c1] 25)) fun e w1 => e = .returned (.tuple #[.slice none 0 0, .int .i64 30]) ∧ Hid (ReachEnd (reachS s f) w (.returned (.slice none 0 0)) w1)) := hid7 (hG.mono fun e w1 ⟨h1, h2⟩ => by
      rw [if_neg hr] at h1
      refine ⟨h1, hid7 ?_⟩
      rw [reachS, if_neg (fun h => hr h.1)]
      exact ⟨none, 0, rfl, .inl rfl, b1.trans (h2.mono b1.size)⟩)
    generalize reachS s f = RR at HG ⊢
    generalize s.consts.length = cl at HG ⊢
    generalize s.funcs.length = fl at HG ⊢
    clear hG hr n0 n1 hsf b1
    go_enter Try.func14, Try.ntmps14
    go_wp2_with (first | (go_at_call 9; refine HG.out.mono ?_; clear HG; rintro e w1 ⟨rfl, K1⟩) | fail)
    go_ret
    exact K1.out
end Go.Proofs.Ytikomfbpaimnmaa
