/- The document's step of layer 7: dup, swap, over, set, get, call. The document's step of layer 7: set, get, call; and of any instruction. The document's step of layer 7: call; and of any instruction. -/
import Derived.Test.YtpmlnkjamhelnaaGreatORn
import Derived.Test.YtpmlnkjamhelnaaGreatTH
import Derived.Deep.RegionWith
import Derived.Deep.RegionHeld3
import Derived.Test.YtpmlnkjamhelnaaGreatTL
import Derived.Test.YtpmlnkjamhelnaaGreatST
namespace Go.Proofs.YtpmlnkjamhelnaaGreat
open Go.RowKit Go.Shelf
theorem Bx7.drew1 {V0 V1 w0 w1 w2 w3 : Value} {n A : Int} {w W : World} (h : Bx7 V0 V1 w0 w1 w2 w3 n A w W) : Bx7 V0 V1 w0 w1 w2 w3 n A w W.drew := h.below (Below.refl _ W).drew
/-- Slots, and the cell that is asked for. -/
theorem rslot7 {V0 V1 w0 w1 w2 w3 : Value} {n : Int} {k : Nat} {g : Fn} {w : World} (hg : FnIs w.cell? g w0 w1 w2 w3) (hgf : g.fits) (hk : k < (g.p ++ g.l).length) (bsl : (g.p ++ g.l).length ≤ 1000) :
    ∀ W, Bx7 V0 V1 w0 w1 w2 w3 n (k : Int) w W → Calls Tryz.prog 129 #[.agg #[w0, w1, w2, w3]] W fun e W' => ∃ sb sc, e = .returned (.slice (some ⟨sb, 0, none⟩) (g.p ++ g.l).length sc) ∧ W'.cell? ⟨sb, k, none⟩ = some (.int .i64 ((g.p ++ g.l).getD k 0)) ∧ sb < W'.heap.size ∧ W'.cell? ⟨w.heap.size + 1 + 1, 1, none⟩ = some (.int .i64 k) ∧ w.heap.size + 1 + 1 < W'.heap.size ∧ Hid (Bx7 V0 V1 w0 w1 w2 w3 n (k : Int) w W' ∧ Below W.heap.size W W') := fun W hx => by
  have hk' := hk
  rw [List.length_append] at hk' bsl
  refine (rslots_any g w0 w1 w2 w3 W (hg.keep (below_keep hx.b)) hgf (by omega)).mono fun e W' ⟨⟨v, h1, h2⟩, h3⟩ => ?_
  obtain ⟨a, c, rfl, hc, _, q⟩ := row_form h2
  rcases q with ⟨_, h0, _⟩ | ⟨sb, rfl, _, hl, hcell⟩
  · omega
  have x := hx.below h3
  refine ⟨sb, c, h1, hcell k _ ?_, hl, x.xc.2, blk_lt x.x, hid7 ⟨x, h3⟩⟩
  rw [cellsN, List.getElem?_map, List.getElem?_eq_getElem hk, List.getD_eq_getElem?_getD, List.getElem?_eq_getElem hk]
  rfl
theorem take_one {p : List Int} {k : Nat} (h : takeS p [0] = (0, k)) : p.length = k + 1 := by
  unfold takeS at h
  simp only [List.reverse_cons, List.reverse_nil, List.nil_append, tkS] at h
  split at h
  · cases h
  · simp only [ne_eq, not_true_eq_false, false_and, if_false, Prod.mk.injEq, true_and] at h
    omega
theorem take_two {p : List Int} {k : Nat} (h : takeS p [0, 0] = (0, k)) : p.length = k + 2 := by
  unfold takeS at h
  simp only [List.reverse_cons, List.reverse_nil, List.nil_append, List.cons_append, tkS] at h
  split at h
  · cases h
  · simp only [ne_eq, not_true_eq_false, false_and, if_false] at h
    split at h
    · cases h
    · simp only [Prod.mk.injEq, true_and] at h
      omega
theorem drop_one {p : List Int} {k : Nat} (h : p.length = k + 1) : p.drop k = [p.getD k 0] := by
  rw [List.drop_eq_getElem_cons (by omega), List.drop_eq_nil_of_le (by omega), List.getD_eq_getElem?_getD, List.getElem?_eq_getElem (by omega)]
  rfl
theorem drop_two {p : List Int} {k : Nat} (h : p.length = k + 2) : p.drop k = [p.getD k 0, p.getD (k + 1) 0] := by
  rw [List.drop_eq_getElem_cons (by omega), drop_one (k := k + 1) (by omega), List.getD_eq_getElem?_getD, List.getD_eq_getElem?_getD, List.getElem?_eq_getElem (by omega), List.getElem?_eq_getElem (by omega)]
  rfl
theorem row_new {V : World} (xs : List Int) (n : Nat) : Lies (V.alloc (.cells (cellsN xs).toArray 3)) (.slice (some ⟨V.heap.size, 0, none⟩) n n) n (cellsN xs) := by
  refine .inr ⟨_, n, rfl, fun j u hu => ?_⟩
  rw [Addr.add_lit, Nat.zero_add, Lib.cell_of_heap (heap_alloc_new V _)]
  simpa using hu
set_option maxRecDepth 100000 in
set_option maxHeartbeats 2000000 in
theorem rstep_dup (A : Int) (p : List Int) (V0 V1 w0 w1 w2 w3 : Value) (la : Option Addr) (pl lc : Nat) (hpl : p.length = pl) (bp : pl ≤ 1000) (hlc : pl ≤ lc) (w : World) (hp : NsAt w.cell? la p) :
    Calls Tryz.prog 90 #[.agg #[V0, V1], .agg #[w0, w1, w2, w3], .agg #[.int .i64 6, .int .i64 A], .slice la pl lc] w (RStepEnd (if (takeS p [0]).1 = 0 then (0, p.take (takeS p [0]).2 ++ (p.drop (takeS p [0]).2 ++ p.drop (takeS p [0]).2)) else ((takeS p [0]).1, p)) w) := by
  have HH := rhead7 V0 V1 w0 w1 w2 w3 6 A w
  rw [show nameT 6 = [100, 117, 112] by decide, show inT 6 = [0] by decide, show outT 6 = [0, 0] by decide] at HH
  simp only [List.length_cons, List.length_nil, Nat.zero_add] at HH
  have HT : Hid (∀ W ta tc tl, tl = ([0]).length → Bx7 V0 V1 w0 w1 w2 w3 6 A w W → NsAt W.cell? ta [0] → _) := hid7 fun W ta tc tl htl (hx : Bx7 V0 V1 w0 w1 w2 w3 6 A w W) hi => rtail7 (tl := tl) (tc := tc) hpl bp hlc htl.symm (by simp_all) hx.b (hp.keep (below_keep hx.b)) hi
  have htl := takeS_le p [0]
  rw [hpl] at htl
  generalize hTT : takeS p [0] = TT at HT htl ⊢
  obtain ⟨er, k0⟩ := TT
  simp only at HT htl ⊢
  by_cases h0 : er = 0
  · subst h0
    rw [if_pos rfl]
    have hq := take_one hTT
    have hplk : pl = k0 + 1 := by omega
    subst hplk
    obtain ⟨lb, lo, rfl⟩ := ns_some hp (by omega)
    have c0 := ns_at hp k0 (by omega)
    have hO := drop_one hq
    generalize p.getD k0 0 = t0 at *
    have hG : (p.drop k0 ++ p.drop k0) = [t0, t0] := by rw [hO]; rfl
    rw [hG]
    have HE := hid7 fun W e a c => rstep_end (p := p) (O := [t0, t0]) (w := w) (W := W) (e := e) (a := a) (n := k0) (c := c) (by omega)
    have HC : Hid (∀ W, Below w.heap.size w W → W.cell? ⟨lb, lo + k0, none⟩ = some (.int .i64 t0) ∧ lb < W.heap.size) := hid7 fun W hb => ⟨below_keep hb _ _ c0, Nat.lt_of_lt_of_le (World.block_lt_of_cell? w _ c0) hb.size⟩
    have HO : Hid (∀ V : World, Lies (V.alloc (.cells #[.int .i64 t0, .int .i64 t0] 3)).drew (.slice (some ⟨V.heap.size, 0, none⟩) 2 2) 2 [.int .i64 t0, .int .i64 t0]) := hid7 fun V => (row_new [t0, t0] 2).keep (below_keep (Below.refl _ _).drew)
    have HW : Hid (∀ W4 V a4 c4, Below w.heap.size w W4 → W4.ownsRow w.heap.size 3 1 (.slice a4 k0 c4) k0 (cellsN (p.take k0)) → Below W4.heap.size W4 V → V.ownsRow w.heap.size 3 1 (.slice a4 k0 c4) k0 (cellsN (p.take k0)) ∧ w.heap.size ≤ V.heap.size ∧ Below w.heap.size w V) := hid7 fun W4 V a4 c4 h1 h2 h3 => ⟨row_below2 h2 h3, Nat.le_trans h1.size h3.size, h1.trans (h3.mono h1.size)⟩
    clear hTT hp c0 hO hG hq
    go_enter Tryz.func90, Tryz.ntmps90
    go_wp2_with (first
      | (go_at_call 108; refine HH.out.mono ?_; clear HH; rintro e W1 ⟨rfl, x1, H1⟩)
      | (go_at_call 127; refine H1.out.mono ?_; clear H1; rintro e W2 ⟨ia, ic, rfl, x2, H2⟩)
      | (go_at_call 128; refine H2.out.mono ?_; clear H2; rintro e W3 ⟨oa, oc, rfl, H3⟩; have H4 := hid7 (HT.out W3 ia ic _ rfl H3.out.1 H3.out.2.1); clear HT)
      | (go_at_call 130; refine H4.out.mono ?_; clear H4; rintro e W4 ⟨-, h4'⟩; obtain ⟨a4, c4, rfl, H5⟩ := h4' (by simp); clear h4'; obtain ⟨d0, dl⟩ := HC.out W4 H5.out.2.1; clear HC)
      | fail)
    have g1 : IntKind.i64.wrap (k0 : Int) = k0 := by rw [IntKind.wrap_i64]; omega
    have g2 : (0 : Int) ≤ k0 := by omega
    have g3 : (k0 : Int) < (k0 : Int) + 1 := by omega
    go_region_held3 (fun W => W.cell? ⟨lb, lo + k0, none⟩ = some (.int .i64 t0)) (first | exact d0 | go_keep) (fail)
    obtain ⟨o4, s4, b4⟩ := HW.out W4 (W4.alloc (.cells #[.int .i64 t0, .int .i64 t0] 3)).drew a4 c4 H5.out.2.1 H5.out.1 (((Below.refl _ W4).alloc (Nat.le_refl _) _).drew)
    have hL := HO.out W4
    have O4 := hid7 o4
    have B4 := hid7 b4
    clear o4 b4 HO HW
    go_wp2_with (at_builtin; refine wpList_appN _ rfl _ _ 28 rfl elemN_int w.heap.size _ k0 (cellsN (p.take k0)) rfl O4.out _ rfl 2 [.int .i64 t0, .int .i64 t0] hL rfl (by simp [Value.oneCell']) (by unfold maxLen; omega) (by omega) s4 ?_; intro v' W5 hr5 st5; obtain ⟨va, vc, y5, _⟩ := row_form hr5; subst y5; have K5 := hid7 (And.intro hr5 st5); clear hr5 st5)
    go_ret2
    exact HE.out _ _ _ _ K5.out.1 (B4.out.trans (K5.out.2.below s4 fun g e => (O4.out.lt g e).1)) rfl
  · rw [if_neg h0]
    have hne : (er != 0) = true := by simpa using h0
    clear hTT hp
    go_enter Tryz.func90, Tryz.ntmps90
    go_wp2_with (first
      | (go_at_call 108; refine HH.out.mono ?_; clear HH; rintro e W1 ⟨rfl, x1, H1⟩)
      | (go_at_call 127; refine H1.out.mono ?_; clear H1; rintro e W2 ⟨ia, ic, rfl, x2, H2⟩)
      | (go_at_call 128; refine H2.out.mono ?_; clear H2; rintro e W3 ⟨oa, oc, rfl, H3⟩; have H4 := hid7 (HT.out W3 ia ic _ rfl H3.out.1 H3.out.2.1); clear HT)
      | (go_at_call 130; refine H4.out.mono ?_; clear H4; rintro e W4 ⟨h4', -⟩; obtain ⟨a4, n4, c4, rfl, b5⟩ := h4' h0; clear h4')
      | fail)
    go_ret2
    exact ⟨none, 0, 0, rfl, fun h => absurd h h0, b5⟩
set_option maxRecDepth 100000 in
set_option maxHeartbeats 2000000 in
theorem rstep_swap (A : Int) (p : List Int) (V0 V1 w0 w1 w2 w3 : Value) (la : Option Addr) (pl lc : Nat) (hpl : p.length = pl) (bp : pl ≤ 1000) (hlc : pl ≤ lc) (w : World) (hp : NsAt w.cell? la p) :
    Calls Tryz.prog 90 #[.agg #[V0, V1], .agg #[w0, w1, w2, w3], .agg #[.int .i64 7, .int .i64 A], .slice la pl lc] w (RStepEnd (if (takeS p [0, 0]).1 = 0 then (0, p.take (takeS p [0, 0]).2 ++ ((p.drop (takeS p [0, 0]).2).drop 1 ++ [(p.drop (takeS p [0, 0]).2).getD 0 0])) else ((takeS p [0, 0]).1, p)) w) := by
  have HH := rhead7 V0 V1 w0 w1 w2 w3 7 A w
  rw [show nameT 7 = [115, 119, 97, 112] by decide, show inT 7 = [0, 0] by decide, show outT 7 = [0, 0] by decide] at HH
  simp only [List.length_cons, List.length_nil, Nat.zero_add] at HH
  have HT : Hid (∀ W ta tc tl, tl = ([0, 0]).length → Bx7 V0 V1 w0 w1 w2 w3 7 A w W → NsAt W.cell? ta [0, 0] → _) := hid7 fun W ta tc tl htl (hx : Bx7 V0 V1 w0 w1 w2 w3 7 A w W) hi => rtail7 (tl := tl) (tc := tc) hpl bp hlc htl.symm (by simp_all) hx.b (hp.keep (below_keep hx.b)) hi
  have htl := takeS_le p [0, 0]
  rw [hpl] at htl
  generalize hTT : takeS p [0, 0] = TT at HT htl ⊢
  obtain ⟨er, k0⟩ := TT
  simp only at HT htl ⊢
  by_cases h0 : er = 0
  · subst h0
    rw [if_pos rfl]
    have hq := take_two hTT
    have hplk : pl = k0 + 2 := by omega
    subst hplk
    obtain ⟨lb, lo, rfl⟩ := ns_some hp (by omega)
    have c0 := ns_at hp k0 (by omega)
    have c1 := ns_at hp (k0 + 1) (by omega)
    have hO := drop_two hq
    generalize p.getD k0 0 = t0 at *
    generalize p.getD (k0 + 1) 0 = t1 at *
    have hG : ((p.drop k0).drop 1 ++ [(p.drop k0).getD 0 0]) = [t1, t0] := by rw [hO]; rfl
    rw [hG]
    have HE := hid7 fun W e a c => rstep_end (p := p) (O := [t1, t0]) (w := w) (W := W) (e := e) (a := a) (n := k0) (c := c) (by omega)
    have HC : Hid (∀ W, Below w.heap.size w W → W.cell? ⟨lb, lo + k0, none⟩ = some (.int .i64 t0) ∧ W.cell? ⟨lb, lo + (k0 + 1), none⟩ = some (.int .i64 t1) ∧ lb < W.heap.size) := hid7 fun W hb => ⟨below_keep hb _ _ c0, below_keep hb _ _ c1, Nat.lt_of_lt_of_le (World.block_lt_of_cell? w _ c0) hb.size⟩
    have HO : Hid (∀ V : World, Lies (V.alloc (.cells #[.int .i64 t1, .int .i64 t0] 3)).drew (.slice (some ⟨V.heap.size, 0, none⟩) 2 2) 2 [.int .i64 t1, .int .i64 t0]) := hid7 fun V => (row_new [t1, t0] 2).keep (below_keep (Below.refl _ _).drew)
    have HW : Hid (∀ W4 V a4 c4, Below w.heap.size w W4 → W4.ownsRow w.heap.size 3 1 (.slice a4 k0 c4) k0 (cellsN (p.take k0)) → Below W4.heap.size W4 V → V.ownsRow w.heap.size 3 1 (.slice a4 k0 c4) k0 (cellsN (p.take k0)) ∧ w.heap.size ≤ V.heap.size ∧ Below w.heap.size w V) := hid7 fun W4 V a4 c4 h1 h2 h3 => ⟨row_below2 h2 h3, Nat.le_trans h1.size h3.size, h1.trans (h3.mono h1.size)⟩
    clear hTT hp c0 hO hG hq c1
    go_enter Tryz.func90, Tryz.ntmps90
    go_wp2_with (first
      | (go_at_call 108; refine HH.out.mono ?_; clear HH; rintro e W1 ⟨rfl, x1, H1⟩)
      | (go_at_call 127; refine H1.out.mono ?_; clear H1; rintro e W2 ⟨ia, ic, rfl, x2, H2⟩)
      | (go_at_call 128; refine H2.out.mono ?_; clear H2; rintro e W3 ⟨oa, oc, rfl, H3⟩; have H4 := hid7 (HT.out W3 ia ic _ rfl H3.out.1 H3.out.2.1); clear HT)
      | (go_at_call 130; refine H4.out.mono ?_; clear H4; rintro e W4 ⟨-, h4'⟩; obtain ⟨a4, c4, rfl, H5⟩ := h4' (by simp); clear h4'; obtain ⟨d0, d1, dl⟩ := HC.out W4 H5.out.2.1; clear HC)
      | fail)
    have g1 : IntKind.i64.wrap (k0 : Int) = k0 := by rw [IntKind.wrap_i64]; omega
    have g2 : (0 : Int) ≤ k0 := by omega
    have g3 : (k0 : Int) < (k0 : Int) + 2 := by omega
    have g4 : (k0 : Int) + 1 < (k0 : Int) + 2 := by omega
    have g5 : (0 : Int) ≤ (k0 : Int) + 1 := by omega
    have g6 : IntKind.i64.wrap ((k0 : Int) + 2 - 1) = (k0 : Int) + 1 := by rw [IntKind.wrap_i64]; omega
    have g7 : IntKind.i64.wrap ((k0 : Int) + 1) = (k0 : Int) + 1 := by rw [IntKind.wrap_i64]; omega
    go_region_held3 (fun W => W.cell? ⟨lb, lo + k0, none⟩ = some (.int .i64 t0) ∧ W.cell? ⟨lb, lo + (k0 + 1), none⟩ = some (.int .i64 t1)) (first | exact ⟨d0, d1⟩ | go_keep) (fail)
    obtain ⟨o4, s4, b4⟩ := HW.out W4 (W4.alloc (.cells #[.int .i64 t1, .int .i64 t0] 3)).drew a4 c4 H5.out.2.1 H5.out.1 (((Below.refl _ W4).alloc (Nat.le_refl _) _).drew)
    have hL := HO.out W4
    have O4 := hid7 o4
    have B4 := hid7 b4
    clear o4 b4 HO HW
    go_wp2_with (at_builtin; refine wpList_appN _ rfl _ _ 28 rfl elemN_int w.heap.size _ k0 (cellsN (p.take k0)) rfl O4.out _ rfl 2 [.int .i64 t1, .int .i64 t0] hL rfl (by simp [Value.oneCell']) (by unfold maxLen; omega) (by omega) s4 ?_; intro v' W5 hr5 st5; obtain ⟨va, vc, y5, _⟩ := row_form hr5; subst y5; have K5 := hid7 (And.intro hr5 st5); clear hr5 st5)
    go_ret2
    exact HE.out _ _ _ _ K5.out.1 (B4.out.trans (K5.out.2.below s4 fun g e => (O4.out.lt g e).1)) rfl
  · rw [if_neg h0]
    have hne : (er != 0) = true := by simpa using h0
    clear hTT hp
    go_enter Tryz.func90, Tryz.ntmps90
    go_wp2_with (first
      | (go_at_call 108; refine HH.out.mono ?_; clear HH; rintro e W1 ⟨rfl, x1, H1⟩)
      | (go_at_call 127; refine H1.out.mono ?_; clear H1; rintro e W2 ⟨ia, ic, rfl, x2, H2⟩)
      | (go_at_call 128; refine H2.out.mono ?_; clear H2; rintro e W3 ⟨oa, oc, rfl, H3⟩; have H4 := hid7 (HT.out W3 ia ic _ rfl H3.out.1 H3.out.2.1); clear HT)
      | (go_at_call 130; refine H4.out.mono ?_; clear H4; rintro e W4 ⟨h4', -⟩; obtain ⟨a4, n4, c4, rfl, b5⟩ := h4' h0; clear h4')
      | fail)
    go_ret2
    exact ⟨none, 0, 0, rfl, fun h => absurd h h0, b5⟩
set_option maxRecDepth 100000 in
set_option maxHeartbeats 2000000 in
theorem rstep_over (A : Int) (p : List Int) (V0 V1 w0 w1 w2 w3 : Value) (la : Option Addr) (pl lc : Nat) (hpl : p.length = pl) (bp : pl ≤ 1000) (hlc : pl ≤ lc) (w : World) (hp : NsAt w.cell? la p) :
    Calls Tryz.prog 90 #[.agg #[V0, V1], .agg #[w0, w1, w2, w3], .agg #[.int .i64 8, .int .i64 A], .slice la pl lc] w (RStepEnd (if (takeS p [0, 0]).1 = 0 then (0, p.take (takeS p [0, 0]).2 ++ (p.drop (takeS p [0, 0]).2 ++ [(p.drop (takeS p [0, 0]).2).getD 0 0])) else ((takeS p [0, 0]).1, p)) w) := by
  have HH := rhead7 V0 V1 w0 w1 w2 w3 8 A w
  rw [show nameT 8 = [111, 118, 101, 114] by decide, show inT 8 = [0, 0] by decide, show outT 8 = [0, 0, 0] by decide] at HH
  simp only [List.length_cons, List.length_nil, Nat.zero_add] at HH
  have HT : Hid (∀ W ta tc tl, tl = ([0, 0]).length → Bx7 V0 V1 w0 w1 w2 w3 8 A w W → NsAt W.cell? ta [0, 0] → _) := hid7 fun W ta tc tl htl (hx : Bx7 V0 V1 w0 w1 w2 w3 8 A w W) hi => rtail7 (tl := tl) (tc := tc) hpl bp hlc htl.symm (by simp_all) hx.b (hp.keep (below_keep hx.b)) hi
  have htl := takeS_le p [0, 0]
  rw [hpl] at htl
  generalize hTT : takeS p [0, 0] = TT at HT htl ⊢
  obtain ⟨er, k0⟩ := TT
  simp only at HT htl ⊢
  by_cases h0 : er = 0
  · subst h0
    rw [if_pos rfl]
    have hq := take_two hTT
    have hplk : pl = k0 + 2 := by omega
    subst hplk
    obtain ⟨lb, lo, rfl⟩ := ns_some hp (by omega)
    have c0 := ns_at hp k0 (by omega)
    have c1 := ns_at hp (k0 + 1) (by omega)
    have hO := drop_two hq
    generalize p.getD k0 0 = t0 at *
    generalize p.getD (k0 + 1) 0 = t1 at *
    have hG : (p.drop k0 ++ [(p.drop k0).getD 0 0]) = [t0, t1, t0] := by rw [hO]; rfl
    rw [hG]
    have HE := hid7 fun W e a c => rstep_end (p := p) (O := [t0, t1, t0]) (w := w) (W := W) (e := e) (a := a) (n := k0) (c := c) (by omega)
    have HC : Hid (∀ W, Below w.heap.size w W → W.cell? ⟨lb, lo + k0, none⟩ = some (.int .i64 t0) ∧ W.cell? ⟨lb, lo + (k0 + 1), none⟩ = some (.int .i64 t1) ∧ lb < W.heap.size) := hid7 fun W hb => ⟨below_keep hb _ _ c0, below_keep hb _ _ c1, Nat.lt_of_lt_of_le (World.block_lt_of_cell? w _ c0) hb.size⟩
    have HO : Hid (∀ V : World, Lies (V.alloc (.cells #[.int .i64 t0, .int .i64 t1, .int .i64 t0] 3)).drew (.slice (some ⟨V.heap.size, 0, none⟩) 3 3) 3 [.int .i64 t0, .int .i64 t1, .int .i64 t0]) := hid7 fun V => (row_new [t0, t1, t0] 3).keep (below_keep (Below.refl _ _).drew)
    have HW : Hid (∀ W4 V a4 c4, Below w.heap.size w W4 → W4.ownsRow w.heap.size 3 1 (.slice a4 k0 c4) k0 (cellsN (p.take k0)) → Below W4.heap.size W4 V → V.ownsRow w.heap.size 3 1 (.slice a4 k0 c4) k0 (cellsN (p.take k0)) ∧ w.heap.size ≤ V.heap.size ∧ Below w.heap.size w V) := hid7 fun W4 V a4 c4 h1 h2 h3 => ⟨row_below2 h2 h3, Nat.le_trans h1.size h3.size, h1.trans (h3.mono h1.size)⟩
    clear hTT hp c0 hO hG hq c1
    go_enter Tryz.func90, Tryz.ntmps90
    go_wp2_with (first
      | (go_at_call 108; refine HH.out.mono ?_; clear HH; rintro e W1 ⟨rfl, x1, H1⟩)
      | (go_at_call 127; refine H1.out.mono ?_; clear H1; rintro e W2 ⟨ia, ic, rfl, x2, H2⟩)
      | (go_at_call 128; refine H2.out.mono ?_; clear H2; rintro e W3 ⟨oa, oc, rfl, H3⟩; have H4 := hid7 (HT.out W3 ia ic _ rfl H3.out.1 H3.out.2.1); clear HT)
      | (go_at_call 130; refine H4.out.mono ?_; clear H4; rintro e W4 ⟨-, h4'⟩; obtain ⟨a4, c4, rfl, H5⟩ := h4' (by simp); clear h4'; obtain ⟨d0, d1, dl⟩ := HC.out W4 H5.out.2.1; clear HC)
      | fail)
    have g1 : IntKind.i64.wrap (k0 : Int) = k0 := by rw [IntKind.wrap_i64]; omega
    have g2 : (0 : Int) ≤ k0 := by omega
    have g3 : (k0 : Int) < (k0 : Int) + 2 := by omega
    have g4 : (k0 : Int) + 1 < (k0 : Int) + 2 := by omega
    have g5 : (0 : Int) ≤ (k0 : Int) + 1 := by omega
    have g6 : IntKind.i64.wrap ((k0 : Int) + 2 - 1) = (k0 : Int) + 1 := by rw [IntKind.wrap_i64]; omega
    have g7 : IntKind.i64.wrap ((k0 : Int) + 1) = (k0 : Int) + 1 := by rw [IntKind.wrap_i64]; omega
    go_region_held3 (fun W => W.cell? ⟨lb, lo + k0, none⟩ = some (.int .i64 t0) ∧ W.cell? ⟨lb, lo + (k0 + 1), none⟩ = some (.int .i64 t1)) (first | exact ⟨d0, d1⟩ | go_keep) (fail)
    obtain ⟨o4, s4, b4⟩ := HW.out W4 (W4.alloc (.cells #[.int .i64 t0, .int .i64 t1, .int .i64 t0] 3)).drew a4 c4 H5.out.2.1 H5.out.1 (((Below.refl _ W4).alloc (Nat.le_refl _) _).drew)
    have hL := HO.out W4
    have O4 := hid7 o4
    have B4 := hid7 b4
    clear o4 b4 HO HW
    go_wp2_with (at_builtin; refine wpList_appN _ rfl _ _ 28 rfl elemN_int w.heap.size _ k0 (cellsN (p.take k0)) rfl O4.out _ rfl 3 [.int .i64 t0, .int .i64 t1, .int .i64 t0] hL rfl (by simp [Value.oneCell']) (by unfold maxLen; omega) (by omega) s4 ?_; intro v' W5 hr5 st5; obtain ⟨va, vc, y5, _⟩ := row_form hr5; subst y5; have K5 := hid7 (And.intro hr5 st5); clear hr5 st5)
    go_ret2
    exact HE.out _ _ _ _ K5.out.1 (B4.out.trans (K5.out.2.below s4 fun g e => (O4.out.lt g e).1)) rfl
  · rw [if_neg h0]
    have hne : (er != 0) = true := by simpa using h0
    clear hTT hp
    go_enter Tryz.func90, Tryz.ntmps90
    go_wp2_with (first
      | (go_at_call 108; refine HH.out.mono ?_; clear HH; rintro e W1 ⟨rfl, x1, H1⟩)
      | (go_at_call 127; refine H1.out.mono ?_; clear H1; rintro e W2 ⟨ia, ic, rfl, x2, H2⟩)
      | (go_at_call 128; refine H2.out.mono ?_; clear H2; rintro e W3 ⟨oa, oc, rfl, H3⟩; have H4 := hid7 (HT.out W3 ia ic _ rfl H3.out.1 H3.out.2.1); clear HT)
      | (go_at_call 130; refine H4.out.mono ?_; clear H4; rintro e W4 ⟨h4', -⟩; obtain ⟨a4, n4, c4, rfl, b5⟩ := h4' h0; clear h4')
      | fail)
    go_ret2
    exact ⟨none, 0, 0, rfl, fun h => absurd h h0, b5⟩
end Go.Proofs.YtpmlnkjamhelnaaGreat
namespace Go.Proofs.YtpmlnkjamhelnaaGreat
open Go.RowKit Go.Shelf
theorem lies_one (V : World) (y : Int) : Lies (V.alloc (.cells #[.int .i64 y] 3)) (.slice (some ⟨V.heap.size, 0, none⟩) 1 1) 1 (cellsN [y]) := row_new [y] 1
set_option maxRecDepth 100000 in
set_option maxHeartbeats 2000000 in
theorem rstep_set (k : Nat) (g : Fn) (p : List Int) (V0 V1 w0 w1 w2 w3 : Value) (la : Option Addr) (pl lc : Nat) (hpl : p.length = pl) (bp : pl ≤ 1000) (hlc : pl ≤ lc) (w : World) (hp : NsAt w.cell? la p) (hg : FnIs w.cell? g w0 w1 w2 w3) (hgf : g.fits) (hk : k < (g.p ++ g.l).length) (bsl : (g.p ++ g.l).length ≤ 1000) :
    Calls Tryz.prog 90 #[.agg #[V0, V1], .agg #[w0, w1, w2, w3], .agg #[.int .i64 10, .int .i64 k], .slice la pl lc] w (RStepEnd (if (takeS p [(g.p ++ g.l).getD k 0]).1 = 0 then (0, p.take (takeS p [(g.p ++ g.l).getD k 0]).2 ++ []) else ((takeS p [(g.p ++ g.l).getD k 0]).1, p)) w) := by
  have HH := rhead7 V0 V1 w0 w1 w2 w3 10 k w
  rw [show nameT 10 = [115, 101, 116] by decide, show inT 10 = [0] by decide, show outT 10 = [] by decide] at HH
  simp only [List.length_cons, List.length_nil, Nat.zero_add] at HH
  have HS := hid7 (rslot7 (V0 := V0) (V1 := V1) (n := 10) hg hgf hk bsl)
  generalize (g.p ++ g.l).getD k 0 = y at *
  generalize (g.p ++ g.l).length = sn at *
  have HT : Hid (∀ W, Bx7 V0 V1 w0 w1 w2 w3 10 k w W → Calls Tryz.prog 130 #[.slice la pl lc, .slice (some ⟨W.heap.size, 0, none⟩) 1 1] (W.alloc (.cells #[.int .i64 y] 3)) _) := hid7 fun W hx => rtail7 (T := [y]) (tl := 1) (tc := 1) (w := w) hpl bp hlc rfl (by omega) (hx.b.alloc hx.b.size _) (hp.keep (below_keep (hx.b.alloc hx.b.size _))) (ns_one_new W y)
  have htl := takeS_le p [y]
  rw [hpl] at htl
  generalize hTT : takeS p [y] = TT at HT htl ⊢
  obtain ⟨er, k0⟩ := TT
  simp only at HT htl ⊢
  have hkn : (k : Int) < sn := by omega
  have hk0 : (0 : Int) ≤ k := by omega
  by_cases h0 : er = 0
  · subst h0
    rw [if_pos rfl]
    have HE := hid7 fun W e a c => rstep_end (p := p) (O := []) (w := w) (W := W) (e := e) (a := a) (n := k0) (c := c) (by omega)
    have HO : Hid (∀ (W : World) oa oc, Lies W (.slice oa 0 oc) 0 (cellsN [])) := hid7 fun W oa oc => (show NsAt W.cell? oa [] from .inl rfl).lies oc
    clear hTT hp hg
    go_enter Tryz.func90, Tryz.ntmps90
    go_wp2_with (first
      | (go_at_call 108; refine HH.out.mono ?_; clear HH; rintro e W1 ⟨rfl, x1, H1⟩)
      | (go_at_call 127; refine H1.out.mono ?_; clear H1; rintro e W2 ⟨ia, ic, rfl, x2, H2⟩)
      | (go_at_call 128; refine H2.out.mono ?_; clear H2; rintro e W3 ⟨oa, oc, rfl, H3⟩; obtain ⟨f0, f1, f2, f3⟩ := H3.out.1.fc; have f4 := H3.out.1.xc.2)
      | fail)
    go_region_with (first | (go_at_call 129; refine (HS.out _ H3.out.1.drew1).mono ?_; clear HS; rintro e W4 ⟨sb, sc, rfl, s1, s2, s3, s4, H5⟩; have H6 := hid7 (HT.out W4 H5.out.1); clear HT) | fail)
    all_goals
      go_wp2_with (first
        | (go_at_call 130; refine H6.out.mono ?_; clear H6; rintro e W5 ⟨-, h4'⟩; obtain ⟨a4, c4, rfl, H7⟩ := h4' (by simp); clear h4'; have hs4 := H7.out.2.1.size; have hL := HO.out W5 oa oc; clear HO)
        | (at_builtin; refine wpList_appN _ rfl _ _ 28 rfl elemN_int w.heap.size _ k0 (cellsN (p.take k0)) rfl H7.out.1 _ rfl 0 (cellsN []) hL rfl (cellsN_one []) (by unfold maxLen; omega) (by omega) hs4 ?_; intro v' W6 hr5 st5; obtain ⟨va, vc, y5, _⟩ := row_form hr5; subst y5; have K5 := hid7 (And.intro hr5 st5); clear hr5 st5)
        | fail)
      go_ret2
      exact HE.out _ _ _ _ K5.out.1 (H7.out.2.1.trans (K5.out.2.below hs4 fun g e => (H7.out.1.lt g e).1)) rfl
  · rw [if_neg h0]
    have hne : (er != 0) = true := by simpa using h0
    clear hTT hp hg
    go_enter Tryz.func90, Tryz.ntmps90
    go_wp2_with (first
      | (go_at_call 108; refine HH.out.mono ?_; clear HH; rintro e W1 ⟨rfl, x1, H1⟩)
      | (go_at_call 127; refine H1.out.mono ?_; clear H1; rintro e W2 ⟨ia, ic, rfl, x2, H2⟩)
      | (go_at_call 128; refine H2.out.mono ?_; clear H2; rintro e W3 ⟨oa, oc, rfl, H3⟩; obtain ⟨f0, f1, f2, f3⟩ := H3.out.1.fc; have f4 := H3.out.1.xc.2)
      | fail)
    go_region_with (first | (go_at_call 129; refine (HS.out _ H3.out.1.drew1).mono ?_; clear HS; rintro e W4 ⟨sb, sc, rfl, s1, s2, s3, s4, H5⟩; have H6 := hid7 (HT.out W4 H5.out.1); clear HT) | fail)
    all_goals
      go_wp2_with (first | (go_at_call 130; refine H6.out.mono ?_; clear H6; rintro e W5 ⟨h4', -⟩; obtain ⟨a4, n4, c4, rfl, b5⟩ := h4' h0; clear h4') | fail)
      go_ret2
      exact ⟨none, 0, 0, rfl, fun h => absurd h h0, b5⟩
set_option maxRecDepth 100000 in
set_option maxHeartbeats 2000000 in
theorem rstep_get (k : Nat) (g : Fn) (p : List Int) (V0 V1 w0 w1 w2 w3 : Value) (la : Option Addr) (pl lc : Nat) (hpl : p.length = pl) (bp : pl ≤ 1000) (hlc : pl ≤ lc) (w : World) (hp : NsAt w.cell? la p) (hg : FnIs w.cell? g w0 w1 w2 w3) (hgf : g.fits) (hk : k < (g.p ++ g.l).length) (bsl : (g.p ++ g.l).length ≤ 1000) :
    Calls Tryz.prog 90 #[.agg #[V0, V1], .agg #[w0, w1, w2, w3], .agg #[.int .i64 9, .int .i64 k], .slice la pl lc] w (RStepEnd (0, p ++ [(g.p ++ g.l).getD k 0]) w) := by
  have HH := rhead7 V0 V1 w0 w1 w2 w3 9 k w
  rw [show nameT 9 = [103, 101, 116] by decide, show inT 9 = [] by decide, show outT 9 = [0] by decide] at HH
  simp only [List.length_cons, List.length_nil, Nat.zero_add] at HH
  have HS := hid7 (rslot7 (V0 := V0) (V1 := V1) (n := 9) hg hgf hk bsl)
  generalize (g.p ++ g.l).getD k 0 = y at *
  generalize (g.p ++ g.l).length = sn at *
  have ht : takeS p [] = (0, p.length) := by simp [takeS, tkS]
  have HT : Hid (∀ W ia ic, Bx7 V0 V1 w0 w1 w2 w3 9 k w W → Calls Tryz.prog 130 #[.slice la pl lc, .slice ia 0 ic] (W.alloc (.cells #[.int .i64 y] 3)) fun e W' => ∃ a c, e = .returned (.tuple #[.slice a pl c, .int .i64 0]) ∧ Lies W' (.slice (some ⟨W.heap.size, 0, none⟩) 1 1) 1 [.int .i64 y] ∧ Hid (W'.ownsRow w.heap.size 3 1 (.slice a pl c) pl (cellsN (p.take pl)) ∧ Below w.heap.size w W')) := hid7 fun W ia ic hx => (rtail7 (T := []) (tl := 0) (tc := ic) (w := w) hpl bp hlc rfl (by omega) (hx.b.alloc hx.b.size _) (hp.keep (below_keep (hx.b.alloc hx.b.size _))) (.inl rfl)).mono fun e W' ⟨_, h2⟩ => by
    rw [ht, hpl] at h2
    obtain ⟨a, c, h3, h4⟩ := h2 rfl
    exact ⟨a, c, h3, (lies_one W y).keep (below_keep h4.out.2.2), hid7 ⟨h4.out.1, h4.out.2.1⟩⟩
  have hkn : (k : Int) < sn := by omega
  have hk0 : (0 : Int) ≤ k := by omega
  have HE := hid7 fun W e a c => rstep_end (p := p) (O := [y]) (w := w) (W := W) (e := e) (a := a) (n := pl) (c := c) (by omega)
  rw [show p.take pl = p by rw [← hpl]; exact List.take_length] at HE HT
  clear hp hg ht
  go_enter Tryz.func90, Tryz.ntmps90
  go_wp2_with (first
    | (go_at_call 108; refine HH.out.mono ?_; clear HH; rintro e W1 ⟨rfl, x1, H1⟩)
    | (go_at_call 127; refine H1.out.mono ?_; clear H1; rintro e W2 ⟨ia, ic, rfl, x2, H2⟩)
    | (go_at_call 128; refine H2.out.mono ?_; clear H2; rintro e W3 ⟨oa, oc, rfl, H3⟩; obtain ⟨f0, f1, f2, f3⟩ := H3.out.1.fc; have f4 := H3.out.1.xc.2)
    | fail)
  go_region_with (first | (go_at_call 129; refine (HS.out _ H3.out.1.drew1).mono ?_; clear HS; rintro e W4 ⟨sb, sc, rfl, s1, s2, s3, s4, H5⟩; have H6 := hid7 (HT.out W4 ia ic H5.out.1); clear HT) | fail)
  all_goals
    go_wp2_with (first
      | (go_at_call 130; refine H6.out.mono ?_; clear H6; rintro e W5 ⟨a4, c4, rfl, hL, H7⟩; have hs4 := H7.out.2.size)
      | (at_builtin; refine wpList_appN _ rfl _ _ 28 rfl elemN_int w.heap.size _ pl (cellsN p) rfl H7.out.1 _ rfl 1 [.int .i64 y] hL rfl (by simp [Value.oneCell']) (by unfold maxLen; omega) (by omega) hs4 ?_; intro v' W6 hr5 st5; obtain ⟨va, vc, y5, _⟩ := row_form hr5; subst y5; have K5 := hid7 (And.intro hr5 st5); clear hr5 st5)
      | fail)
    go_ret2
    exact HE.out _ _ _ _ K5.out.1 (H7.out.2.trans (K5.out.2.below hs4 fun g e => (H7.out.1.lt g e).1)) rfl
end Go.Proofs.YtpmlnkjamhelnaaGreat
namespace Go.Proofs.YtpmlnkjamhelnaaGreat
open Go.RowKit Go.Shelf
set_option maxRecDepth 100000 in
set_option maxHeartbeats 2000000 in
theorem rstep_call (k : Nat) (fs : List Fn) (p : List Int) (V0 w0 w1 w2 w3 : Value) (fa : Option Addr) (fc : Nat) (la : Option Addr) (pl lc : Nat) (hpl : p.length = pl) (bp : pl ≤ 1000) (hlc : pl ≤ lc) (w : World) (hp : NsAt w.cell? la p) (hf : FsAt w.cell? fa fs) (hk : k < fs.length) (bf : fs.length ≤ 1000) (bi : (fnAt fs k).p.length ≤ 8) (bo : (fnAt fs k).r.length ≤ 8) :
    Calls Tryz.prog 90 #[.agg #[V0, .slice fa fs.length fc], .agg #[w0, w1, w2, w3], .agg #[.int .i64 53, .int .i64 k], .slice la pl lc] w (RStepEnd (if (takeS p (fnAt fs k).p).1 = 0 then (0, p.take (takeS p (fnAt fs k).p).2 ++ (fnAt fs k).r) else ((takeS p (fnAt fs k).p).1, p)) w) := by
  have HH := rhead7 V0 (.slice fa fs.length fc) w0 w1 w2 w3 53 k w
  rw [show nameT 53 = [99, 97, 108, 108] by decide, show inT 53 = [] by decide, show outT 53 = [] by decide] at HH
  simp only [List.length_nil] at HH
  obtain ⟨fb, fo, rfl⟩ := fs_some hf (by omega)
  obtain ⟨a0, c0, a1, c1, q0, q1, q2, q3⟩ := fn_cells hf k hk
  have HC : Hid (∀ W, Below w.heap.size w W → W.cell? ⟨fb, fo + k * 4, none⟩ = some (.slice a0 (fnAt fs k).p.length c0) ∧ W.cell? ⟨fb, fo + k * 4 + 1, none⟩ = some (.slice a1 (fnAt fs k).r.length c1) ∧ fb < W.heap.size) := hid7 fun W hb => ⟨below_keep hb _ _ q0, below_keep hb _ _ q2, Nat.lt_of_lt_of_le (World.block_lt_of_cell? w _ q0) hb.size⟩
  have HT : Hid (∀ W, Below w.heap.size w W → Calls Tryz.prog 130 #[.slice la pl lc, .slice a0 (fnAt fs k).p.length c0] W _) := hid7 fun W hb => rtail7 (T := (fnAt fs k).p) (tc := c0) (w := w) hpl bp hlc rfl (by omega) hb (hp.keep (below_keep hb)) (q1.keep (below_keep hb))
  have HO : Hid (∀ W, Below w.heap.size w W → Lies W (.slice a1 (fnAt fs k).r.length c1) (fnAt fs k).r.length (cellsN (fnAt fs k).r)) := hid7 fun W hb => (q3.keep (below_keep hb)).lies c1
  have hcl : (cellsN (fnAt fs k).r).length = (fnAt fs k).r.length * 1 := cellsN_len _
  have hc1 := hid7 (cellsN_one (fnAt fs k).r)
  have htl := takeS_le p (fnAt fs k).p
  rw [hpl] at htl
  generalize hTT : takeS p (fnAt fs k).p = TT at HT htl ⊢
  obtain ⟨er, k0⟩ := TT
  simp only at HT htl ⊢
  have hkn : (k : Int) < fs.length := by omega
  have hk0 : (0 : Int) ≤ k := by omega
  have HE := hid7 fun W e a c => rstep_end (p := p) (O := (fnAt fs k).r) (w := w) (W := W) (e := e) (a := a) (n := k0) (c := c) (by omega)
  clear hTT hp hf q0 q1 q2 q3
  generalize fs.length = fn at *
  generalize (fnAt fs k).p = T at *
  generalize (fnAt fs k).r = O at *
  generalize T.length = tl at *
  generalize O.length = ol at *
  by_cases h0 : er = 0
  · subst h0
    rw [if_pos rfl]
    go_enter Tryz.func90, Tryz.ntmps90
    go_wp2_with (first
      | (go_at_call 108; refine HH.out.mono ?_; clear HH; rintro e W1 ⟨rfl, x1, H1⟩)
      | (go_at_call 127; refine H1.out.mono ?_; clear H1; rintro e W2 ⟨ia, ic, rfl, x2, H2⟩)
      | (go_at_call 128; refine H2.out.mono ?_; clear H2; rintro e W3 ⟨oa, oc, rfl, H3⟩; have f3 := H3.out.1.sc.2; have f4 := H3.out.1.xc.2; obtain ⟨d0, d1, dl⟩ := HC.out W3 H3.out.1.b; clear HC; have H6 := hid7 (HT.out W3 H3.out.1.b); clear HT)
      | (go_at_call 130; refine H6.out.mono ?_; clear H6; rintro e W5 ⟨-, h4'⟩; obtain ⟨a4, c4, rfl, H7⟩ := h4' (by simp); clear h4'; have hs4 := H7.out.2.1.size; have hL := HO.out W5 H7.out.2.1; clear HO)
      | (at_builtin; refine wpList_appN _ rfl _ _ 28 rfl elemN_int w.heap.size _ k0 (cellsN (p.take k0)) rfl H7.out.1 _ rfl ol (cellsN O) hL hcl hc1.out (by unfold maxLen; omega) (by omega) hs4 ?_; intro v' W6 hr5 st5; obtain ⟨va, vc, y5, _⟩ := row_form hr5; subst y5; have K5 := hid7 (And.intro hr5 st5); clear hr5 st5)
      | fail)
    go_ret2
    exact HE.out _ _ _ _ K5.out.1 (H7.out.2.1.trans (K5.out.2.below hs4 fun g e => (H7.out.1.lt g e).1)) rfl
  · rw [if_neg h0]
    have hne : (er != 0) = true := by simpa using h0
    go_enter Tryz.func90, Tryz.ntmps90
    go_wp2_with (first
      | (go_at_call 108; refine HH.out.mono ?_; clear HH; rintro e W1 ⟨rfl, x1, H1⟩)
      | (go_at_call 127; refine H1.out.mono ?_; clear H1; rintro e W2 ⟨ia, ic, rfl, x2, H2⟩)
      | (go_at_call 128; refine H2.out.mono ?_; clear H2; rintro e W3 ⟨oa, oc, rfl, H3⟩; have f3 := H3.out.1.sc.2; have f4 := H3.out.1.xc.2; obtain ⟨d0, d1, dl⟩ := HC.out W3 H3.out.1.b; clear HC; have H6 := hid7 (HT.out W3 H3.out.1.b); clear HT)
      | (go_at_call 130; refine H6.out.mono ?_; clear H6; rintro e W5 ⟨h4', -⟩; obtain ⟨a4, n4, c4, rfl, b5⟩ := h4' h0; clear h4') | fail)
    go_ret2
    exact ⟨none, 0, 0, rfl, fun h => absurd h h0, b5⟩
theorem name_ways : ∀ k : Fin 54, k.1 = 0 ∨ k.1 = 6 ∨ k.1 = 7 ∨ k.1 = 8 ∨ k.1 = 9 ∨ k.1 = 10 ∨ k.1 = 53 ∨ (nameTab.getD k.1 [] ≠ [115, 101, 116] ∧ nameTab.getD k.1 [] ≠ [103, 101, 116] ∧ nameTab.getD k.1 [] ≠ [99, 97, 108, 108] ∧ nameTab.getD k.1 [] ≠ [100, 117, 112] ∧ nameTab.getD k.1 [] ≠ [115, 119, 97, 112] ∧ nameTab.getD k.1 [] ≠ [111, 118, 101, 114]) := by decide +kernel
theorem name_none {n : Int} (h : n ≠ 6 ∧ n ≠ 7 ∧ n ≠ 8 ∧ n ≠ 9 ∧ n ≠ 10 ∧ n ≠ 53) : nameT n ≠ [115, 101, 116] ∧ nameT n ≠ [103, 101, 116] ∧ nameT n ≠ [99, 97, 108, 108] ∧ nameT n ≠ [100, 117, 112] ∧ nameT n ≠ [115, 119, 97, 112] ∧ nameT n ≠ [111, 118, 101, 114] := by
  by_cases hr : n < 1 ∨ 53 < n
  · rw [show nameT n = [] from rowOf_none _ _ n hr]
    decide
  · obtain ⟨k, rfl⟩ : ∃ k : Nat, n = k := ⟨n.toNat, by omega⟩
    rw [show nameT k = nameTab.getD k [] from by unfold nameT rowOf; rw [if_pos (by omega)]; simp]
    have hk : k < 54 := by omega
    have H := name_ways ⟨k, hk⟩
    simp only at H
    rcases H with e | e | e | e | e | e | e | e
    · omega
    · omega
    · omega
    · omega
    · omega
    · omega
    · omega
    · exact e
/-- The document's step of any instruction that may be. -/
theorem rstep7_any {fs : List Fn} {g : Fn} (x : Int × Int) (hx : InsR fs (g.p ++ g.l) x) (p : List Int) (V0 w0 w1 w2 w3 : Value) (fa : Option Addr) (fc : Nat) (la : Option Addr) (pl lc : Nat) (hpl : p.length = pl) (bp : pl ≤ 1000) (hlc : pl ≤ lc) (w : World) (hp : NsAt w.cell? la p) (hf : FsAt w.cell? fa fs) (hg : FnIs w.cell? g w0 w1 w2 w3) (hgf : g.fits) (bsl : (g.p ++ g.l).length ≤ 1000) (bf : fs.length ≤ 1000) (hh : HeadsR fs) :
    Calls Tryz.prog 90 #[.agg #[V0, .slice fa fs.length fc], .agg #[w0, w1, w2, w3], .agg #[.int .i64 x.1, .int .i64 x.2], .slice la pl lc] w (RStepEnd (stepW fs (g.p ++ g.l) x p) w) := by
  obtain ⟨n, A⟩ := x
  simp only
  unfold stepW
  by_cases h6 : n = 6
  · subst h6
    have e1 : takenS fs (g.p ++ g.l) (6, A) = [0] := by simp [takenS]; decide
    rw [e1]
    simpa [givenS] using rstep_dup A p V0 (.slice fa fs.length fc) w0 w1 w2 w3 la pl lc hpl bp hlc w hp
  by_cases h7 : n = 7
  · subst h7
    have e1 : takenS fs (g.p ++ g.l) (7, A) = [0, 0] := by simp [takenS]; decide
    rw [e1]
    have := rstep_swap A p V0 (.slice fa fs.length fc) w0 w1 w2 w3 la pl lc hpl bp hlc w hp
    simpa only [givenS, if_pos, show ((7 : Int) = 6) = False by simp, if_false] using this
  by_cases h8 : n = 8
  · subst h8
    have e1 : takenS fs (g.p ++ g.l) (8, A) = [0, 0] := by simp [takenS]; decide
    rw [e1]
    have := rstep_over A p V0 (.slice fa fs.length fc) w0 w1 w2 w3 la pl lc hpl bp hlc w hp
    simpa only [givenS, if_pos, show ((8 : Int) = 6) = False by simp, show ((8 : Int) = 7) = False by simp, if_false] using this
  by_cases h9 : n = 9
  · subst h9
    obtain ⟨g1, g2⟩ := hx.1 (.inl rfl)
    simp only at g1 g2
    obtain ⟨k, rfl⟩ : ∃ k : Nat, A = k := ⟨A.toNat, by omega⟩
    have e1 : takenS fs (g.p ++ g.l) (9, (k : Int)) = [] := by simp [takenS]; decide
    have e2 : givenS fs (g.p ++ g.l) (9, (k : Int)) (p.drop p.length) = [(g.p ++ g.l).getD k 0] := by simp [givenS]
    rw [e1, show takeS p [] = (0, p.length) by simp [takeS, tkS], if_pos rfl, e2, List.take_length]
    exact rstep_get k g p V0 _ w0 w1 w2 w3 la pl lc hpl bp hlc w hp hg hgf (by omega) bsl
  by_cases h10 : n = 10
  · subst h10
    obtain ⟨g1, g2⟩ := hx.1 (.inr rfl)
    simp only at g1 g2
    obtain ⟨k, rfl⟩ : ∃ k : Nat, A = k := ⟨A.toNat, by omega⟩
    have e1 : takenS fs (g.p ++ g.l) (10, (k : Int)) = [(g.p ++ g.l).getD k 0] := by simp [takenS]
    have e2 : ∀ had, givenS fs (g.p ++ g.l) (10, (k : Int)) had = [] := fun had => by simp [givenS]; decide
    rw [e1, e2]
    exact rstep_set k g p V0 _ w0 w1 w2 w3 la pl lc hpl bp hlc w hp hg hgf (by omega) bsl
  by_cases h53 : n = 53
  · subst h53
    obtain ⟨g1, g2⟩ := hx.2 rfl
    simp only at g1 g2
    obtain ⟨k, rfl⟩ : ∃ k : Nat, A = k := ⟨A.toNat, by omega⟩
    have e1 : takenS fs (g.p ++ g.l) (53, (k : Int)) = (fnAt fs k).p := by simp [takenS]
    have e2 : ∀ had, givenS fs (g.p ++ g.l) (53, (k : Int)) had = (fnAt fs k).r := fun had => by simp [givenS]
    rw [e1, e2]
    obtain ⟨q1, q2⟩ := fnAt_le hh (k : Int)
    exact rstep_call k fs p V0 w0 w1 w2 w3 fa fc la pl lc hpl bp hlc w hp hf (by omega) bf q1 q2
  · have e1 : takenS fs (g.p ++ g.l) (n, A) = inT n := by simp [takenS, h10, h53]
    have e2 : ∀ had, givenS fs (g.p ++ g.l) (n, A) had = outT n := fun had => by simp [givenS, h6, h7, h8, h9, h53]
    rw [e1, e2]
    exact rstep_plain n A p V0 _ w0 w1 w2 w3 la pl lc hpl bp hlc w hp (inT_le n) (outT_le n) (name_none ⟨h6, h7, h8, h9, h10, h53⟩)
end Go.Proofs.YtpmlnkjamhelnaaGreat
