/- The document's step of layer 7: operations that have no way of their own. The document's step of layer 7: dup, swap, over, set, get, call. -/
import Derived.Test.YtnidakplcaanfaaTO
import Derived.Test.YtnidakplcaanfaaCL
import Derived.Test.YtnidakplcaanfaaTJ
import Derived.Deep.RegionWith
import Derived.Deep.RegionHeld3
namespace Go.Proofs.Ytnidakplcaanfaa
open Go.RowKit Go.Shelf
/-- How the document's step ends. -/
def RStepEnd (R : Int × List Int) (w : World) (e : Ending) (w' : World) : Prop :=
  ∃ a n c, e = .returned (.tuple #[.slice a n c, .int .i64 R.1]) ∧ (R.1 = 0 → n = R.2.length ∧ n ≤ c ∧ w'.ownsRow w.heap.size 3 1 (.slice a n c) n (cellsN R.2)) ∧ Below w.heap.size w w'
theorem tkS_le (st : List Int) : ∀ (ts : List Int) (q : Nat), (tkS st ts q).2 ≤ q
  | [], q => by simp [tkS]
  | t :: ts, q => by
    rw [tkS]
    split
    · exact Nat.zero_le _
    split
    · exact Nat.zero_le _
    · exact Nat.le_trans (tkS_le st ts (q - 1)) (by omega)
theorem takeS_le (st ts : List Int) : (takeS st ts).2 ≤ st.length := tkS_le st _ _
/-- The boxes of the three structs that came in. -/
structure Bx7 (V0 V1 w0 w1 w2 w3 : Value) (n A : Int) (w W : World) : Prop where
  b : Below w.heap.size w W
  s : W.heap[w.heap.size]? = some (.cells #[V0, V1] 25 (0, 0))
  f : W.heap[w.heap.size + 1]? = some (.cells #[w0, w1, w2, w3] 50 (0, 0))
  x : W.heap[w.heap.size + 1 + 1]? = some (.cells #[.int .i64 n, .int .i64 A] 53 (0, 0))
theorem Bx7.below {V0 V1 w0 w1 w2 w3 : Value} {n A : Int} {w W W' : World} (h : Bx7 V0 V1 w0 w1 w2 w3 n A w W) (hb : Below W.heap.size W W') : Bx7 V0 V1 w0 w1 w2 w3 n A w W' :=
  ⟨h.b.trans (hb.mono h.b.size), (hb.block _ (blk_lt h.s)).trans h.s, (hb.block _ (blk_lt h.f)).trans h.f, (hb.block _ (blk_lt h.x)).trans h.x⟩
theorem bx7_new (V0 V1 w0 w1 w2 w3 : Value) (n A : Int) (w : World) : Bx7 V0 V1 w0 w1 w2 w3 n A w (((w.alloc (.cells #[V0, V1] 25)).alloc (.cells #[w0, w1, w2, w3] 50)).alloc (.cells #[.int .i64 n, .int .i64 A] 53)) := by
  refine ⟨(((Below.refl _ w).alloc (Nat.le_refl _) _).alloc (by simp) _).alloc (by simp; omega) _, ?_, ?_, ?_⟩
  · rw [Below.heap_alloc _ _ _ (by simp; omega), Below.heap_alloc _ _ _ (by simp)]
    exact heap_alloc_new w _
  · rw [Below.heap_alloc _ _ _ (by simp)]
    have := heap_alloc_new (w.alloc (.cells #[V0, V1] 25)) (.cells #[w0, w1, w2, w3] 50)
    simpa using this
  · have := heap_alloc_new ((w.alloc (.cells #[V0, V1] 25)).alloc (.cells #[w0, w1, w2, w3] 50)) (.cells #[.int .i64 n, .int .i64 A] 53)
    simpa using this
theorem Bx7.xc {V0 V1 w0 w1 w2 w3 : Value} {n A : Int} {w W : World} (h : Bx7 V0 V1 w0 w1 w2 w3 n A w W) : W.cell? ⟨w.heap.size + 1 + 1, 0, none⟩ = some (.int .i64 n) ∧ W.cell? ⟨w.heap.size + 1 + 1, 1, none⟩ = some (.int .i64 A) := by
  rw [Lib.cell_of_heap h.x, Lib.cell_of_heap h.x]
  exact ⟨rfl, rfl⟩
theorem Bx7.fc {V0 V1 w0 w1 w2 w3 : Value} {n A : Int} {w W : World} (h : Bx7 V0 V1 w0 w1 w2 w3 n A w W) : W.cell? ⟨w.heap.size + 1, 0, none⟩ = some w0 ∧ W.cell? ⟨w.heap.size + 1, 1, none⟩ = some w1 ∧ W.cell? ⟨w.heap.size + 1, 2, none⟩ = some w2 ∧ W.cell? ⟨w.heap.size + 1, 3, none⟩ = some w3 := by
  refine ⟨?_, ?_, ?_, ?_⟩ <;> rw [Lib.cell_of_heap h.f] <;> rfl
theorem Bx7.sc {V0 V1 w0 w1 w2 w3 : Value} {n A : Int} {w W : World} (h : Bx7 V0 V1 w0 w1 w2 w3 n A w W) : W.cell? ⟨w.heap.size, 0, none⟩ = some V0 ∧ W.cell? ⟨w.heap.size, 1, none⟩ = some V1 := by
  refine ⟨?_, ?_⟩ <;> rw [Lib.cell_of_heap h.s] <;> rfl
/-- The three calls that step begins with. -/
theorem rhead7 (V0 V1 w0 w1 w2 w3 : Value) (n A : Int) (w : World) :
    Hid (Calls Try.prog 51 #[.int .i64 n] (((w.alloc (.cells #[V0, V1] 25)).alloc (.cells #[w0, w1, w2, w3] 50)).alloc (.cells #[.int .i64 n, .int .i64 A] 53)) fun e W1 => e = .returned (.string ⟨(nameT n).toArray⟩) ∧ W1.cell? ⟨w.heap.size + 1 + 1, 0, none⟩ = some (.int .i64 n) ∧
      Hid (Calls Try.prog 52 #[.int .i64 n] W1 fun e W2 => ∃ ia ic, e = .returned (.slice ia (inT n).length ic) ∧ W2.cell? ⟨w.heap.size + 1 + 1, 0, none⟩ = some (.int .i64 n) ∧
        Hid (Calls Try.prog 53 #[.int .i64 n] W2 fun e W3 => ∃ oa oc, e = .returned (.slice oa (outT n).length oc) ∧
          Hid (Bx7 V0 V1 w0 w1 w2 w3 n A w W3 ∧ NsAt W3.cell? ia (inT n) ∧ NsAt W3.cell? oa (outT n))))) := hid7 ((rname4 n _).mono fun e W1 ⟨h1, h2⟩ => by
  have x1 := (bx7_new V0 V1 w0 w1 w2 w3 n A w).below h2
  refine ⟨h1, x1.xc.1, hid7 ((rin_any7 n W1).mono fun e W2 ⟨ia, ic, h3, h4, h5⟩ => ?_)⟩
  have x2 := x1.below h5
  refine ⟨ia, ic, h3, x2.xc.1, hid7 ((rout_any7 n W2).mono fun e W3 ⟨oa, oc, h6, h7, h8⟩ => ?_)⟩
  exact ⟨oa, oc, h6, hid7 ⟨x2.below h8, h4.keep (below_keep h8), h7⟩⟩)
/-- A take, and an append of what is given. -/
theorem rtail7 {T p : List Int} {la ta : Option Addr} {pl lc tl tc : Nat} {w W : World} (hpl : p.length = pl) (bp : pl ≤ 1000) (hlc : pl ≤ lc) (htl : T.length = tl) (bt : tl ≤ 1000) (hb : Below w.heap.size w W) (hp : NsAt W.cell? la p) (ht : NsAt W.cell? ta T) :
    Calls Try.prog 55 #[.slice la pl lc, .slice ta tl tc] W fun e W' => ((takeS p T).1 ≠ 0 → ∃ a n c, e = .returned (.tuple #[.slice a n c, .int .i64 (takeS p T).1]) ∧ Below w.heap.size w W') ∧ ((takeS p T).1 = 0 → ∃ a c, e = .returned (.tuple #[.slice a (takeS p T).2 c, .int .i64 0]) ∧ Hid (W'.ownsRow w.heap.size 3 1 (.slice a (takeS p T).2 c) (takeS p T).2 (cellsN (p.take (takeS p T).2)) ∧ Below w.heap.size w W' ∧ Below W.heap.size W W')) := by
  refine (rtake_any la ta lc tc pl tl p T hpl htl (by omega) (by omega) hlc W hp ht).mono fun e W' ⟨a, c, n, h1, h2, h3⟩ => ⟨fun _ => ⟨a, n, c, h1, hb.trans (h3.mono hb.size)⟩, fun h0 => ?_⟩
  obtain ⟨rfl, _, h5⟩ := h2 h0
  exact ⟨a, c, by rw [h1, h0], hid7 ⟨row_lower h5 hb.size, hb.trans (h3.mono hb.size), h3⟩⟩
theorem rstep_end {p O : List Int} {w W : World} {e : Ending} {a : Option Addr} {n c : Nat} (hl : n ≤ p.length) (hr : W.ownsRow w.heap.size 3 1 (.slice a (n + O.length) c) (n + O.length) (cellsN (p.take n) ++ cellsN O)) (hb : Below w.heap.size w W) (he : e = .returned (.tuple #[.slice a (n + O.length) c, .int .i64 0])) : RStepEnd (0, p.take n ++ O) w e W := by
  have h1 : (p.take n ++ O).length = n + O.length := by rw [List.length_append, List.length_take]; omega
  obtain ⟨_, _, e1, hc, _, _⟩ := row_form hr
  cases e1
  refine ⟨a, n + O.length, c, he, fun _ => ⟨h1.symm, hc, ?_⟩, hb⟩
  rw [cellsN_append]
  exact hr
set_option maxRecDepth 100000 in
set_option maxHeartbeats 2000000 in
/-- An operation that has no way of its own. -/
theorem rstep_plain (n A : Int) (p : List Int) (V0 V1 w0 w1 w2 w3 : Value) (la : Option Addr) (pl lc : Nat) (hpl : p.length = pl) (bp : pl ≤ 1000) (hlc : pl ≤ lc) (w : World) (hp : NsAt w.cell? la p) (bi : (inT n).length ≤ 10) (bo : (outT n).length ≤ 10)
    (hn : nameT n ≠ [115, 101, 116] ∧ nameT n ≠ [103, 101, 116] ∧ nameT n ≠ [99, 97, 108, 108] ∧ nameT n ≠ [100, 117, 112] ∧ nameT n ≠ [115, 119, 97, 112] ∧ nameT n ≠ [111, 118, 101, 114]) :
    Calls Try.prog 27 #[.agg #[V0, V1], .agg #[w0, w1, w2, w3], .agg #[.int .i64 n, .int .i64 A], .slice la pl lc] w (RStepEnd (if (takeS p (inT n)).1 = 0 then (0, p.take (takeS p (inT n)).2 ++ outT n) else ((takeS p (inT n)).1, p)) w) := by
  have HH := rhead7 V0 V1 w0 w1 w2 w3 n A w
  have HT : Hid (∀ W ia ic, Bx7 V0 V1 w0 w1 w2 w3 n A w W → NsAt W.cell? ia (inT n) → _) := hid7 fun W ia ic (hx : Bx7 V0 V1 w0 w1 w2 w3 n A w W) hi => rtail7 (tc := ic) hpl bp hlc rfl (by omega) hx.b (hp.keep (below_keep hx.b)) hi
  have htl := takeS_le p (inT n)
  rw [hpl] at htl
  generalize hTT : takeS p (inT n) = TT at HT htl ⊢
  obtain ⟨er, k⟩ := TT
  simp only at HT htl ⊢
  generalize nameT n = r at HH hn
  obtain ⟨h1, h2, h3, h4, h5, h6⟩ := hn
  rw [← beq_eq_false_iff_ne] at h1 h2 h3 h4 h5 h6
  by_cases h0 : er = 0
  · subst h0
    rw [if_pos rfl]
    have HE := hid7 fun W e a c => rstep_end (p := p) (O := outT n) (w := w) (W := W) (e := e) (a := a) (n := k) (c := c) (by omega)
    have HO : Hid (∀ W oa oc, NsAt W.cell? oa (outT n) → Lies W (.slice oa (outT n).length oc) (outT n).length (cellsN (outT n))) := hid7 fun W oa oc h => h.lies oc
    have hcl : (cellsN (outT n)).length = (outT n).length * 1 := cellsN_len _
    have hc1 := hid7 (cellsN_one (outT n))
    clear hTT hp
    generalize inT n = T at *
    generalize outT n = O at *
    generalize T.length = tl at *
    generalize O.length = ol at *
    go_enter Try.func27, Try.ntmps27
    go_wp2_with (first
      | (go_at_call 51; refine HH.out.mono ?_; clear HH; rintro e W1 ⟨rfl, x1, H1⟩)
      | (go_at_call 52; refine H1.out.mono ?_; clear H1; rintro e W2 ⟨ia, ic, rfl, x2, H2⟩)
      | (go_at_call 53; refine H2.out.mono ?_; clear H2; rintro e W3 ⟨oa, oc, rfl, H3⟩; have H4 := hid7 (HT.out W3 ia ic H3.out.1 H3.out.2.1); clear HT)
      | (go_at_call 55; refine H4.out.mono ?_; clear H4; rintro e W4 ⟨-, h4'⟩; obtain ⟨a4, c4, rfl, H5⟩ := h4' (by simp); clear h4'; have hL := HO.out W4 oa oc (H3.out.2.2.keep (below_keep H5.out.2.2)); have hs4 := H5.out.2.1.size; clear HO)
      | (at_builtin; refine wpList_appN _ rfl _ _ 35 rfl elemN_int w.heap.size _ k (cellsN (p.take k)) rfl H5.out.1 _ rfl ol (cellsN O) hL hcl hc1.out (by unfold maxLen; omega) (by omega) hs4 ?_; intro v' W5 hr5 st5; obtain ⟨va, vc, y5, _⟩ := row_form hr5; subst y5; have K5 := hid7 (And.intro hr5 st5); clear hr5 st5)
      | fail)
    go_ret2
    exact HE.out _ _ _ _ K5.out.1 (H5.out.2.1.trans (K5.out.2.below hs4 fun g e => (H5.out.1.lt g e).1)) rfl
  · rw [if_neg h0]
    have hne : (er != 0) = true := by simpa using h0
    clear hTT hp
    generalize inT n = T at *
    generalize outT n = O at *
    generalize T.length = tl at *
    generalize O.length = ol at *
    go_enter Try.func27, Try.ntmps27
    go_wp2_with (first
      | (go_at_call 51; refine HH.out.mono ?_; clear HH; rintro e W1 ⟨rfl, x1, H1⟩)
      | (go_at_call 52; refine H1.out.mono ?_; clear H1; rintro e W2 ⟨ia, ic, rfl, x2, H2⟩)
      | (go_at_call 53; refine H2.out.mono ?_; clear H2; rintro e W3 ⟨oa, oc, rfl, H3⟩; have H4 := hid7 (HT.out W3 ia ic H3.out.1 H3.out.2.1); clear HT)
      | (go_at_call 55; refine H4.out.mono ?_; clear H4; rintro e W4 ⟨h4', -⟩; obtain ⟨a4, n4, c4, rfl, b5⟩ := h4' h0; clear h4')
      | fail)
    go_ret2
    exact ⟨none, 0, 0, rfl, fun h => absurd h h0, b5⟩
end Go.Proofs.Ytnidakplcaanfaa
namespace Go.Proofs.Ytnidakplcaanfaa
open Go.RowKit Go.Shelf
theorem Bx7.drew1 {V0 V1 w0 w1 w2 w3 : Value} {n A : Int} {w W : World} (h : Bx7 V0 V1 w0 w1 w2 w3 n A w W) : Bx7 V0 V1 w0 w1 w2 w3 n A w W.drew := h.below (Below.refl _ W).drew
/-- Slots, and the cell that is asked for. -/
theorem rslot7 {V0 V1 w0 w1 w2 w3 : Value} {n : Int} {k : Nat} {g : Fn} {w : World} (hg : FnIs w.cell? g w0 w1 w2 w3) (hgf : g.fits) (hk : k < (g.p ++ g.l).length) (bsl : (g.p ++ g.l).length ≤ 1000) :
    ∀ W, Bx7 V0 V1 w0 w1 w2 w3 n (k : Int) w W → Calls Try.prog 54 #[.agg #[w0, w1, w2, w3]] W fun e W' => ∃ sb sc, e = .returned (.slice (some ⟨sb, 0, none⟩) (g.p ++ g.l).length sc) ∧ W'.cell? ⟨sb, k, none⟩ = some (.int .i64 ((g.p ++ g.l).getD k 0)) ∧ sb < W'.heap.size ∧ W'.cell? ⟨w.heap.size + 1 + 1, 1, none⟩ = some (.int .i64 k) ∧ w.heap.size + 1 + 1 < W'.heap.size ∧ Hid (Bx7 V0 V1 w0 w1 w2 w3 n (k : Int) w W' ∧ Below W.heap.size W W') := fun W hx => by
  have hk' := hk
  rw [List.length_append] at hk' bsl
  refine (rslots_any g w0 w1 w2 w3 W (hg.keep (below_keep hx.b)) hgf (by omega)).mono fun e W' ⟨⟨v, h1, h2⟩, h3⟩ => ?_
  obtain ⟨a, c, rfl, hc, _, q⟩ := row_form h2
  rcases q with ⟨_, h0, _⟩ | ⟨sb, rfl, _, hl, hcell⟩
  · omega
  have x := hx.below h3
  refine ⟨sb, c, h1, hcell k _ ?_, hl, x.xc.2, blk_lt x.x, hid7 ⟨x, h3⟩⟩
  rw [cellsN, List.getElem?_map, List.getElem?_eq_getElem hk, List.getD_eq_getElem?_getD, List.getElem?_eq_getElem hk]
  rfl
theorem take_one {p : List Int} {k : Nat} (h : takeS p [0] = (0, k)) : p.length = k + 1 := by
  unfold takeS at h
  simp only [List.reverse_cons, List.reverse_nil, List.nil_append, tkS] at h
  split at h
  · cases h
  · simp only [ne_eq, not_true_eq_false, false_and, if_false, Prod.mk.injEq, true_and] at h
    omega
theorem take_two {p : List Int} {k : Nat} (h : takeS p [0, 0] = (0, k)) : p.length = k + 2 := by
  unfold takeS at h
  simp only [List.reverse_cons, List.reverse_nil, List.nil_append, List.cons_append, tkS] at h
  split at h
  · cases h
  · simp only [ne_eq, not_true_eq_false, false_and, if_false] at h
    split at h
    · cases h
    · simp only [Prod.mk.injEq, true_and] at h
      omega
theorem drop_one {p : List Int} {k : Nat} (h : p.length = k + 1) : p.drop k = [p.getD k 0] := by
  rw [List.drop_eq_getElem_cons (by omega), List.drop_eq_nil_of_le (by omega), List.getD_eq_getElem?_getD, List.getElem?_eq_getElem (by omega)]
  rfl
theorem drop_two {p : List Int} {k : Nat} (h : p.length = k + 2) : p.drop k = [p.getD k 0, p.getD (k + 1) 0] := by
  rw [List.drop_eq_getElem_cons (by omega), drop_one (k := k + 1) (by omega), List.getD_eq_getElem?_getD, List.getD_eq_getElem?_getD, List.getElem?_eq_getElem (by omega), List.getElem?_eq_getElem (by omega)]
  rfl
theorem row_new {V : World} (xs : List Int) (n : Nat) : Lies (V.alloc (.cells (cellsN xs).toArray 3)) (.slice (some ⟨V.heap.size, 0, none⟩) n n) n (cellsN xs) := by
  refine .inr ⟨_, n, rfl, fun j u hu => ?_⟩
  rw [Addr.add_lit, Nat.zero_add, Lib.cell_of_heap (heap_alloc_new V _)]
  simpa using hu
set_option maxRecDepth 100000 in
set_option maxHeartbeats 2000000 in
theorem rstep_dup (A : Int) (p : List Int) (V0 V1 w0 w1 w2 w3 : Value) (la : Option Addr) (pl lc : Nat) (hpl : p.length = pl) (bp : pl ≤ 1000) (hlc : pl ≤ lc) (w : World) (hp : NsAt w.cell? la p) :
    Calls Try.prog 27 #[.agg #[V0, V1], .agg #[w0, w1, w2, w3], .agg #[.int .i64 6, .int .i64 A], .slice la pl lc] w (RStepEnd (if (takeS p [0]).1 = 0 then (0, p.take (takeS p [0]).2 ++ (p.drop (takeS p [0]).2 ++ p.drop (takeS p [0]).2)) else ((takeS p [0]).1, p)) w) := by
  have HH := rhead7 V0 V1 w0 w1 w2 w3 6 A w
  rw [show nameT 6 = [100, 117, 112] by decide, show inT 6 = [0] by decide, show outT 6 = [0, 0] by decide] at HH
  simp only [List.length_cons, List.length_nil, Nat.zero_add] at HH
  have HT : Hid (∀ W ta tc tl, tl = ([0]).length → Bx7 V0 V1 w0 w1 w2 w3 6 A w W → NsAt W.cell? ta [0] → _) := hid7 fun W ta tc tl htl (hx : Bx7 V0 V1 w0 w1 w2 w3 6 A w W) hi => rtail7 (tl := tl) (tc := tc) hpl bp hlc htl.symm (by simp_all) hx.b (hp.keep (below_keep hx.b)) hi
  have htl := takeS_le p [0]
  rw [hpl] at htl
  generalize hTT : takeS p [0] = TT at HT htl ⊢
  obtain ⟨er, k0⟩ := TT
  simp only at HT htl ⊢
  by_cases h0 : er = 0
  · subst h0
    rw [if_pos rfl]
    have hq := take_one hTT
    have hplk : pl = k0 + 1 := by omega
    subst hplk
    obtain ⟨lb, lo, rfl⟩ := ns_some hp (by omega)
    have c0 := ns_at hp k0 (by omega)
    have hO := drop_one hq
    generalize p.getD k0 0 = t0 at *
    have hG : (p.drop k0 ++ p.drop k0) = [t0, t0] := by rw [hO]; rfl
    rw [hG]
    have HE := hid7 fun W e a c => rstep_end (p := p) (O := [t0, t0]) (w := w) (W := W) (e := e) (a := a) (n := k0) (c := c) (by omega)
    have HC : Hid (∀ W, Below w.heap.size w W → W.cell? ⟨lb, lo + k0, none⟩ = some (.int .i64 t0) ∧ lb < W.heap.size) := hid7 fun W hb => ⟨below_keep hb _ _ c0, Nat.lt_of_lt_of_le (World.block_lt_of_cell? w _ c0) hb.size⟩
    have HO : Hid (∀ V : World, Lies (V.alloc (.cells #[.int .i64 t0, .int .i64 t0] 3)).drew (.slice (some ⟨V.heap.size, 0, none⟩) 2 2) 2 [.int .i64 t0, .int .i64 t0]) := hid7 fun V => (row_new [t0, t0] 2).keep (below_keep (Below.refl _ _).drew)
    have HW : Hid (∀ W4 V a4 c4, Below w.heap.size w W4 → W4.ownsRow w.heap.size 3 1 (.slice a4 k0 c4) k0 (cellsN (p.take k0)) → Below W4.heap.size W4 V → V.ownsRow w.heap.size 3 1 (.slice a4 k0 c4) k0 (cellsN (p.take k0)) ∧ w.heap.size ≤ V.heap.size ∧ Below w.heap.size w V) := hid7 fun W4 V a4 c4 h1 h2 h3 => ⟨row_below2 h2 h3, Nat.le_trans h1.size h3.size, h1.trans (h3.mono h1.size)⟩
    clear hTT hp c0 hO hG hq
    go_enter Try.func27, Try.ntmps27
    go_wp2_with (first
      | (go_at_call 51; refine HH.out.mono ?_; clear HH; rintro e W1 ⟨rfl, x1, H1⟩)
      | (go_at_call 52; refine H1.out.mono ?_; clear H1; rintro e W2 ⟨ia, ic, rfl, x2, H2⟩)
      | (go_at_call 53; refine H2.out.mono ?_; clear H2; rintro e W3 ⟨oa, oc, rfl, H3⟩; have H4 := hid7 (HT.out W3 ia ic _ rfl H3.out.1 H3.out.2.1); clear HT)
      | (go_at_call 55; refine H4.out.mono ?_; clear H4; rintro e W4 ⟨-, h4'⟩; obtain ⟨a4, c4, rfl, H5⟩ := h4' (by simp); clear h4'; obtain ⟨d0, dl⟩ := HC.out W4 H5.out.2.1; clear HC)
      | fail)
    have g1 : IntKind.i64.wrap (k0 : Int) = k0 := by rw [IntKind.wrap_i64]; omega
    have g2 : (0 : Int) ≤ k0 := by omega
    have g3 : (k0 : Int) < (k0 : Int) + 1 := by omega
    go_region_held3 (fun W => W.cell? ⟨lb, lo + k0, none⟩ = some (.int .i64 t0)) (first | exact d0 | go_keep) (fail)
    obtain ⟨o4, s4, b4⟩ := HW.out W4 (W4.alloc (.cells #[.int .i64 t0, .int .i64 t0] 3)).drew a4 c4 H5.out.2.1 H5.out.1 (((Below.refl _ W4).alloc (Nat.le_refl _) _).drew)
    have hL := HO.out W4
    have O4 := hid7 o4
    have B4 := hid7 b4
    clear o4 b4 HO HW
    go_wp2_with (at_builtin; refine wpList_appN _ rfl _ _ 35 rfl elemN_int w.heap.size _ k0 (cellsN (p.take k0)) rfl O4.out _ rfl 2 [.int .i64 t0, .int .i64 t0] hL rfl (by simp [Value.oneCell']) (by unfold maxLen; omega) (by omega) s4 ?_; intro v' W5 hr5 st5; obtain ⟨va, vc, y5, _⟩ := row_form hr5; subst y5; have K5 := hid7 (And.intro hr5 st5); clear hr5 st5)
    go_ret2
    exact HE.out _ _ _ _ K5.out.1 (B4.out.trans (K5.out.2.below s4 fun g e => (O4.out.lt g e).1)) rfl
  · rw [if_neg h0]
    have hne : (er != 0) = true := by simpa using h0
    clear hTT hp
    go_enter Try.func27, Try.ntmps27
    go_wp2_with (first
      | (go_at_call 51; refine HH.out.mono ?_; clear HH; rintro e W1 ⟨rfl, x1, H1⟩)
      | (go_at_call 52; refine H1.out.mono ?_; clear H1; rintro e W2 ⟨ia, ic, rfl, x2, H2⟩)
      | (go_at_call 53; refine H2.out.mono ?_; clear H2; rintro e W3 ⟨oa, oc, rfl, H3⟩; have H4 := hid7 (HT.out W3 ia ic _ rfl H3.out.1 H3.out.2.1); clear HT)
      | (go_at_call 55; refine H4.out.mono ?_; clear H4; rintro e W4 ⟨h4', -⟩; obtain ⟨a4, n4, c4, rfl, b5⟩ := h4' h0; clear h4')
      | fail)
    go_ret2
    exact ⟨none, 0, 0, rfl, fun h => absurd h h0, b5⟩
set_option maxRecDepth 100000 in
set_option maxHeartbeats 2000000 in
theorem rstep_swap (A : Int) (p : List Int) (V0 V1 w0 w1 w2 w3 : Value) (la : Option Addr) (pl lc : Nat) (hpl : p.length = pl) (bp : pl ≤ 1000) (hlc : pl ≤ lc) (w : World) (hp : NsAt w.cell? la p) :
    Calls Try.prog 27 #[.agg #[V0, V1], .agg #[w0, w1, w2, w3], .agg #[.int .i64 7, .int .i64 A], .slice la pl lc] w (RStepEnd (if (takeS p [0, 0]).1 = 0 then (0, p.take (takeS p [0, 0]).2 ++ ((p.drop (takeS p [0, 0]).2).drop 1 ++ [(p.drop (takeS p [0, 0]).2).getD 0 0])) else ((takeS p [0, 0]).1, p)) w) := by
  have HH := rhead7 V0 V1 w0 w1 w2 w3 7 A w
  rw [show nameT 7 = [115, 119, 97, 112] by decide, show inT 7 = [0, 0] by decide, show outT 7 = [0, 0] by decide] at HH
  simp only [List.length_cons, List.length_nil, Nat.zero_add] at HH
  have HT : Hid (∀ W ta tc tl, tl = ([0, 0]).length → Bx7 V0 V1 w0 w1 w2 w3 7 A w W → NsAt W.cell? ta [0, 0] → _) := hid7 fun W ta tc tl htl (hx : Bx7 V0 V1 w0 w1 w2 w3 7 A w W) hi => rtail7 (tl := tl) (tc := tc) hpl bp hlc htl.symm (by simp_all) hx.b (hp.keep (below_keep hx.b)) hi
  have htl := takeS_le p [0, 0]
  rw [hpl] at htl
  generalize hTT : takeS p [0, 0] = TT at HT htl ⊢
  obtain ⟨er, k0⟩ := TT
  simp only at HT htl ⊢
  by_cases h0 : er = 0
  · subst h0
    rw [if_pos rfl]
    have hq := take_two hTT
    have hplk : pl = k0 + 2 := by omega
    subst hplk
    obtain ⟨lb, lo, rfl⟩ := ns_some hp (by omega)
    have c0 := ns_at hp k0 (by omega)
    have c1 := ns_at hp (k0 + 1) (by omega)
    have hO := drop_two hq
    generalize p.getD k0 0 = t0 at *
    generalize p.getD (k0 + 1) 0 = t1 at *
    have hG : ((p.drop k0).drop 1 ++ [(p.drop k0).getD 0 0]) = [t1, t0] := by rw [hO]; rfl
    rw [hG]
    have HE := hid7 fun W e a c => rstep_end (p := p) (O := [t1, t0]) (w := w) (W := W) (e := e) (a := a) (n := k0) (c := c) (by omega)
    have HC : Hid (∀ W, Below w.heap.size w W → W.cell? ⟨lb, lo + k0, none⟩ = some (.int .i64 t0) ∧ W.cell? ⟨lb, lo + (k0 + 1), none⟩ = some (.int .i64 t1) ∧ lb < W.heap.size) := hid7 fun W hb => ⟨below_keep hb _ _ c0, below_keep hb _ _ c1, Nat.lt_of_lt_of_le (World.block_lt_of_cell? w _ c0) hb.size⟩
    have HO : Hid (∀ V : World, Lies (V.alloc (.cells #[.int .i64 t1, .int .i64 t0] 3)).drew (.slice (some ⟨V.heap.size, 0, none⟩) 2 2) 2 [.int .i64 t1, .int .i64 t0]) := hid7 fun V => (row_new [t1, t0] 2).keep (below_keep (Below.refl _ _).drew)
    have HW : Hid (∀ W4 V a4 c4, Below w.heap.size w W4 → W4.ownsRow w.heap.size 3 1 (.slice a4 k0 c4) k0 (cellsN (p.take k0)) → Below W4.heap.size W4 V → V.ownsRow w.heap.size 3 1 (.slice a4 k0 c4) k0 (cellsN (p.take k0)) ∧ w.heap.size ≤ V.heap.size ∧ Below w.heap.size w V) := hid7 fun W4 V a4 c4 h1 h2 h3 => ⟨row_below2 h2 h3, Nat.le_trans h1.size h3.size, h1.trans (h3.mono h1.size)⟩
    clear hTT hp c0 hO hG hq c1
    go_enter Try.func27, Try.ntmps27
    go_wp2_with (first
      | (go_at_call 51; refine HH.out.mono ?_; clear HH; rintro e W1 ⟨rfl, x1, H1⟩)
      | (go_at_call 52; refine H1.out.mono ?_; clear H1; rintro e W2 ⟨ia, ic, rfl, x2, H2⟩)
      | (go_at_call 53; refine H2.out.mono ?_; clear H2; rintro e W3 ⟨oa, oc, rfl, H3⟩; have H4 := hid7 (HT.out W3 ia ic _ rfl H3.out.1 H3.out.2.1); clear HT)
      | (go_at_call 55; refine H4.out.mono ?_; clear H4; rintro e W4 ⟨-, h4'⟩; obtain ⟨a4, c4, rfl, H5⟩ := h4' (by simp); clear h4'; obtain ⟨d0, d1, dl⟩ := HC.out W4 H5.out.2.1; clear HC)
      | fail)
    have g1 : IntKind.i64.wrap (k0 : Int) = k0 := by rw [IntKind.wrap_i64]; omega
    have g2 : (0 : Int) ≤ k0 := by omega
    have g3 : (k0 : Int) < (k0 : Int) + 2 := by omega
    have g4 : (k0 : Int) + 1 < (k0 : Int) + 2 := by omega
    have g5 : (0 : Int) ≤ (k0 : Int) + 1 := by omega
    have g6 : IntKind.i64.wrap ((k0 : Int) + 2 - 1) = (k0 : Int) + 1 := by rw [IntKind.wrap_i64]; omega
    have g7 : IntKind.i64.wrap ((k0 : Int) + 1) = (k0 : Int) + 1 := by rw [IntKind.wrap_i64]; omega
    go_region_held3 (fun W => W.cell? ⟨lb, lo + k0, none⟩ = some (.int .i64 t0) ∧ W.cell? ⟨lb, lo + (k0 + 1), none⟩ = some (.int .i64 t1)) (first | exact ⟨d0, d1⟩ | go_keep) (fail)
    obtain ⟨o4, s4, b4⟩ := HW.out W4 (W4.alloc (.cells #[.int .i64 t1, .int .i64 t0] 3)).drew a4 c4 H5.out.2.1 H5.out.1 (((Below.refl _ W4).alloc (Nat.le_refl _) _).drew)
    have hL := HO.out W4
    have O4 := hid7 o4
    have B4 := hid7 b4
    clear o4 b4 HO HW
    go_wp2_with (at_builtin; refine wpList_appN _ rfl _ _ 35 rfl elemN_int w.heap.size _ k0 (cellsN (p.take k0)) rfl O4.out _ rfl 2 [.int .i64 t1, .int .i64 t0] hL rfl (by simp [Value.oneCell']) (by unfold maxLen; omega) (by omega) s4 ?_; intro v' W5 hr5 st5; obtain ⟨va, vc, y5, _⟩ := row_form hr5; subst y5; have K5 := hid7 (And.intro hr5 st5); clear hr5 st5)
    go_ret2
    exact HE.out _ _ _ _ K5.out.1 (B4.out.trans (K5.out.2.below s4 fun g e => (O4.out.lt g e).1)) rfl
  · rw [if_neg h0]
    have hne : (er != 0) = true := by simpa using h0
    clear hTT hp
    go_enter Try.func27, Try.ntmps27
    go_wp2_with (first
      | (go_at_call 51; refine HH.out.mono ?_; clear HH; rintro e W1 ⟨rfl, x1, H1⟩)
      | (go_at_call 52; refine H1.out.mono ?_; clear H1; rintro e W2 ⟨ia, ic, rfl, x2, H2⟩)
      | (go_at_call 53; refine H2.out.mono ?_; clear H2; rintro e W3 ⟨oa, oc, rfl, H3⟩; have H4 := hid7 (HT.out W3 ia ic _ rfl H3.out.1 H3.out.2.1); clear HT)
      | (go_at_call 55; refine H4.out.mono ?_; clear H4; rintro e W4 ⟨h4', -⟩; obtain ⟨a4, n4, c4, rfl, b5⟩ := h4' h0; clear h4')
      | fail)
    go_ret2
    exact ⟨none, 0, 0, rfl, fun h => absurd h h0, b5⟩
set_option maxRecDepth 100000 in
set_option maxHeartbeats 2000000 in
theorem rstep_over (A : Int) (p : List Int) (V0 V1 w0 w1 w2 w3 : Value) (la : Option Addr) (pl lc : Nat) (hpl : p.length = pl) (bp : pl ≤ 1000) (hlc : pl ≤ lc) (w : World) (hp : NsAt w.cell? la p) :
    Calls Try.prog 27 #[.agg #[V0, V1], .agg #[w0, w1, w2, w3], .agg #[.int .i64 8, .int .i64 A], .slice la pl lc] w (RStepEnd (if (takeS p [0, 0]).1 = 0 then (0, p.take (takeS p [0, 0]).2 ++ (p.drop (takeS p [0, 0]).2 ++ [(p.drop (takeS p [0, 0]).2).getD 0 0])) else ((takeS p [0, 0]).1, p)) w) := by
  have HH := rhead7 V0 V1 w0 w1 w2 w3 8 A w
  rw [show nameT 8 = [111, 118, 101, 114] by decide, show inT 8 = [0, 0] by decide, show outT 8 = [0, 0, 0] by decide] at HH
  simp only [List.length_cons, List.length_nil, Nat.zero_add] at HH
  have HT : Hid (∀ W ta tc tl, tl = ([0, 0]).length → Bx7 V0 V1 w0 w1 w2 w3 8 A w W → NsAt W.cell? ta [0, 0] → _) := hid7 fun W ta tc tl htl (hx : Bx7 V0 V1 w0 w1 w2 w3 8 A w W) hi => rtail7 (tl := tl) (tc := tc) hpl bp hlc htl.symm (by simp_all) hx.b (hp.keep (below_keep hx.b)) hi
  have htl := takeS_le p [0, 0]
  rw [hpl] at htl
  generalize hTT : takeS p [0, 0] = TT at HT htl ⊢
  obtain ⟨er, k0⟩ := TT
  simp only at HT htl ⊢
  by_cases h0 : er = 0
  · subst h0
    rw [if_pos rfl]
    have hq := take_two hTT
    have hplk : pl = k0 + 2 := by omega
    subst hplk
    obtain ⟨lb, lo, rfl⟩ := ns_some hp (by omega)
    have c0 := ns_at hp k0 (by omega)
    have c1 := ns_at hp (k0 + 1) (by omega)
    have hO := drop_two hq
    generalize p.getD k0 0 = t0 at *
    generalize p.getD (k0 + 1) 0 = t1 at *
    have hG : (p.drop k0 ++ [(p.drop k0).getD 0 0]) = [t0, t1, t0] := by rw [hO]; rfl
    rw [hG]
    have HE := hid7 fun W e a c => rstep_end (p := p) (O := [t0, t1, t0]) (w := w) (W := W) (e := e) (a := a) (n := k0) (c := c) (by omega)
    have HC : Hid (∀ W, Below w.heap.size w W → W.cell? ⟨lb, lo + k0, none⟩ = some (.int .i64 t0) ∧ W.cell? ⟨lb, lo + (k0 + 1), none⟩ = some (.int .i64 t1) ∧ lb < W.heap.size) := hid7 fun W hb => ⟨below_keep hb _ _ c0, below_keep hb _ _ c1, Nat.lt_of_lt_of_le (World.block_lt_of_cell? w _ c0) hb.size⟩
    have HO : Hid (∀ V : World, Lies (V.alloc (.cells #[.int .i64 t0, .int .i64 t1, .int .i64 t0] 3)).drew (.slice (some ⟨V.heap.size, 0, none⟩) 3 3) 3 [.int .i64 t0, .int .i64 t1, .int .i64 t0]) := hid7 fun V => (row_new [t0, t1, t0] 3).keep (below_keep (Below.refl _ _).drew)
    have HW : Hid (∀ W4 V a4 c4, Below w.heap.size w W4 → W4.ownsRow w.heap.size 3 1 (.slice a4 k0 c4) k0 (cellsN (p.take k0)) → Below W4.heap.size W4 V → V.ownsRow w.heap.size 3 1 (.slice a4 k0 c4) k0 (cellsN (p.take k0)) ∧ w.heap.size ≤ V.heap.size ∧ Below w.heap.size w V) := hid7 fun W4 V a4 c4 h1 h2 h3 => ⟨row_below2 h2 h3, Nat.le_trans h1.size h3.size, h1.trans (h3.mono h1.size)⟩
    clear hTT hp c0 hO hG hq c1
    go_enter Try.func27, Try.ntmps27
    go_wp2_with (first
      | (go_at_call 51; refine HH.out.mono ?_; clear HH; rintro e W1 ⟨rfl, x1, H1⟩)
      | (go_at_call 52; refine H1.out.mono ?_; clear H1; rintro e W2 ⟨ia, ic, rfl, x2, H2⟩)
      | (go_at_call 53; refine H2.out.mono ?_; clear H2; rintro e W3 ⟨oa, oc, rfl, H3⟩; have H4 := hid7 (HT.out W3 ia ic _ rfl H3.out.1 H3.out.2.1); clear HT)
      | (go_at_call 55; refine H4.out.mono ?_; clear H4; rintro e W4 ⟨-, h4'⟩; obtain ⟨a4, c4, rfl, H5⟩ := h4' (by simp); clear h4'; obtain ⟨d0, d1, dl⟩ := HC.out W4 H5.out.2.1; clear HC)
      | fail)
    have g1 : IntKind.i64.wrap (k0 : Int) = k0 := by rw [IntKind.wrap_i64]; omega
    have g2 : (0 : Int) ≤ k0 := by omega
    have g3 : (k0 : Int) < (k0 : Int) + 2 := by omega
    have g4 : (k0 : Int) + 1 < (k0 : Int) + 2 := by omega
    have g5 : (0 : Int) ≤ (k0 : Int) + 1 := by omega
    have g6 : IntKind.i64.wrap ((k0 : Int) + 2 - 1) = (k0 : Int) + 1 := by rw [IntKind.wrap_i64]; omega
    have g7 : IntKind.i64.wrap ((k0 : Int) + 1) = (k0 : Int) + 1 := by rw [IntKind.wrap_i64]; omega
    go_region_held3 (fun W => W.cell? ⟨lb, lo + k0, none⟩ = some (.int .i64 t0) ∧ W.cell? ⟨lb, lo + (k0 + 1), none⟩ = some (.int .i64 t1)) (first | exact ⟨d0, d1⟩ | go_keep) (fail)
    obtain ⟨o4, s4, b4⟩ := HW.out W4 (W4.alloc (.cells #[.int .i64 t0, .int .i64 t1, .int .i64 t0] 3)).drew a4 c4 H5.out.2.1 H5.out.1 (((Below.refl _ W4).alloc (Nat.le_refl _) _).drew)
    have hL := HO.out W4
    have O4 := hid7 o4
    have B4 := hid7 b4
    clear o4 b4 HO HW
    go_wp2_with (at_builtin; refine wpList_appN _ rfl _ _ 35 rfl elemN_int w.heap.size _ k0 (cellsN (p.take k0)) rfl O4.out _ rfl 3 [.int .i64 t0, .int .i64 t1, .int .i64 t0] hL rfl (by simp [Value.oneCell']) (by unfold maxLen; omega) (by omega) s4 ?_; intro v' W5 hr5 st5; obtain ⟨va, vc, y5, _⟩ := row_form hr5; subst y5; have K5 := hid7 (And.intro hr5 st5); clear hr5 st5)
    go_ret2
    exact HE.out _ _ _ _ K5.out.1 (B4.out.trans (K5.out.2.below s4 fun g e => (O4.out.lt g e).1)) rfl
  · rw [if_neg h0]
    have hne : (er != 0) = true := by simpa using h0
    clear hTT hp
    go_enter Try.func27, Try.ntmps27
    go_wp2_with (first
      | (go_at_call 51; refine HH.out.mono ?_; clear HH; rintro e W1 ⟨rfl, x1, H1⟩)
      | (go_at_call 52; refine H1.out.mono ?_; clear H1; rintro e W2 ⟨ia, ic, rfl, x2, H2⟩)
      | (go_at_call 53; refine H2.out.mono ?_; clear H2; rintro e W3 ⟨oa, oc, rfl, H3⟩; have H4 := hid7 (HT.out W3 ia ic _ rfl H3.out.1 H3.out.2.1); clear HT)
      | (go_at_call 55; refine H4.out.mono ?_; clear H4; rintro e W4 ⟨h4', -⟩; obtain ⟨a4, n4, c4, rfl, b5⟩ := h4' h0; clear h4')
      | fail)
    go_ret2
    exact ⟨none, 0, 0, rfl, fun h => absurd h h0, b5⟩
end Go.Proofs.Ytnidakplcaanfaa
