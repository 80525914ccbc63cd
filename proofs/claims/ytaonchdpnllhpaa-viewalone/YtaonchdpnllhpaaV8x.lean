/- Layer 18: a replica that the law made: New, Request, Step, State, Leads at one base. Layer 18: what ViewCommits asks, plainly. -/
import Derived.Test.YtaonchdpnllhpaaV8p
import Derived.Test.YtaonchdpnllhpaaV8w
namespace Go.Proofs.Ytaonchdpnllhpaa
open Go.RowKit
/-- A replica that was made behind w0. -/
structure RB (R : RC) (x : Pt) (mt : List Nat) (la : Option Addr) (ln lc : Nat) (L : List Ent) (w0 W : World) : Prop where
  a : RA R x mt la ln lc L W
  e : w0.heap.size ≤ R.base
  p : w0.heap.size ≤ R.pb
  r : w0.heap.size ≤ R.rb
  b : Below w0.heap.size w0 W
theorem RB.below {R : RC} {x : Pt} {mt : List Nat} {la : Option Addr} {ln lc : Nat} {L : List Ent} {w0 W W' : World} (h : RB R x mt la ln lc L w0 W) (hb : Below W.heap.size W W') : RB R x mt la ln lc L w0 W' :=
  ⟨h.a.below hb, h.e, h.p, h.r, h.b.trans (hb.mono h.b.size)⟩
theorem RB.chg {R : RC} {x y : Pt} {mt mt' : List Nat} {la la' : Option Addr} {ln ln' lc lc' : Nat} {L L' : List Ent} {w0 W W' : World} (h : RB R x mt la ln lc L w0 W) (ha : RA R y mt' la' ln' lc' L' W') (hc : Chg W W' (fun k => k = R.pb ∨ (Value.slice la ln lc).ownBlock = some k ∨ k = R.mb)) : RB R y mt' la' ln' lc' L' w0 W' := by
  refine ⟨ha, h.e, h.p, h.r, h.b.trans (hc.below h.b.size fun k hk => ?_)⟩
  rcases hk with e | e | e
  · rw [e]; exact h.p
  · exact Nat.le_trans h.e (World.ownsRow.lt h.a.l _ e).1
  · rw [e]; exact Nat.le_trans h.e (World.ownsRow.lt h.a.k R.mb rfl).1
/-- Commit behind a request. -/
def rqC (x : Pt) (mt : List Nat) (ln : Nat) : Int := min ((midN x.n (mt.set x.id (ln + 1)) : Nat) : Int) ((ln + 1 : Nat) : Int)
theorem RB.request {R : RC} {x : Pt} {mt : List Nat} {la : Option Addr} {ln lc : Nat} {L : List Ent} {w0 W : World} (h : RB R x mt la ln lc L w0 W) (v : Nat) (s : List UInt8) (hn1 : 1 ≤ x.n) (hn : x.n ≤ 7) (hi : x.id < x.n) (hv : x.vw = v) (hv2 : v ≤ 9223372036854775807) (hld : x.leads v = true) (hs : s.length ≤ 16384) (hln : ln < 2048) : Calls Try.prog 8 #[.pointer (some ⟨R.rb, 0, none⟩), .string ⟨s.toArray⟩] W fun e W' => ∃ la' lc' a ac d dc, e = .returned (.tuple #[.int .i64 ((ln + 1 : Nat) : Int), .agg #[.slice a (0 + 1 + comN x.cm (rqC x mt ln)) ac, .slice d (0 + (othL x.n x.id).length) dc], .int .i64 0]) ∧ RB R (x.rises (rqC x mt ln)) mt la' (ln + 1) lc' (L ++ [⟨x.vw, s⟩]) w0 W' := by
  refine (rrequest_any18 v s W h.a hn1 hn hi hv hv2 hld hs hln).mono ?_
  rintro e W' ⟨la', lc', a, ac, d, dc, a3, c3, rfl, hR⟩
  exact ⟨la', lc', a, ac, d, dc, rfl, h.chg hR.out.1 hR.out.2.1⟩
theorem RB.step {R : RC} {x : Pt} {mt : List Nat} {la : Option Addr} {ln lc : Nat} {L : List Ent} {w0 W : World} (h : RB R x mt la ln lc L w0 W) (v : Nat) (hn1 : 1 ≤ x.n) (hn : x.n ≤ 7) (hi' : x.id < x.n) (hv : x.vw = v) (hv2 : v ≤ 1099511627776) (hld : x.leads v = true) (i op : Nat) (hi : i < x.n) (hin : i ≠ x.id) (hop : op ≤ 1099511627776) : Calls Try.prog 9 #[.pointer (some ⟨R.rb, 0, none⟩), .agg #[.int .i64 2, .int .i64 i, .int .i64 x.id, .int .i64 v, .int .i64 op, .int .i64 0, .int .i64 0, .slice none 0 0]] W fun e W' => ∃ a q ac, e = .returned (.tuple #[.agg #[.slice a q ac, .slice none 0 0], .int .i64 0]) ∧ RB R (x.rises (okC x mt i op ln)) (okM mt i op ln) la ln lc L w0 W' := by
  refine (rstepOk18 v W h.a hn1 hn hi' hv hv2 hld i op hi hin hop).mono ?_
  rintro e W' ⟨a, ac, rfl, hR⟩
  exact ⟨a, _, ac, rfl, h.chg hR.out.1 hR.out.2.1⟩
theorem new_rb18 (n : Nat) (id : Nat) (w : World) (hn4 : n = 1 ∨ n = 3 ∨ n = 5 ∨ n = 7) (hid' : id < n) : Calls Try.prog 5 #[.int .i64 id, .int .i64 n, .agg #[.int .i64 0, .int .i64 0, .int .i64 0, .slice none 0 0]] w fun e w' => ∃ R la lc, e = .returned (.tuple #[.pointer (some ⟨R.rb, 0, none⟩), .int .i64 0]) ∧ RB R ⟨0, 0, 0, false, id, n, true, false, 0⟩ (List.replicate n 0) la 0 lc [] w w' := by
  refine (new_any18 0 0 0 [] none 0 0 id n w hn4 hid' (by omega) (by omega) (by omega) (by omega) (by omega) rfl rfl (.inl rfl)).mono ?_
  rintro e w' ⟨R, la, lc, rfl, h1, h2, h3, h4, h5⟩
  exact ⟨R, la, lc, rfl, h1, Nat.le_of_eq h2.symm, h3, h4, h5⟩
theorem num18_any (n : Int) (w : World) : Calls Try.prog 6 #[.int .i64 n] w fun e w' => e = .returned (.int .i64 n) ∧ w' = w := by
  go_enter Try.func6, Try.ntmps6
  go_wp2
  go_ret
  exact ⟨rfl, rfl⟩
theorem knR18 : rqC ⟨0, 0, 0, false, 0, 3, true, false, 0⟩ (List.replicate 3 0) 0 = 0 := by
  unfold rqC
  have h := mid_bits18 3 1 [true, false, false] rfl (by omega) (by omega)
  rw [if_neg (by decide)] at h
  show min ((midN 3 (bits18 1 [true, false, false]) : Nat) : Int) 1 = 0
  rw [h]
  rfl
theorem knS18 : okC ⟨0, 0, 0, false, 0, 3, true, false, 0⟩ (List.replicate 3 0) 2 1 1 = 1 := by
  unfold okC okM
  have h := mid_bits18 3 1 [true, false, true] rfl (by omega) (by omega)
  rw [if_pos (by decide)] at h
  show min ((midN 3 (bits18 1 [true, false, true]) : Nat) : Int) 1 = 1
  rw [h]
  rfl
theorem kn_request18 {R : RC} {la : Option Addr} {lc : Nat} {w0 W : World} (h : RB R ⟨0, 0, 0, false, 0, 3, true, false, 0⟩ (List.replicate 3 0) la 0 lc [] w0 W) : Calls Try.prog 8 #[.pointer (some ⟨R.rb, 0, none⟩), .string ⟨#[97]⟩] W fun e W' => ∃ la' lc' a ac d dc, e = .returned (.tuple #[.int .i64 1, .agg #[.slice a 1 ac, .slice d 2 dc], .int .i64 0]) ∧ RB R ⟨0, 0, 0, false, 0, 3, true, false, 0⟩ (List.replicate 3 0) la' 1 lc' [⟨0, [97]⟩] w0 W' := by
  refine (h.request 0 [97] (by decide) (by decide) (by decide) rfl (by decide) rfl (by decide) (by decide)).mono ?_
  rintro e W' ⟨la', lc', a, ac, d, dc, rfl, h2⟩
  rw [knR18] at h2 ⊢
  exact ⟨la', lc', a, ac, d, dc, rfl, h2⟩
theorem kn_step18 {R : RC} {la : Option Addr} {lc : Nat} {w0 W : World} (h : RB R ⟨0, 0, 0, false, 0, 3, true, false, 0⟩ (List.replicate 3 0) la 1 lc [⟨0, [97]⟩] w0 W) : Calls Try.prog 9 #[.pointer (some ⟨R.rb, 0, none⟩), .agg #[.int .i64 2, .int .i64 2, .int .i64 0, .int .i64 0, .int .i64 1, .int .i64 0, .int .i64 0, .slice none 0 0]] W fun e W' => ∃ a q ac, e = .returned (.tuple #[.agg #[.slice a q ac, .slice none 0 0], .int .i64 0]) ∧ RB R ⟨0, 0, 1, false, 0, 3, true, false, 0⟩ [0, 0, 1] la 1 lc [⟨0, [97]⟩] w0 W' := by
  refine (h.step 0 (by decide) (by decide) (by decide) rfl (by decide) rfl 2 1 (by decide) (by decide) (by decide)).mono ?_
  rintro e W' ⟨a, q, ac, rfl, h2⟩
  rw [knS18] at h2
  exact ⟨a, q, ac, rfl, h2⟩
theorem field_cm18 (x y z u : Value) (w : World) : (Instr.field 29 (.agg #[x, y, z, u]) 2).run Try.prog w = .ok z w := by
  simp [Instr.field, asAgg, go_sem]
theorem kn_state18 {R : RC} {la : Option Addr} {lc : Nat} {L : List Ent} {w0 W : World} {mt : List Nat} (h : RB R ⟨0, 0, 1, false, 0, 3, true, false, 0⟩ mt la 1 lc L w0 W) : Calls Try.prog 10 #[.pointer (some ⟨R.rb, 0, none⟩)] W fun e w' => ∃ sa sc, e = .returned (.agg #[.int .i64 0, .int .i64 0, .int .i64 1, .slice sa 1 sc]) ∧ Below W.heap.size W w' := by
  refine (state_any18 W h.a (by omega)).mono ?_
  rintro e w' ⟨sa, sc, rfl, -, hb⟩
  exact ⟨sa, sc, rfl, hb⟩
set_option maxRecDepth 100000 in
set_option maxHeartbeats 1000000 in
theorem knows18_any (w : World) : Calls Try.prog 7 #[] w fun e w' => e = .returned (.bool true) ∧ Below w.heap.size w w' := by
  have HN : Hid (∀ W, Below w.heap.size w W → Calls Try.prog 5 #[.int .i64 0, .int .i64 3, .agg #[.int .i64 0, .int .i64 0, .int .i64 0, .slice none 0 0]] W fun e w' => ∃ R la lc, e = .returned (.tuple #[.pointer (some ⟨R.rb, 0, none⟩), .int .i64 0]) ∧ RB R ⟨0, 0, 0, false, 0, 3, true, false, 0⟩ (List.replicate 3 0) la 0 lc [] W w') := hid fun W _ => new_rb18 3 0 W (by omega) (by omega)
  have HU : Hid (∀ W, Calls Try.prog 6 #[.int .i64 0] W fun e w' => e = .returned (.int .i64 0) ∧ w' = W) := hid fun W => num18_any 0 W
  have HPr : Hid (∀ W, Calls Try.prog 19 #[.int .i64 4, .int .i64 3] W fun e w' => e = .returned (.int .i64 1) ∧ w' = W) := hid fun W => primary_any18 4 3 (by omega) (by omega) (by omega) W
  have hf := field_cm18
  go_enter Try.func7, Try.ntmps7
  go_wp2_with (first
    | (go_at_call 5; refine (HN.out _ (Below.refl _ w)).mono ?_; clear HN; rintro e W1 ⟨R, la, lc, rfl, h1⟩; have HR := hid (kn_request18 h1); clear h1)
    | (go_at_call 8; refine HR.out.mono ?_; clear HR; rintro e W2 ⟨la2, lc2, a, ac, d, dc, rfl, h2⟩)
    | fail)
  obtain ⟨W3, hW3⟩ : ∃ W3, W3 = W2.alloc (.cells #[.slice a 1 ac, .slice d 2 dc] 35) := ⟨_, rfl⟩
  have X3 : W3.heap[W2.heap.size]? = some (.cells #[.slice a 1 ac, .slice d 2 dc] 35 (0, 0)) := by rw [hW3]; exact heap_alloc_new _ _
  have h3 := h2.below (W' := W3) (by rw [hW3]; exact (Below.refl _ W2).alloc (Nat.le_refl _) _)
  rw [← hW3]
  have c0 : W3.cell? ⟨W2.heap.size, 0, none⟩ = some (.slice a 1 ac) := by rw [Lib.cell_of_heap X3]; rfl
  have c1 : W3.cell? ⟨W2.heap.size, 1, none⟩ = some (.slice d 2 dc) := by rw [Lib.cell_of_heap X3]; rfl
  have l0 := lt_of_block X3
  have HL : Hid (Calls Try.prog 14 #[.pointer (some ⟨R.rb, 0, none⟩)] W3 fun e w' => e = .returned (.bool true) ∧ ∃ m, w' = W3.drewN m) := hid (rleads_any18 0 W3 h3.a (by decide) (by decide) rfl (by decide))
  have hb2 := h2.b
  clear hW3 h2
  go_wp2_with (first
    | (go_at_call 6; refine (HU.out _).mono ?_; rintro e V ⟨rfl, hV⟩; replace hV := hV.symm; subst hV)
    | (go_at_call 14; refine HL.out.mono ?_; clear HL; rintro e W4 ⟨rfl, n4, hW4⟩; have h4 := h3.below (W' := W4) (by rw [hW4]; exact below_drewN (Below.refl _ _) n4); clear hW4 h3 X3 c0 c1 l0; have HSt := hid (kn_step18 h4); clear h4)
    | (go_at_call 9; refine HSt.out.mono ?_; clear HSt; rintro e W5 ⟨a5, q5, ac5, rfl, h5⟩; have B6 : Below W5.heap.size W5 (W5.alloc (.cells #[.slice a5 q5 ac5, .slice none 0 0] 35)) := (Below.refl _ W5).alloc (Nat.le_refl _) _; have h6 := h5.below B6; have HS := hid (kn_state18 h6); have hb6 := h6.b; clear h5 h6)
    | (go_at_call 10; refine HS.out.mono ?_; clear HS; rintro e W7 ⟨sa, sc, rfl, b7⟩; have B7 := hb6.trans (b7.mono hb6.size); clear b7 hb6 B6)
    | (go_at_call 19; refine (HPr.out _).mono ?_; rintro e V ⟨rfl, hV⟩; replace hV := hV.symm; subst hV)
    | fail)
  go_ret
  exact ⟨rfl, B7⟩
end Go.Proofs.Ytaonchdpnllhpaa
namespace Go.Proofs.Ytaonchdpnllhpaa
open Go.RowKit
def Odd4 (n : Nat) : Prop := n = 1 ∨ n = 3 ∨ n = 5 ∨ n = 7
/-- One that leads View 0, and knows of so many to be committed. -/
def ptL (n : Nat) (cm : Int) : Pt := ⟨0, 0, cm, false, 0, n, true, false, 0⟩
def cm1 (n i : Nat) : Int := if n = 1 then i else 0
theorem mid_first18 (n a : Nat) (h : Odd4 n) (ha : 0 < a) : midN n ((List.replicate n 0).set 0 a) = if n = 1 then a else 0 := by
  have e : (List.replicate n 0).set 0 a = bits18 a ((List.replicate n false).set 0 true) := by
    rw [← bits18_zero a n]
    exact bits18_set a _ 0 true
  rw [e, mid_bits18 n a _ (by simp) (by rcases h with h | h | h | h <;> omega) ha]
  rcases h with rfl | rfl | rfl | rfl
  · rw [if_pos (by decide), if_pos rfl]
  · rw [if_neg (by decide), if_neg (by decide)]
  · rw [if_neg (by decide), if_neg (by decide)]
  · rw [if_neg (by decide), if_neg (by decide)]
theorem req_step18 (n i : Nat) (h : Odd4 n) : (ptL n (cm1 n i)).rises (rqC (ptL n (cm1 n i)) (List.replicate n 0) i) = ptL n (cm1 n (i + 1)) := by
  have e : rqC (ptL n (cm1 n i)) (List.replicate n 0) i = cm1 n (i + 1) := by
    show min ((midN n ((List.replicate n 0).set 0 (i + 1)) : Nat) : Int) ((i + 1 : Nat) : Int) = cm1 n (i + 1)
    rw [mid_first18 n (i + 1) h (by omega)]
    unfold cm1
    split <;> omega
  rw [e]
  unfold Pt.rises ptL cm1
  by_cases h1 : n = 1
  · simp only [h1, if_true]
    congr 1
    rw [if_pos (by omega)]
  · simp only [h1, if_false]
    congr 1
/-- Who told, and what it comes to. -/
def cnt18 (M : List Bool) : Nat := (M.set 0 true).count true
def cm2 (n asks : Nat) (M : List Bool) : Int := if n < 2 * cnt18 M then asks else 0
theorem cnt_set18 (M : List Bool) (i : Nat) (hi : i < M.length) (h0 : 0 < i) (hm : M.getD i true = false) : cnt18 (M.set i true) = cnt18 M + 1 := by
  unfold cnt18
  rw [List.set_comm _ _ (by omega : i ≠ 0), List.count_set (by simpa using hi)]
  have : (M.set 0 true)[i]'(by simpa using hi) = false := by
    rw [List.getElem_set_ne (by omega)]
    rw [List.getD_eq_getElem?_getD, List.getElem?_eq_getElem hi] at hm
    exact hm
  rw [this]
  simp
theorem ok_list18 (asks i : Nat) (M : List Bool) : okM (bits18 asks M) i asks asks = bits18 asks (M.set i true) := by
  unfold okM
  have h : (bits18 asks M).getD i 0 ≤ asks := by
    rw [List.getD_eq_getElem?_getD]
    unfold bits18
    rw [List.getElem?_map]
    cases M[i]? with
    | none => simp
    | some b => cases b <;> simp
  rw [show max ((bits18 asks M).getD i 0) (min asks asks) = asks by omega]
  exact bits18_set asks M i true
theorem ok_step18 (n asks i : Nat) (M : List Bool) (h : Odd4 n) (ha : 0 < asks) (hM : M.length = n) (hi : i < n) (h0 : 0 < i) (hm : M.getD i true = false) : (ptL n (cm2 n asks M)).rises (okC (ptL n (cm2 n asks M)) (bits18 asks M) i asks asks) = ptL n (cm2 n asks (M.set i true)) := by
  have e : okC (ptL n (cm2 n asks M)) (bits18 asks M) i asks asks = cm2 n asks (M.set i true) := by
    unfold okC
    rw [ok_list18]
    show min ((midN n ((bits18 asks (M.set i true)).set 0 asks) : Nat) : Int) (asks : Int) = _
    rw [show (bits18 asks (M.set i true)).set 0 asks = bits18 asks ((M.set i true).set 0 true) from bits18_set asks _ 0 true]
    rw [mid_bits18 n asks _ (by simp [hM]) (by rcases h with h | h | h | h <;> omega) ha]
    unfold cm2 cnt18
    have hh := half_bits18 n ((M.set i true).set 0 true) (by simp [hM]) (by rcases h with h | h | h | h <;> omega)
    by_cases hc : n < 2 * ((M.set i true).set 0 true).count true
    · rw [if_pos (hh.2 hc), if_pos hc]; omega
    · rw [if_neg (fun q => hc (hh.1 q)), if_neg hc]; omega
  rw [e]
  have hc := cnt_set18 M i (by omega) h0 hm
  unfold Pt.rises ptL cm2
  rw [hc]
  congr 1
  by_cases h1 : n < 2 * cnt18 M
  · have h2 : n < 2 * (cnt18 M + 1) := by omega
    simp only [h1, h2, if_true]
    rw [if_neg (by omega)]
  · by_cases h2 : n < 2 * (cnt18 M + 1)
    · simp only [h1, h2, if_true, if_false]
      rw [if_pos (by omega)]
    · simp only [h1, h2, if_false]
      rw [if_neg (by omega)]
theorem cm_first18 (n asks : Nat) (h : Odd4 n) : cm1 n asks = cm2 n asks (List.replicate n false) := by
  unfold cm1 cm2 cnt18
  rcases h with rfl | rfl | rfl | rfl
  · rw [if_pos rfl, if_pos (by decide)]
  · rw [if_neg (by decide), if_neg (by decide)]
  · rw [if_neg (by decide), if_neg (by decide)]
  · rw [if_neg (by decide), if_neg (by decide)]
theorem cnt_first18 (n : Nat) (h : Odd4 n) : cnt18 (List.replicate n false) = 1 := by
  rcases h with rfl | rfl | rfl | rfl <;> decide
/-- Truths that came in. -/
def BoolsAt (W : World) (a : Option Addr) (L : List Bool) : Prop := ∀ j (h : j < L.length), ∃ b off, a = some ⟨b, off, none⟩ ∧ W.cell? ⟨b, off + j, none⟩ = some (.bool L[j]) ∧ b < W.heap.size
end Go.Proofs.Ytaonchdpnllhpaa
