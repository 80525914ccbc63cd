/- TypesWays: plain facts: the stack behind each instruction is that ahead of the next one, on each way. TypesWays: the ways. The law's behind (TypesWays). The law's behind, of any instruction that was passed (TypesWays). -/
import Derived.Test.YtnidakplcaanfaaTS
import Derived.Test.YtnidakplcaanfaaST
import Derived.Test.YtnidakplcaanfaaSX
import Derived.Test.YtnidakplcaanfaaUA
import Derived.Test.YtnidakplcaanfaaTP
import Derived.Test.YtnidakplcaanfaaTL
import Derived.Test.YtnidakplcaanfaaSC
import Derived.Deep.RegionHeld3
import Derived.Deep.RegionLaw
namespace Go.Proofs.Ytnidakplcaanfaa
/-- The stacks and the open blocks, place by place. -/
structure Runs (fs : List Fn) (sl : List Int) (cs : List (Int × Int)) (ps : Nat → List Int) (Ls : Nat → List OB) : Prop where
  ok : ∀ k (h : k < cs.length), (passW fs sl cs[k] (ps k) (Ls k)).1 = 0
  p : ∀ k (h : k < cs.length), (passW fs sl cs[k] (ps k) (Ls k)).2 = (ps (k + 1), Ls (k + 1))
theorem chk_run {fs : List Fn} {sl res : List Int} : ∀ (cs : List (Int × Int)) (p : List Int) (L : List OB) (R : List (List Int)), (chkFrom fs sl res cs p L R).1 = 0 → ∃ ps Ls, ps 0 = p ∧ Ls 0 = L ∧ Runs fs sl cs ps Ls ∧ alikeS (ps cs.length) res = 0 ∧ (chkFrom fs sl res cs p L R).2 = R ++ (List.range (cs.length + 1)).map ps
  | [], p, L, R, h => by
    rw [chkFrom] at h ⊢
    split at h
    · rename_i g
      rw [if_pos g]
      exact ⟨fun _ => p, fun _ => L, rfl, rfl, ⟨fun k h => (by cases h), fun k h => (by cases h)⟩, g, by simp⟩
    · rename_i g
      exact absurd h g
  | x :: r, p, L, R, h => by
    rw [chkFrom] at h ⊢
    split at h
    · rename_i g
      rw [if_pos g]
      obtain ⟨ps, Ls, h0, h1, h2, h3, h4⟩ := chk_run r _ _ _ h
      refine ⟨fun k => if k = 0 then p else ps (k - 1), fun k => if k = 0 then L else Ls (k - 1), rfl, rfl, ⟨fun k hk => ?_, fun k hk => ?_⟩, by simpa using h3, ?_⟩
      · cases k with
        | zero => simpa using g
        | succ k => simpa using h2.ok k (by simpa using hk)
      · cases k with
        | zero => simp [h0, h1]
        | succ k => simpa using h2.p k (by simpa using hk)
      · rw [h4, List.length_cons, List.range_succ_eq_map (n := r.length + 1)]
        simp [Function.comp_def]
    · rename_i g
      exact absurd h g
def qS (fs : List Fn) (sl : List Int) (cs : List (Int × Int)) (ps : Nat → List Int) (k : Nat) : List Int := (stepW fs sl (cs.getD k (0, 0)) (ps k)).2
theorem Runs.turn {fs : List Fn} {sl : List Int} {cs : List (Int × Int)} {ps : Nat → List Int} {Ls : Nat → List OB} (h : Runs fs sl cs ps Ls) {k : Nat} (hk : k < cs.length) : (stepW fs sl (cs.getD k (0, 0)) (ps k)).1 = 0 ∧ (turnW (opA cs k) (qS fs sl cs ps k) (Ls k)).1 = 0 ∧ (turnW (opA cs k) (qS fs sl cs ps k) (Ls k)).2 = (ps (k + 1), Ls (k + 1)) ∧ (ps (k + 1)).length ≤ 32 := by
  have h1 := h.ok k hk
  have h2 := h.p k hk
  have e : cs.getD k (0, 0) = cs[k] := by rw [List.getD_eq_getElem?_getD, List.getElem?_eq_getElem hk]; rfl
  have eo : opA cs k = cs[k].1 := ops_at hk
  rw [qS, e, eo]
  unfold passW at h1 h2
  split at h1
  · rename_i g; exact absurd h1 g
  rename_i g1
  rw [if_neg g1] at h2
  split at h1
  · rename_i g; exact absurd h1 g
  rename_i g2
  rw [if_neg g2] at h2
  split at h1
  · simp at h1
  rename_i g3
  rw [if_neg g3] at h2
  refine ⟨Decidable.byContradiction g1, Decidable.byContradiction g2, h2, ?_⟩
  rw [h2] at g3
  exact Nat.le_of_not_lt g3
theorem alike_eq {a b : List Int} (h : alikeS a b = 0) : a = b := by
  unfold alikeS at h
  split at h
  · split at h
    · assumption
    · cases h
  · cases h
/-- The open blocks of types, held against those of shape. -/
def WIo (fs : List Fn) (sl : List Int) (cs : List (Int × Int)) (ps : Nat → List Int) (b : OB) (c : Blk) : Prop :=
  b.lo = c.l ∧ (∃ s : Nat, c.s = s ∧ b.en = ps (s + 1)) ∧ (c.o = -1 → b.la = b.en) ∧ ∀ o : Nat, c.o = o → b.la = qS fs sl cs ps o ∧ ps (o + 1) = b.en
/-- Two lists, member by member. -/
def F2 {α β : Type} (R : α → β → Prop) : List α → List β → Prop
  | [], [] => True
  | a :: L, b :: M => R a b ∧ F2 R L M
  | _, _ => False
def WI (fs : List Fn) (sl : List Int) (cs : List (Int × Int)) (ps : Nat → List Int) (Ls : Nat → List OB) (k : Nat) : Prop := F2 (WIo fs sl cs ps) (Ls k) (stk (opA cs) k)
theorem f2_snoc {α β : Type} {R : α → β → Prop} : ∀ {L : List α} {M : List β} {a : α} {b : β}, F2 R L M → R a b → F2 R (L ++ [a]) (M ++ [b])
  | [], [], _, _, _, h1 => ⟨h1, trivial⟩
  | [], _ :: _, _, _, h, _ => h.elim
  | _ :: _, [], _, _, h, _ => h.elim
  | _ :: _, _ :: _, _, _, h, h1 => ⟨h.1, f2_snoc h.2 h1⟩
theorem f2_cut {α β : Type} {R : α → β → Prop} : ∀ {L : List α} {M : List β} {b : β}, F2 R L (M ++ [b]) → ∃ L' a, L = L' ++ [a] ∧ R a b ∧ F2 R L' M
  | [], [], _, h => h.elim
  | [], _ :: _, _, h => h.elim
  | [a], [], _, h => ⟨[], a, rfl, h.1, trivial⟩
  | _ :: _ :: _, [], _, h => h.2.elim
  | a :: L, m :: M, b, h => by
    obtain ⟨L', a', e, q1, q2⟩ := f2_cut (L := L) (M := M) (b := b) h.2
    exact ⟨a :: L', a', by rw [e]; rfl, q1, h.1, q2⟩
theorem f2_get {α β : Type} {R : α → β → Prop} : ∀ {L : List α} {M : List β}, F2 R L M → ∀ (i : Nat) (b : β), M[i]? = some b → ∃ a, L[i]? = some a ∧ R a b
  | [], [], _, i, b, hb => by cases hb
  | [], _ :: _, h, _, _, _ => h.elim
  | _ :: _, [], h, _, _, _ => h.elim
  | a :: L, m :: M, h, i, b, hb => by
    cases i with
    | zero => simp at hb; subst hb; exact ⟨_, rfl, h.1⟩
    | succ i => exact f2_get (L := L) (M := M) h.2 i b (by simpa using hb)
theorem f2_goes {fs : List Fn} {sl : List Int} {cs : List (Int × Int)} {ps : Nat → List Int} : ∀ {L : List OB} {M : List Blk}, F2 (WIo fs sl cs ps) L M → Goes L M
  | [], [], _ => rfl
  | [], _ :: _, h => h.elim
  | _ :: _, [], h => h.elim
  | a :: L, m :: M, h => by
    have ih := f2_goes (L := L) (M := M) h.2
    unfold Goes at ih ⊢
    rw [List.map_cons, List.map_cons, ih, h.1.1]
theorem wi_next {fs : List Fn} {sl : List Int} {cs : List (Int × Int)} {ps : Nat → List Int} {Ls : Nat → List OB} (h : Runs fs sl cs ps Ls) {k : Nat} (hk : k < cs.length) (hs : standS (opA cs k) (stk (opA cs) k) = true) (hw : WI fs sl cs ps Ls k) : WI fs sl cs ps Ls (k + 1) := by
  obtain ⟨_, t1, t2, _⟩ := h.turn hk
  unfold WI at hw ⊢
  rw [stk]
  unfold turnW at t1 t2
  unfold stepS
  by_cases h1 : opA cs k = 48 ∨ opA cs k = 51
  · rw [if_pos h1] at t2
    rw [if_pos h1]
    have e1 : qS fs sl cs ps k = ps (k + 1) := (Prod.mk.inj t2).1
    rw [← (Prod.mk.inj t2).2]
    refine f2_snoc hw ⟨rfl, ⟨k, rfl, e1⟩, fun _ => rfl, fun o ho => ?_⟩
    have ho : (-1 : Int) = o := ho
    omega
  rw [if_neg h1] at t1 t2
  rw [if_neg h1]
  by_cases h2 : opA cs k = 49
  · rw [if_pos h2] at t1 t2
    rw [if_pos h2]
    rcases List.eq_nil_or_concat (stk (opA cs) k) with e0 | ⟨M, c, e0⟩
    · rw [standS, if_neg h1, if_pos h2, e0] at hs; cases hs
    rw [List.concat_eq_append] at e0
    rw [e0] at hw hs ⊢
    obtain ⟨L', b, e2, hb, hw'⟩ := f2_cut hw
    rw [e2] at t2
    simp only [List.getLast?_append, List.getLast?_singleton, Option.some_or, List.dropLast_concat] at t2 ⊢
    rw [← (Prod.mk.inj t2).2]
    have e3 : b.en = ps (k + 1) := (Prod.mk.inj t2).1
    refine f2_snoc hw' ⟨hb.1, hb.2.1, fun ho => ?_, fun o ho => ?_⟩
    · have ho : (k : Int) = -1 := ho
      omega
    · have ho : (k : Int) = o := ho
      obtain rfl : k = o := by omega
      exact ⟨rfl, e3.symm⟩
  rw [if_neg h2] at t1 t2
  rw [if_neg h2]
  by_cases h3 : opA cs k = 50
  · rw [if_pos h3] at t1 t2
    rw [if_pos h3]
    rcases List.eq_nil_or_concat (stk (opA cs) k) with e0 | ⟨M, c, e0⟩
    · rw [standS, if_neg h1, if_neg h2, if_pos h3, e0] at hs; cases hs
    rw [List.concat_eq_append] at e0
    rw [e0] at hw ⊢
    obtain ⟨L', b, e2, hb, hw'⟩ := f2_cut hw
    rw [e2] at t2
    simp only [List.getLast?_append, List.getLast?_singleton, Option.some_or, List.dropLast_concat] at t2 ⊢
    rw [← (Prod.mk.inj t2).2]
    exact hw'
  rw [if_neg h3] at t1 t2
  rw [if_neg h3]
  by_cases h4 : opA cs k = 52
  · rw [if_pos h4] at t2
    cases hm : (lpIx (Ls k)).bind (fun i => (Ls k)[i]?) with
    | none => rw [hm] at t2; rw [← (Prod.mk.inj t2).2]; exact hw
    | some b => rw [hm] at t2; rw [← (Prod.mk.inj t2).2]; exact hw
  · rw [if_neg h4] at t2
    rw [← (Prod.mk.inj t2).2]
    exact hw
theorem wi_all {fs : List Fn} {sl : List Int} {cs : List (Int × Int)} {ps : Nat → List Int} {Ls : Nat → List OB} (h : Runs fs sl cs ps Ls) (h0 : Ls 0 = []) (hst : ∀ j, j < cs.length → standS (opA cs j) (stk (opA cs) j) = true) : ∀ k, k ≤ cs.length → WI fs sl cs ps Ls k
  | 0, _ => by unfold WI; rw [h0]; exact trivial
  | k + 1, hk => wi_next h hk (hst k hk) (wi_all h h0 hst k (by omega))
/-- The block that is closed at e. -/
theorem closed_top {op : Nat → Int} {n s e : Nat} {o : Int} (N : Nest op n) (hC : Closed op n s o e) (he : e < n) : ∃ (A : List Blk) (c : Blk), stk op e = A ++ [c] ∧ c.s = (s : Int) ∧ c.o = o ∧ c.l = decide (op s = 51) := by
  obtain ⟨A, c, h1, h2⟩ := hC.top
  obtain ⟨i, p1, _, _, p4, _, _, p7⟩ := (N.ci e (by omega)).blk A c [] (by rw [h1])
  obtain rfl : i = s := by omega
  refine ⟨A, c, h1, h2, ?_, p4⟩
  have h3 := hC.at'
  rw [p7, List.length_nil, closeS_succ he] at h3
  have e50 := hC.end'
  rw [if_neg (by omega), if_neg (by omega), if_pos e50, if_pos rfl] at h3
  exact (Prod.mk.inj h3).1
end Go.Proofs.Ytnidakplcaanfaa
namespace Go.Proofs.Ytnidakplcaanfaa
section
variable {fs : List Fn} {sl : List Int} {cs : List (Int × Int)} {ps : Nat → List Int} {Ls : Nat → List OB}
theorem step_on (h : Runs fs sl cs ps Ls) {k : Nat} (hk : k < cs.length) (h49 : opA cs k ≠ 49) : ps (k + 1) = qS fs sl cs ps k := by
  obtain ⟨_, _, t2, _⟩ := h.turn hk
  unfold turnW at t2
  by_cases h1 : opA cs k = 48 ∨ opA cs k = 51
  · rw [if_pos h1] at t2; exact (Prod.mk.inj t2).1.symm
  rw [if_neg h1, if_neg h49] at t2
  by_cases h3 : opA cs k = 50
  · rw [if_pos h3] at t2
    cases hl : (Ls k).getLast? with
    | none => rw [hl] at t2; exact (Prod.mk.inj t2).1.symm
    | some b => rw [hl] at t2; exact (Prod.mk.inj t2).1.symm
  rw [if_neg h3] at t2
  by_cases h4 : opA cs k = 52
  · rw [if_pos h4] at t2
    cases hm : (lpIx (Ls k)).bind (fun i => (Ls k)[i]?) with
    | none => rw [hm] at t2; exact (Prod.mk.inj t2).1.symm
    | some b => rw [hm] at t2; exact (Prod.mk.inj t2).1.symm
  · rw [if_neg h4] at t2; exact (Prod.mk.inj t2).1.symm
theorem end_on (hg : goodS cs = true) (h : Runs fs sl cs ps Ls) (h0 : Ls 0 = []) {s e : Nat} {o : Int} (hC : Closed (opA cs) cs.length s o e) (he : e < cs.length) : (o = -1 → ps (e + 1) = ps (s + 1)) ∧ ∀ x : Nat, o = x → ps (e + 1) = qS fs sl cs ps x ∧ ps (x + 1) = ps (s + 1) := by
  have N := good_nest hg
  have hst := ((good_iff cs).1 hg).1
  obtain ⟨A, c, e1, e2, e3, _⟩ := closed_top N hC he
  have hw := wi_all h h0 hst e (by omega)
  unfold WI at hw
  rw [e1] at hw
  obtain ⟨L', b, e4, ⟨_, ⟨s', e5, e6⟩, k1, k2⟩, _⟩ := f2_cut hw
  obtain rfl : s' = s := by omega
  obtain ⟨_, t1, _, _⟩ := h.turn he
  have e50 := hC.end'
  unfold turnW at t1
  rw [if_neg (by omega), if_neg (by omega), if_pos e50, e4] at t1
  simp only [List.getLast?_append, List.getLast?_singleton, Option.some_or] at t1
  have q1 := alike_eq t1
  have q2 := step_on h he (by omega)
  refine ⟨fun ho => ?_, fun x hx => ?_⟩
  · rw [q2, q1, k1 (by omega), e6]
  · obtain ⟨r1, r2⟩ := k2 x (by omega)
    exact ⟨by rw [q2, q1, r1], by rw [r2, e6]⟩
theorem next_is (hk : ∀ j, j < cs.length → -1 ≤ gI (matchS cs) j ∧ gI (matchS cs) j < cs.length) {k : Nat} (hkl : k < cs.length) (yes : Bool) : nextS cs (matchS cs) k yes = if asksS (opA cs k) yes = true then (if 0 ≤ gI (matchS cs) k then gI (matchS cs) k + 1 else -1) else (k : Int) + 1 := by
  have hl := matchS_len cs
  have := hk k hkl
  unfold nextS
  rw [if_pos (by omega), Int.toNat_natCast]
  show (if asksS (opA cs k) yes = true then (if 0 ≤ gI (matchS cs) k ∧ gI (matchS cs) k < cs.length then gI (matchS cs) k + 1 else -1) else (k : Int) + 1) = _
  split
  · split
    · rw [if_pos (by omega)]
    · rw [if_neg (by omega)]
  · rfl
/-- **The stage's theorem, plainly.** -/
theorem ways_plain (hg : goodS cs = true) (h : Runs fs sl cs ps Ls) (h0 : Ls 0 = []) {i : Nat} (hi : i < cs.length) (yes : Bool) (hr : opA cs i = 50 → yes = true → opA cs (gI (matchS cs) i).toNat = 51) : ∃ j : Nat, nextS cs (matchS cs) i yes = j ∧ j ≤ cs.length ∧ ps j = qS fs sl cs ps i := by
  have N := good_nest hg
  have hst := ((good_iff cs).1 hg).1
  have G := match_gm hg
  have hG : ∀ j, (fun j => (matchS cs).getD j 0) j = gI (matchS cs) j := fun j => rfl
  rw [next_is (fun j hj => pair_rng hg hj) hi]
  by_cases ha : asksS (opA cs i) yes = true
  · rw [if_pos ha]
    unfold asksS at ha
    by_cases h48 : opA cs i = 48
    · obtain ⟨o, e, he, hC⟩ := N.opn hi (.inl h48)
      have m1 := (G.fit _ _ _ hC trivial he).2.1
      simp only [hG] at m1
      obtain ⟨k1, k2⟩ := end_on hg h h0 hC he
      have q := step_on h hi (by omega)
      by_cases ho : o = -1
      · rw [if_pos ho] at m1
        rw [m1, if_pos (by omega)]
        exact ⟨e + 1, by omega, by omega, by rw [k1 ho, q]⟩
      · rw [if_neg ho] at m1
        rcases hC.els with h1 | ⟨x, hx, hx1, hx2, _⟩
        · exact absurd h1 ho
        · rw [m1, hx, if_pos (by omega)]
          exact ⟨x + 1, by omega, by omega, by rw [(k2 x hx).2, q]⟩
    rw [if_neg h48] at ha
    by_cases h49 : opA cs i = 49
    · obtain ⟨s, e, he, hC⟩ := N.els hi h49
      have m1 := (G.fit _ _ _ hC trivial he).2.2 i rfl
      simp only [hG] at m1
      rw [m1, if_pos (by omega)]
      exact ⟨e + 1, by omega, by omega, ((end_on hg h h0 hC he).2 i rfl).1⟩
    rw [if_neg h49] at ha
    by_cases h50 : opA cs i = 50
    · rw [if_pos (.inl h50)] at ha
      obtain ⟨s, o, hC⟩ := N.ends hi h50
      have m1 := (G.fit _ _ _ hC trivial hi).1
      simp only [hG] at m1
      have h51 := hr h50 ha
      rw [m1] at h51 ⊢
      rw [Int.toNat_natCast] at h51
      rw [if_pos (by omega)]
      have ho : o = -1 := by
        rcases hC.els with h1 | ⟨x, _, _, _, _, _, h2⟩
        · exact h1
        · omega
      exact ⟨s + 1, by omega, by have := hC.lt; omega, by rw [← step_on h hi (by omega)]; exact ((end_on hg h h0 hC hi).1 ho).symm⟩
    · by_cases h52 : opA cs i = 52
      · obtain ⟨s, hs1, hs2, hs3, hs4⟩ := G.lev i hi h52
        simp only [hG] at hs4
        obtain ⟨o, e, he, hC⟩ := N.opn (show s < cs.length by omega) (.inr hs3)
        have m1 := (G.fit _ _ _ hC trivial he).2.1
        simp only [hG] at m1
        have ho : o = -1 := by
          rcases hC.els with h1 | ⟨x, _, _, _, _, _, h2⟩
          · exact h1
          · omega
        rw [if_pos ho] at m1
        rw [hs4, m1, if_pos (by omega)]
        refine ⟨e + 1, by omega, by omega, ?_⟩
        rw [(end_on hg h h0 hC he).1 ho]
        -- the leave's own
        have hw := wi_all h h0 hst i (by omega)
        unfold WI at hw
        have hgo := f2_goes hw
        obtain ⟨_, t1, _, _⟩ := h.turn hi
        unfold turnW at t1
        rw [if_neg (by omega), if_neg h49, if_neg h50, if_pos h52, hgo.lp] at t1
        have hsm : (firstIx (stk (opA cs) i) Blk.l (stk (opA cs) i).length).isSome = true := by
          have := hst i hi
          rw [standS, if_neg (by omega), if_neg h49, if_neg h50, if_pos h52] at this
          exact this
        obtain ⟨ix, hix⟩ := Option.isSome_iff_exists.1 hsm
        obtain ⟨_, c, hc, _⟩ := firstIx_lt hix
        obtain ⟨b, hb, ⟨_, ⟨s', e5, e6⟩, _, _⟩⟩ := f2_get hw ix c hc
        rw [hix] at t1
        simp only [Option.bind_some, hb] at t1
        have e7 : lvS (stk (opA cs) i) = c.s := by rw [lvS, hix]; simp [hc]
        obtain rfl : s' = s := by omega
        rw [alike_eq t1, e6]
      · rw [if_neg (by omega)] at ha
        cases ha
  · rw [if_neg ha]
    refine ⟨i + 1, by omega, by omega, step_on h hi fun h49 => ha ?_⟩
    unfold asksS
    rw [if_neg (by omega), if_pos h49]
end
end Go.Proofs.Ytnidakplcaanfaa
namespace Go.Proofs.Ytnidakplcaanfaa
open Go.RowKit Go.Shelf
/-- How behind ends: a row of its own. -/
def BhEnd (Q : List Int) (w : World) (e : Ending) (w' : World) : Prop := ∃ a c, e = .returned (.slice a Q.length c) ∧ Q.length ≤ c ∧ w'.ownsRow w.heap.size 3 1 (.slice a Q.length c) Q.length (cellsN Q) ∧ Below w.heap.size w w'
theorem bh_end {p O : List Int} {w W : World} {e : Ending} {a : Option Addr} {n c : Nat} (hl : n ≤ p.length) (hr : W.ownsRow w.heap.size 3 1 (.slice a (n + O.length) c) (n + O.length) (cellsN (p.take n) ++ cellsN O)) (hb : Below w.heap.size w W) (he : e = .returned (.slice a (n + O.length) c)) : BhEnd (p.take n ++ O) w e W := by
  have h1 : (p.take n ++ O).length = n + O.length := by rw [List.length_append, List.length_take]; omega
  obtain ⟨_, _, e1, hc, _, _⟩ := row_form hr
  cases e1
  unfold BhEnd
  rw [h1, cellsN_append]
  exact ⟨a, c, he, hc, hr, hb⟩
theorem tk_lenB (st : List Int) : ∀ (ts : List Int) (q k : Nat), tkS st ts q = (0, k) → k + ts.length = q
  | [], q, k, h => by simp [tkS] at h; simp; omega
  | t :: ts, q, k, h => by
    rw [tkS] at h
    split at h
    · cases h
    split at h
    · cases h
    · have := tk_lenB st ts (q - 1) k h
      simp only [List.length_cons]
      omega
theorem take_is {st ts : List Int} {k : Nat} (h : takeS st ts = (0, k)) : k + ts.length = st.length := by
  have := tk_lenB st ts.reverse st.length k h
  simpa using this
/-- In and Out. -/
theorem bhead7 (V0 V1 w0 w1 w2 w3 : Value) (n A : Int) (w : World) :
    Hid (Calls Try.prog 41 #[.int .i64 n] (((w.alloc (.cells #[V0, V1] 25)).alloc (.cells #[w0, w1, w2, w3] 50)).alloc (.cells #[.int .i64 n, .int .i64 A] 53)) fun e W1 => ∃ ia ic, e = .returned (.slice ia (inT n).length ic) ∧ W1.cell? ⟨w.heap.size + 1 + 1, 0, none⟩ = some (.int .i64 n) ∧
      Hid (Calls Try.prog 42 #[.int .i64 n] W1 fun e W2 => ∃ oa oc, e = .returned (.slice oa (outT n).length oc) ∧ (W2.cell? ⟨w.heap.size + 1 + 1, 0, none⟩ = some (.int .i64 n) ∧ W2.cell? ⟨w.heap.size + 1 + 1, 1, none⟩ = some (.int .i64 A) ∧ W2.cell? ⟨w.heap.size, 1, none⟩ = some V1) ∧
        Hid (Bx7 V0 V1 w0 w1 w2 w3 n A w W2 ∧ NsAt W2.cell? oa (outT n)))) := hid7 ((opT_row n _ (inT n) _ (in_any n _)).mono fun e W1 ⟨ia, ic, h1, h2, h3⟩ => by
  have x1 := (bx7_new V0 V1 w0 w1 w2 w3 n A w).below h3
  refine ⟨ia, ic, h1, x1.xc.1, hid7 ((opT_row n _ (outT n) _ (out_any n _)).mono fun e W2 ⟨oa, oc, h4, h5, h6⟩ => ?_)⟩
  have x2 := x1.below h6
  exact ⟨oa, oc, h4, ⟨x2.xc.1, x2.xc.2, x2.sc.2⟩, hid7 ⟨x2, h5⟩⟩)
/-- The copy of what is left. -/
theorem left_copy {V0 V1 w0 w1 w2 w3 : Value} {n A : Int} {p : List Int} {la : Option Addr} {k lc : Nat} {w : World} (hk : k ≤ p.length) (hp : NsAt w.cell? la p) :
    ∀ W, Bx7 V0 V1 w0 w1 w2 w3 n A w W → (W.alloc (.cells #[] 3)).ownsRow w.heap.size 3 1 (.slice (some ⟨W.heap.size, 0, none⟩) 0 0) 0 [] ∧ Lies (W.alloc (.cells #[] 3)) (.slice la k lc) k (cellsN (p.take k)) ∧ w.heap.size ≤ (W.alloc (.cells #[] 3)).heap.size ∧
      ∀ v' W', W'.ownsRow w.heap.size 3 1 v' (0 + k) ([] ++ cellsN (p.take k)) → Step (W.alloc (.cells #[] 3)) (.slice (some ⟨W.heap.size, 0, none⟩) 0 0) W' v' → ∃ va vc, v' = .slice va k vc ∧ (W'.cell? ⟨w.heap.size + 1 + 1, 0, none⟩ = some (.int .i64 n) ∧ W'.cell? ⟨w.heap.size + 1 + 1, 1, none⟩ = some (.int .i64 A) ∧ W'.cell? ⟨w.heap.size + 1, 0, none⟩ = some w0 ∧ W'.cell? ⟨w.heap.size + 1, 1, none⟩ = some w1 ∧ W'.cell? ⟨w.heap.size + 1, 2, none⟩ = some w2 ∧ W'.cell? ⟨w.heap.size + 1, 3, none⟩ = some w3) ∧ w.heap.size ≤ W'.heap.size ∧ Hid (Bx7 V0 V1 w0 w1 w2 w3 n A w W' ∧ W'.ownsRow w.heap.size 3 1 (.slice va k vc) k (cellsN (p.take k)) ∧ Below W.heap.size W W' ∧ Below w.heap.size w W') := fun W hx => by
  have b1 := (Below.refl _ W).alloc (Nat.le_refl _) (.cells #[] 3)
  have bw := hx.b.trans (b1.mono hx.b.size)
  have hl := (ns_take7 (hp.keep (below_keep bw)) k).lies lc
  rw [List.length_take, Nat.min_eq_left hk] at hl
  refine ⟨row_lit0 W _ _ _ hx.b.size, hl, bw.size, fun v' W' hr hs => ?_⟩
  rw [Nat.zero_add, List.nil_append] at hr
  obtain ⟨va, vc, rfl, _⟩ := row_form hr
  have b2 : Below W.heap.size W W' := b1.trans (hs.below (B := W.heap.size) (by simp) (fun g e => by cases e; exact Nat.le_refl _))
  have x2 := hx.below b2
  exact ⟨va, vc, rfl, ⟨x2.xc.1, x2.xc.2, x2.fc.1, x2.fc.2.1, x2.fc.2.2.1, x2.fc.2.2.2⟩, x2.b.size, hid7 ⟨x2, hr, b2, x2.b⟩⟩
set_option maxRecDepth 100000 in
set_option maxHeartbeats 2000000 in
theorem bh_plain (n A : Int) (p : List Int) (V0 V1 w0 w1 w2 w3 : Value) (la : Option Addr) (k0 lc : Nat) (hpl : p.length = k0 + (inT n).length) (bp : p.length ≤ 1000) (hlc : p.length ≤ lc) (w : World) (hp : NsAt w.cell? la p) (bi : (inT n).length ≤ 10) (bo : (outT n).length ≤ 10) (h9 : n ≠ 9) (h6 : n ≠ 6) (h7 : n ≠ 7) (h8 : n ≠ 8) (h53 : n ≠ 53) :
    Calls Try.prog 22 #[.agg #[V0, V1], .agg #[w0, w1, w2, w3], .agg #[.int .i64 n, .int .i64 A], .slice la (k0 + (inT n).length) lc] w (BhEnd (p.take k0 ++ outT n) w) := by
  have HH := bhead7 V0 V1 w0 w1 w2 w3 n A w
  have HL := hid7 (left_copy (V0 := V0) (V1 := V1) (w0 := w0) (w1 := w1) (w2 := w2) (w3 := w3) (n := n) (A := A) (k := k0) (lc := lc) (by omega) hp)
  have HE := hid7 fun W e a c => bh_end (p := p) (O := outT n) (w := w) (W := W) (e := e) (a := a) (n := k0) (c := c) (by omega)
  have HO : Hid (∀ (W : World) oa oc, NsAt W.cell? oa (outT n) → Lies W (.slice oa (outT n).length oc) (outT n).length (cellsN (outT n))) := hid7 fun W oa oc h => h.lies oc
  have hcl : (cellsN (outT n)).length = (outT n).length * 1 := cellsN_len _
  have hc1 := hid7 (cellsN_one (outT n))
  have hlen0 : (cellsN (p.take k0)).length = k0 * 1 := by rw [cellsN_len, List.length_take]; omega
  have hone0 := hid7 (cellsN_one (p.take k0))
  have t1 : (n == 9) = false := by simpa using h9
  have t2 : (n == 6) = false := by simpa using h6
  have t3 : (n == 7) = false := by simpa using h7
  have t4 : (n == 8) = false := by simpa using h8
  have t5 : (n == 53) = false := by simpa using h53
  have bp2 : k0 + (inT n).length ≤ 1000 := by omega
  have hlc2 : (k0 : Int) + (inT n).length ≤ lc := by omega
  have hlc3 : (k0 : Int) ≤ lc := by omega
  clear hp h9 h6 h7 h8 h53 hpl bp hlc
  generalize outT n = O at *
  generalize (inT n).length = tl at *
  generalize O.length = ol at *
  have g0 : ¬ ((k0 : Int) + tl < tl) := by omega
  go_enter Try.func22, Try.ntmps22
  go_wp2_with (first
      | (go_at_call 41; refine HH.out.mono ?_; clear HH; rintro e W1 ⟨ia, ic, rfl, x1, H1⟩)
      | (go_at_call 42; refine H1.out.mono ?_; clear H1; rintro e W2 ⟨oa, oc, rfl, ⟨x2, x3, x4⟩, H2⟩; obtain ⟨o3, l3, s3, h3⟩ := HL.out W2 H2.out.1; have O3 := hid7 o3; have C3 := hid7 h3; clear o3 h3 HL)
      | (at_builtin; refine wpList_appN _ rfl _ _ 35 rfl elemN_int w.heap.size _ 0 [] rfl O3.out _ rfl k0 (cellsN (p.take k0)) l3 hlen0 hone0.out (by unfold maxLen; omega) (by omega) s3 ?_; intro v4 W4 hr4 hs4; obtain ⟨va, vc, y4, ⟨z0, z1, f0, f1, f2, f3⟩, s4, K4⟩ := C3.out v4 W4 hr4 hs4; subst y4; clear hr4 hs4 C3 O3; have hL := HO.out W4 oa oc (H2.out.2.keep (below_keep K4.out.2.2.1)); clear HO)
      | (at_builtin; refine wpList_appN _ rfl _ _ 35 rfl elemN_int w.heap.size _ k0 (cellsN (p.take k0)) rfl K4.out.2.1 _ rfl ol (cellsN O) hL hcl hc1.out (by unfold maxLen; omega) (by omega) s4 ?_; intro v' W5 hr5 st5; obtain ⟨vb, vd, y5, _⟩ := row_form hr5; subst y5; have K5 := hid7 (And.intro hr5 st5); clear hr5 st5)
      | fail)
  go_ret
  exact HE.out _ _ _ _ K5.out.1 (K4.out.2.2.2.trans (K5.out.2.below s4 fun g e => (K4.out.2.1.lt g e).1)) rfl
set_option maxRecDepth 100000 in
set_option maxHeartbeats 2000000 in
theorem bh_call (k : Nat) (fs : List Fn) (p : List Int) (V0 w0 w1 w2 w3 : Value) (fa : Option Addr) (fc : Nat) (la : Option Addr) (k0 lc : Nat) (hpl : p.length = k0 + (fnAt fs k).p.length) (bp : p.length ≤ 1000) (hlc : p.length ≤ lc) (w : World) (hp : NsAt w.cell? la p) (hf : FsAt w.cell? fa fs) (hk : k < fs.length) (bf : fs.length ≤ 1000) (bi : (fnAt fs k).p.length ≤ 8) (bo : (fnAt fs k).r.length ≤ 8) :
    Calls Try.prog 22 #[.agg #[V0, .slice fa fs.length fc], .agg #[w0, w1, w2, w3], .agg #[.int .i64 53, .int .i64 k], .slice la (k0 + (fnAt fs k).p.length) lc] w (BhEnd (p.take k0 ++ (fnAt fs k).r) w) := by
  have HH := bhead7 V0 (.slice fa fs.length fc) w0 w1 w2 w3 53 k w
  rw [show inT 53 = [] by decide, show outT 53 = [] by decide] at HH
  simp only [List.length_nil] at HH
  obtain ⟨fb, fo, rfl⟩ := fs_some hf (by omega)
  obtain ⟨a0, c0, a1, c1, q0, q1, q2, q3⟩ := fn_cells hf k hk
  have HC : Hid (∀ W, Below w.heap.size w W → W.cell? ⟨fb, fo + k * 4, none⟩ = some (.slice a0 (fnAt fs k).p.length c0) ∧ W.cell? ⟨fb, fo + k * 4 + 1, none⟩ = some (.slice a1 (fnAt fs k).r.length c1) ∧ fb < W.heap.size) := hid7 fun W hb => ⟨below_keep hb _ _ q0, below_keep hb _ _ q2, Nat.lt_of_lt_of_le (World.block_lt_of_cell? w _ q0) hb.size⟩
  have HL := hid7 (left_copy (V0 := V0) (V1 := .slice (some ⟨fb, fo, none⟩) fs.length fc) (w0 := w0) (w1 := w1) (w2 := w2) (w3 := w3) (n := 53) (A := k) (k := k0) (lc := lc) (by omega) hp)
  have HE := hid7 fun W e a c => bh_end (p := p) (O := (fnAt fs k).r) (w := w) (W := W) (e := e) (a := a) (n := k0) (c := c) (by omega)
  have HO : Hid (∀ W, Below w.heap.size w W → Lies W (.slice a1 (fnAt fs k).r.length c1) (fnAt fs k).r.length (cellsN (fnAt fs k).r)) := hid7 fun W hb => (q3.keep (below_keep hb)).lies c1
  have hcl : (cellsN (fnAt fs k).r).length = (fnAt fs k).r.length * 1 := cellsN_len _
  have hc1 := hid7 (cellsN_one (fnAt fs k).r)
  have hlen0 : (cellsN (p.take k0)).length = k0 * 1 := by rw [cellsN_len, List.length_take]; omega
  have hone0 := hid7 (cellsN_one (p.take k0))
  have hkn : (k : Int) < fs.length := by omega
  have hk0 : (0 : Int) ≤ k := by omega
  have bp2 : k0 + (fnAt fs k).p.length ≤ 1000 := by omega
  have hlc2 : (k0 : Int) + (fnAt fs k).p.length ≤ lc := by omega
  have hlc3 : (k0 : Int) ≤ lc := by omega
  clear hp hf q0 q1 q2 q3 hpl bp hlc
  generalize fs.length = fn at *
  generalize (fnAt fs k).p = T at *
  generalize (fnAt fs k).r = O at *
  generalize T.length = tl at *
  generalize O.length = ol at *
  have g0 : ¬ ((k0 : Int) + tl < tl) := by omega
  go_enter Try.func22, Try.ntmps22
  go_wp2_with (first
      | (go_at_call 41; refine HH.out.mono ?_; clear HH; rintro e W1 ⟨ia, ic, rfl, x1, H1⟩)
      | (go_at_call 42; refine H1.out.mono ?_; clear H1; rintro e W2 ⟨oa, oc, rfl, ⟨x2, x3, x4⟩, H2⟩; obtain ⟨o3, l3, s3, h3⟩ := HL.out W2 H2.out.1; have O3 := hid7 o3; have C3 := hid7 h3; clear o3 h3 HL; obtain ⟨d0, d1, dl⟩ := HC.out W2 H2.out.1.b; clear HC)
      | (at_builtin; refine wpList_appN _ rfl _ _ 35 rfl elemN_int w.heap.size _ 0 [] rfl O3.out _ rfl k0 (cellsN (p.take k0)) l3 hlen0 hone0.out (by unfold maxLen; omega) (by omega) s3 ?_; intro v4 W4 hr4 hs4; obtain ⟨va, vc, y4, ⟨z0, z1, f0, f1, f2, f3⟩, s4, K4⟩ := C3.out v4 W4 hr4 hs4; subst y4; clear hr4 hs4 C3 O3; have hL := HO.out W4 K4.out.2.2.2; clear HO)
      | (at_builtin; refine wpList_appN _ rfl _ _ 35 rfl elemN_int w.heap.size _ k0 (cellsN (p.take k0)) rfl K4.out.2.1 _ rfl ol (cellsN O) hL hcl hc1.out (by unfold maxLen; omega) (by omega) s4 ?_; intro v' W5 hr5 st5; obtain ⟨vb, vd, y5, _⟩ := row_form hr5; subst y5; have K5 := hid7 (And.intro hr5 st5); clear hr5 st5)
      | fail)
  go_ret
  exact HE.out _ _ _ _ K5.out.1 (K4.out.2.2.2.trans (K5.out.2.below s4 fun g e => (K4.out.2.1.lt g e).1)) rfl
set_option maxRecDepth 100000 in
set_option maxHeartbeats 2000000 in
theorem bh_dup (A : Int) (p : List Int) (V0 V1 w0 w1 w2 w3 : Value) (lb lo k0 lc : Nat) (t0 : Int) (hpl : p.length = k0 + 1) (bp : p.length ≤ 1000) (hlc : p.length ≤ lc) (w : World) (hp : NsAt w.cell? (some ⟨lb, lo, none⟩) p) (e0 : p.getD k0 0 = t0) :
    Calls Try.prog 22 #[.agg #[V0, V1], .agg #[w0, w1, w2, w3], .agg #[.int .i64 6, .int .i64 A], .slice (some ⟨lb, lo, none⟩) (k0 + 1) lc] w (BhEnd (p.take k0 ++ [t0, t0]) w) := by
  have HH := bhead7 V0 V1 w0 w1 w2 w3 6 A w
  rw [show inT 6 = [0] by decide, show outT 6 = [0, 0] by decide] at HH
  simp only [List.length_cons, List.length_nil, Nat.zero_add] at HH
  have c0 := ns_at hp k0 (by omega)
  rw [e0] at c0
  have HC : Hid (∀ W, Below w.heap.size w W → (W.cell? ⟨lb, lo + k0, none⟩ = some (.int .i64 t0)) ∧ lb < W.heap.size) := hid7 fun W hb => ⟨below_keep hb _ _ c0, Nat.lt_of_lt_of_le (World.block_lt_of_cell? w _ c0) hb.size⟩
  have HL := hid7 (left_copy (V0 := V0) (V1 := V1) (w0 := w0) (w1 := w1) (w2 := w2) (w3 := w3) (n := 6) (A := A) (k := k0) (lc := lc) (by omega) hp)
  have HE := hid7 fun W e a c => bh_end (p := p) (O := [t0, t0]) (w := w) (W := W) (e := e) (a := a) (n := k0) (c := c) (by omega)
  have HO : Hid (∀ V : World, Lies (V.alloc (.cells #[.int .i64 t0, .int .i64 t0] 3)) (.slice (some ⟨V.heap.size, 0, none⟩) 2 2) 2 [.int .i64 t0, .int .i64 t0]) := hid7 fun V => row_new [t0, t0] 2
  have HOne : Hid (∀ u ∈ [Value.int .i64 t0, Value.int .i64 t0], u.oneCell' = true) := hid7 (by simp [Value.oneCell'])
  have hlen0 : (cellsN (p.take k0)).length = k0 * 1 := by rw [cellsN_len, List.length_take]; omega
  have hone0 := hid7 (cellsN_one (p.take k0))
  have bp2 : k0 + 1 ≤ 1000 := by omega
  have hlc2 : (k0 : Int) + 1 ≤ lc := by omega
  have hlc3 : (k0 : Int) ≤ lc := by omega
  have g1 : IntKind.i64.wrap (k0 : Int) = k0 := by rw [IntKind.wrap_i64]; omega
  have g2 : (0 : Int) ≤ k0 := by omega
  have g3 : (k0 : Int) < (k0 : Int) + 1 := by omega
  clear hp hpl bp hlc c0 e0
  go_enter Try.func22, Try.ntmps22
  go_wp2_with (first
      | (go_at_call 41; refine HH.out.mono ?_; clear HH; rintro e W1 ⟨ia, ic, rfl, x1, H1⟩)
      | (go_at_call 42; refine H1.out.mono ?_; clear H1; rintro e W2 ⟨oa, oc, rfl, ⟨x2, x3, x4⟩, H2⟩; obtain ⟨o3, l3, s3, h3⟩ := HL.out W2 H2.out.1; have O3 := hid7 o3; have C3 := hid7 h3; clear o3 h3 HL)
      | (at_builtin; refine wpList_appN _ rfl _ _ 35 rfl elemN_int w.heap.size _ 0 [] rfl O3.out _ rfl k0 (cellsN (p.take k0)) l3 hlen0 hone0.out (by unfold maxLen; omega) (by omega) s3 ?_; intro v4 W4 hr4 hs4; obtain ⟨va, vc, y4, ⟨z0, z1, f0, f1, f2, f3⟩, s4, K4⟩ := C3.out v4 W4 hr4 hs4; subst y4; clear hr4 hs4 C3 O3; obtain ⟨d0, dl⟩ := HC.out W4 K4.out.2.2.2; have D5 := hid7 (World.ownsRow.alloc (row_below2 K4.out.2.1 (Below.refl _ W4).drew) (.cells #[.int .i64 t0, .int .i64 t0] 3)); have s5 : Hid (w.heap.size ≤ (W4.drew.alloc (.cells #[.int .i64 t0, .int .i64 t0] 3)).heap.size) := hid7 (Nat.le_trans s4 ((Below.refl _ W4).drew.alloc (Nat.le_refl _) (.cells #[.int .i64 t0, .int .i64 t0] 3)).size))
      | fail)
  go_region_held3 (fun W => W.cell? ⟨lb, lo + k0, none⟩ = some (.int .i64 t0)) (first | exact d0 | exact d6 | go_keep) (first | (refine step_appN _ rfl (.tmp 66) (.tmp 77) 35 rfl elemN_int w.heap.size _ k0 (cellsN (p.take k0)) rfl D5.out _ rfl 2 [.int .i64 t0, .int .i64 t0] (HO.out _) rfl HOne.out (by unfold maxLen; omega) (by omega) s5.out ?_; intro v' W5 hr5 st5; obtain ⟨vb, vd, y5, _⟩ := row_form hr5; subst y5; have bd := (Below.refl _ W4).drew.alloc (Nat.le_refl _) (.cells #[.int .i64 t0, .int .i64 t0] 3); have B5 : Below w.heap.size w W5 := (K4.out.2.2.2.trans (bd.mono K4.out.2.2.2.size)).trans (st5.below s5.out fun g e => (D5.out.lt g e).1); have d6 := (HC.out W5 B5).1; have K5 := hid7 (And.intro hr5 B5); clear hr5 st5 bd B5) | fail)
  go_wp2
  go_ret
  exact HE.out _ _ _ _ K5.out.1 K5.out.2 rfl
set_option maxRecDepth 100000 in
set_option maxHeartbeats 2000000 in
theorem bh_swap (A : Int) (p : List Int) (V0 V1 w0 w1 w2 w3 : Value) (lb lo k0 lc : Nat) (t0 t1 : Int) (hpl : p.length = k0 + 2) (bp : p.length ≤ 1000) (hlc : p.length ≤ lc) (w : World) (hp : NsAt w.cell? (some ⟨lb, lo, none⟩) p) (e0 : p.getD k0 0 = t0) (e1 : p.getD (k0 + 1) 0 = t1) :
    Calls Try.prog 22 #[.agg #[V0, V1], .agg #[w0, w1, w2, w3], .agg #[.int .i64 7, .int .i64 A], .slice (some ⟨lb, lo, none⟩) (k0 + 2) lc] w (BhEnd (p.take k0 ++ [t1, t0]) w) := by
  have HH := bhead7 V0 V1 w0 w1 w2 w3 7 A w
  rw [show inT 7 = [0, 0] by decide, show outT 7 = [0, 0] by decide] at HH
  simp only [List.length_cons, List.length_nil, Nat.zero_add] at HH
  have c0 := ns_at hp k0 (by omega)
  rw [e0] at c0
  have c1 := ns_at hp (k0 + 1) (by omega)
  rw [e1] at c1
  have HC : Hid (∀ W, Below w.heap.size w W → (W.cell? ⟨lb, lo + k0, none⟩ = some (.int .i64 t0) ∧ W.cell? ⟨lb, lo + (k0 + 1), none⟩ = some (.int .i64 t1)) ∧ lb < W.heap.size) := hid7 fun W hb => ⟨⟨below_keep hb _ _ c0, below_keep hb _ _ c1⟩, Nat.lt_of_lt_of_le (World.block_lt_of_cell? w _ c0) hb.size⟩
  have HL := hid7 (left_copy (V0 := V0) (V1 := V1) (w0 := w0) (w1 := w1) (w2 := w2) (w3 := w3) (n := 7) (A := A) (k := k0) (lc := lc) (by omega) hp)
  have HE := hid7 fun W e a c => bh_end (p := p) (O := [t1, t0]) (w := w) (W := W) (e := e) (a := a) (n := k0) (c := c) (by omega)
  have HO : Hid (∀ V : World, Lies (V.alloc (.cells #[.int .i64 t1, .int .i64 t0] 3)) (.slice (some ⟨V.heap.size, 0, none⟩) 2 2) 2 [.int .i64 t1, .int .i64 t0]) := hid7 fun V => row_new [t1, t0] 2
  have HOne : Hid (∀ u ∈ [Value.int .i64 t1, Value.int .i64 t0], u.oneCell' = true) := hid7 (by simp [Value.oneCell'])
  have hlen0 : (cellsN (p.take k0)).length = k0 * 1 := by rw [cellsN_len, List.length_take]; omega
  have hone0 := hid7 (cellsN_one (p.take k0))
  have bp2 : k0 + 2 ≤ 1000 := by omega
  have hlc2 : (k0 : Int) + 2 ≤ lc := by omega
  have hlc3 : (k0 : Int) ≤ lc := by omega
  have g1 : IntKind.i64.wrap (k0 : Int) = k0 := by rw [IntKind.wrap_i64]; omega
  have g2 : (0 : Int) ≤ k0 := by omega
  have g3 : (k0 : Int) < (k0 : Int) + 2 := by omega
  have g4 : (k0 : Int) + 1 < (k0 : Int) + 2 := by omega
  have g5 : (0 : Int) ≤ (k0 : Int) + 1 := by omega
  have g6 : IntKind.i64.wrap ((k0 : Int) + 2 - 1) = (k0 : Int) + 1 := by rw [IntKind.wrap_i64]; omega
  have g7 : IntKind.i64.wrap ((k0 : Int) + 1) = (k0 : Int) + 1 := by rw [IntKind.wrap_i64]; omega
  clear hp hpl bp hlc c0 e0 c1 e1
  go_enter Try.func22, Try.ntmps22
  go_wp2_with (first
      | (go_at_call 41; refine HH.out.mono ?_; clear HH; rintro e W1 ⟨ia, ic, rfl, x1, H1⟩)
      | (go_at_call 42; refine H1.out.mono ?_; clear H1; rintro e W2 ⟨oa, oc, rfl, ⟨x2, x3, x4⟩, H2⟩; obtain ⟨o3, l3, s3, h3⟩ := HL.out W2 H2.out.1; have O3 := hid7 o3; have C3 := hid7 h3; clear o3 h3 HL)
      | (at_builtin; refine wpList_appN _ rfl _ _ 35 rfl elemN_int w.heap.size _ 0 [] rfl O3.out _ rfl k0 (cellsN (p.take k0)) l3 hlen0 hone0.out (by unfold maxLen; omega) (by omega) s3 ?_; intro v4 W4 hr4 hs4; obtain ⟨va, vc, y4, ⟨z0, z1, f0, f1, f2, f3⟩, s4, K4⟩ := C3.out v4 W4 hr4 hs4; subst y4; clear hr4 hs4 C3 O3; obtain ⟨d0, dl⟩ := HC.out W4 K4.out.2.2.2; have D5 := hid7 (World.ownsRow.alloc (row_below2 K4.out.2.1 (Below.refl _ W4).drew) (.cells #[.int .i64 t1, .int .i64 t0] 3)); have s5 : Hid (w.heap.size ≤ (W4.drew.alloc (.cells #[.int .i64 t1, .int .i64 t0] 3)).heap.size) := hid7 (Nat.le_trans s4 ((Below.refl _ W4).drew.alloc (Nat.le_refl _) (.cells #[.int .i64 t1, .int .i64 t0] 3)).size))
      | fail)
  go_region_held3 (fun W => W.cell? ⟨lb, lo + k0, none⟩ = some (.int .i64 t0) ∧ W.cell? ⟨lb, lo + (k0 + 1), none⟩ = some (.int .i64 t1)) (first | exact d0 | exact d6 | go_keep) (first | (refine step_appN _ rfl (.tmp 81) (.tmp 92) 35 rfl elemN_int w.heap.size _ k0 (cellsN (p.take k0)) rfl D5.out _ rfl 2 [.int .i64 t1, .int .i64 t0] (HO.out _) rfl HOne.out (by unfold maxLen; omega) (by omega) s5.out ?_; intro v' W5 hr5 st5; obtain ⟨vb, vd, y5, _⟩ := row_form hr5; subst y5; have bd := (Below.refl _ W4).drew.alloc (Nat.le_refl _) (.cells #[.int .i64 t1, .int .i64 t0] 3); have B5 : Below w.heap.size w W5 := (K4.out.2.2.2.trans (bd.mono K4.out.2.2.2.size)).trans (st5.below s5.out fun g e => (D5.out.lt g e).1); have d6 := (HC.out W5 B5).1; have K5 := hid7 (And.intro hr5 B5); clear hr5 st5 bd B5) | fail)
  go_wp2
  go_ret
  exact HE.out _ _ _ _ K5.out.1 K5.out.2 rfl
set_option maxRecDepth 100000 in
set_option maxHeartbeats 2000000 in
theorem bh_over (A : Int) (p : List Int) (V0 V1 w0 w1 w2 w3 : Value) (lb lo k0 lc : Nat) (t0 t1 : Int) (hpl : p.length = k0 + 2) (bp : p.length ≤ 1000) (hlc : p.length ≤ lc) (w : World) (hp : NsAt w.cell? (some ⟨lb, lo, none⟩) p) (e0 : p.getD k0 0 = t0) (e1 : p.getD (k0 + 1) 0 = t1) :
    Calls Try.prog 22 #[.agg #[V0, V1], .agg #[w0, w1, w2, w3], .agg #[.int .i64 8, .int .i64 A], .slice (some ⟨lb, lo, none⟩) (k0 + 2) lc] w (BhEnd (p.take k0 ++ [t0, t1, t0]) w) := by
  have HH := bhead7 V0 V1 w0 w1 w2 w3 8 A w
  rw [show inT 8 = [0, 0] by decide, show outT 8 = [0, 0, 0] by decide] at HH
  simp only [List.length_cons, List.length_nil, Nat.zero_add] at HH
  have c0 := ns_at hp k0 (by omega)
  rw [e0] at c0
  have c1 := ns_at hp (k0 + 1) (by omega)
  rw [e1] at c1
  have HC : Hid (∀ W, Below w.heap.size w W → (W.cell? ⟨lb, lo + k0, none⟩ = some (.int .i64 t0) ∧ W.cell? ⟨lb, lo + (k0 + 1), none⟩ = some (.int .i64 t1)) ∧ lb < W.heap.size) := hid7 fun W hb => ⟨⟨below_keep hb _ _ c0, below_keep hb _ _ c1⟩, Nat.lt_of_lt_of_le (World.block_lt_of_cell? w _ c0) hb.size⟩
  have HL := hid7 (left_copy (V0 := V0) (V1 := V1) (w0 := w0) (w1 := w1) (w2 := w2) (w3 := w3) (n := 8) (A := A) (k := k0) (lc := lc) (by omega) hp)
  have HE := hid7 fun W e a c => bh_end (p := p) (O := [t0, t1, t0]) (w := w) (W := W) (e := e) (a := a) (n := k0) (c := c) (by omega)
  have HO : Hid (∀ V : World, Lies (V.alloc (.cells #[.int .i64 t0, .int .i64 t1, .int .i64 t0] 3)) (.slice (some ⟨V.heap.size, 0, none⟩) 3 3) 3 [.int .i64 t0, .int .i64 t1, .int .i64 t0]) := hid7 fun V => row_new [t0, t1, t0] 3
  have HOne : Hid (∀ u ∈ [Value.int .i64 t0, Value.int .i64 t1, Value.int .i64 t0], u.oneCell' = true) := hid7 (by simp [Value.oneCell'])
  have hlen0 : (cellsN (p.take k0)).length = k0 * 1 := by rw [cellsN_len, List.length_take]; omega
  have hone0 := hid7 (cellsN_one (p.take k0))
  have bp2 : k0 + 2 ≤ 1000 := by omega
  have hlc2 : (k0 : Int) + 2 ≤ lc := by omega
  have hlc3 : (k0 : Int) ≤ lc := by omega
  have g1 : IntKind.i64.wrap (k0 : Int) = k0 := by rw [IntKind.wrap_i64]; omega
  have g2 : (0 : Int) ≤ k0 := by omega
  have g3 : (k0 : Int) < (k0 : Int) + 2 := by omega
  have g4 : (k0 : Int) + 1 < (k0 : Int) + 2 := by omega
  have g5 : (0 : Int) ≤ (k0 : Int) + 1 := by omega
  have g6 : IntKind.i64.wrap ((k0 : Int) + 2 - 1) = (k0 : Int) + 1 := by rw [IntKind.wrap_i64]; omega
  have g7 : IntKind.i64.wrap ((k0 : Int) + 1) = (k0 : Int) + 1 := by rw [IntKind.wrap_i64]; omega
  clear hp hpl bp hlc c0 e0 c1 e1
  go_enter Try.func22, Try.ntmps22
  go_wp2_with (first
      | (go_at_call 41; refine HH.out.mono ?_; clear HH; rintro e W1 ⟨ia, ic, rfl, x1, H1⟩)
      | (go_at_call 42; refine H1.out.mono ?_; clear H1; rintro e W2 ⟨oa, oc, rfl, ⟨x2, x3, x4⟩, H2⟩; obtain ⟨o3, l3, s3, h3⟩ := HL.out W2 H2.out.1; have O3 := hid7 o3; have C3 := hid7 h3; clear o3 h3 HL)
      | (at_builtin; refine wpList_appN _ rfl _ _ 35 rfl elemN_int w.heap.size _ 0 [] rfl O3.out _ rfl k0 (cellsN (p.take k0)) l3 hlen0 hone0.out (by unfold maxLen; omega) (by omega) s3 ?_; intro v4 W4 hr4 hs4; obtain ⟨va, vc, y4, ⟨z0, z1, f0, f1, f2, f3⟩, s4, K4⟩ := C3.out v4 W4 hr4 hs4; subst y4; clear hr4 hs4 C3 O3; obtain ⟨d0, dl⟩ := HC.out W4 K4.out.2.2.2; have D5 := hid7 (World.ownsRow.alloc (row_below2 K4.out.2.1 (Below.refl _ W4).drew) (.cells #[.int .i64 t0, .int .i64 t1, .int .i64 t0] 3)); have s5 : Hid (w.heap.size ≤ (W4.drew.alloc (.cells #[.int .i64 t0, .int .i64 t1, .int .i64 t0] 3)).heap.size) := hid7 (Nat.le_trans s4 ((Below.refl _ W4).drew.alloc (Nat.le_refl _) (.cells #[.int .i64 t0, .int .i64 t1, .int .i64 t0] 3)).size))
      | fail)
  go_region_held3 (fun W => W.cell? ⟨lb, lo + k0, none⟩ = some (.int .i64 t0) ∧ W.cell? ⟨lb, lo + (k0 + 1), none⟩ = some (.int .i64 t1)) (first | exact d0 | exact d6 | go_keep) (first | (refine step_appN _ rfl (.tmp 96) (.tmp 112) 35 rfl elemN_int w.heap.size _ k0 (cellsN (p.take k0)) rfl D5.out _ rfl 3 [.int .i64 t0, .int .i64 t1, .int .i64 t0] (HO.out _) rfl HOne.out (by unfold maxLen; omega) (by omega) s5.out ?_; intro v' W5 hr5 st5; obtain ⟨vb, vd, y5, _⟩ := row_form hr5; subst y5; have bd := (Below.refl _ W4).drew.alloc (Nat.le_refl _) (.cells #[.int .i64 t0, .int .i64 t1, .int .i64 t0] 3); have B5 : Below w.heap.size w W5 := (K4.out.2.2.2.trans (bd.mono K4.out.2.2.2.size)).trans (st5.below s5.out fun g e => (D5.out.lt g e).1); have d6 := (HC.out W5 B5).1; have K5 := hid7 (And.intro hr5 B5); clear hr5 st5 bd B5) | fail)
  go_wp2
  go_ret
  exact HE.out _ _ _ _ K5.out.1 K5.out.2 rfl
/-- Slots, and the cell that is asked for. -/
theorem pslot7 {V0 V1 w0 w1 w2 w3 : Value} {n : Int} {k : Nat} {g : Fn} {w : World} (hg : FnIs w.cell? g w0 w1 w2 w3) (hgf : g.fits) (hk : k < (g.p ++ g.l).length) (bsl : (g.p ++ g.l).length ≤ 1000) :
    ∀ W, Bx7 V0 V1 w0 w1 w2 w3 n (k : Int) w W → Calls Try.prog 43 #[.agg #[w0, w1, w2, w3]] W fun e W' => ∃ sb sc, e = .returned (.slice (some ⟨sb, 0, none⟩) (g.p ++ g.l).length sc) ∧ W'.cell? ⟨sb, k, none⟩ = some (.int .i64 ((g.p ++ g.l).getD k 0)) ∧ sb < W'.heap.size ∧ W'.cell? ⟨w.heap.size + 1 + 1, 1, none⟩ = some (.int .i64 k) ∧ w.heap.size + 1 + 1 < W'.heap.size ∧ Hid (Bx7 V0 V1 w0 w1 w2 w3 n (k : Int) w W' ∧ Below W.heap.size W W') := fun W hx => by
  have hk' := hk
  rw [List.length_append] at hk' bsl
  refine (slots_any g w0 w1 w2 w3 W (hg.keep (below_keep hx.b)) hgf (by omega)).mono fun e W' ⟨⟨v, h1, h2⟩, h3⟩ => ?_
  obtain ⟨a, c, rfl, hc, _, q⟩ := row_form h2
  rcases q with ⟨_, h0, _⟩ | ⟨sb, rfl, _, hl, hcell⟩
  · omega
  have x := hx.below h3
  refine ⟨sb, c, h1, hcell k _ ?_, hl, x.xc.2, blk_lt x.x, hid7 ⟨x, h3⟩⟩
  rw [cellsN, List.getElem?_map, List.getElem?_eq_getElem hk, List.getD_eq_getElem?_getD, List.getElem?_eq_getElem hk]
  rfl
set_option maxRecDepth 100000 in
set_option maxHeartbeats 2000000 in
theorem bh_get (k : Nat) (g : Fn) (p : List Int) (V0 V1 w0 w1 w2 w3 : Value) (la : Option Addr) (k0 lc : Nat) (hpl : p.length = k0) (bp : p.length ≤ 1000) (hlc : p.length ≤ lc) (w : World) (hp : NsAt w.cell? la p) (hg : FnIs w.cell? g w0 w1 w2 w3) (hgf : g.fits) (hk : k < (g.p ++ g.l).length) (bsl : (g.p ++ g.l).length ≤ 1000) :
    Calls Try.prog 22 #[.agg #[V0, V1], .agg #[w0, w1, w2, w3], .agg #[.int .i64 9, .int .i64 k], .slice la k0 lc] w (BhEnd (p.take k0 ++ [(g.p ++ g.l).getD k 0]) w) := by
  have HH := bhead7 V0 V1 w0 w1 w2 w3 9 k w
  rw [show inT 9 = [] by decide, show outT 9 = [0] by decide] at HH
  simp only [List.length_cons, List.length_nil, Nat.zero_add] at HH
  have HS := hid7 (pslot7 (V0 := V0) (V1 := V1) (n := 9) hg hgf hk bsl)
  generalize (g.p ++ g.l).getD k 0 = y at *
  generalize (g.p ++ g.l).length = sn at *
  have HL := hid7 (left_copy (V0 := V0) (V1 := V1) (w0 := w0) (w1 := w1) (w2 := w2) (w3 := w3) (n := 9) (A := k) (k := k0) (lc := lc) (by omega) hp)
  have HE := hid7 fun W e a c => bh_end (p := p) (O := [y]) (w := w) (W := W) (e := e) (a := a) (n := k0) (c := c) (by omega)
  have HO : Hid (∀ V : World, Lies (V.alloc (.cells #[.int .i64 y] 3)) (.slice (some ⟨V.heap.size, 0, none⟩) 1 1) 1 [.int .i64 y]) := hid7 fun V => row_new [y] 1
  have HOne : Hid (∀ u ∈ [Value.int .i64 y], u.oneCell' = true) := hid7 (by simp [Value.oneCell'])
  have hlen0 : (cellsN (p.take k0)).length = k0 * 1 := by rw [cellsN_len, List.length_take]; omega
  have hone0 := hid7 (cellsN_one (p.take k0))
  have bp2 : k0 ≤ 1000 := by omega
  have hlc3 : (k0 : Int) ≤ lc := by omega
  have hkn : (k : Int) < sn := by omega
  have hk0 : (0 : Int) ≤ k := by omega
  clear hp hpl bp hlc hg hgf
  go_enter Try.func22, Try.ntmps22
  go_wp2_with (first
      | (go_at_call 41; refine HH.out.mono ?_; clear HH; rintro e W1 ⟨ia, ic, rfl, x1, H1⟩)
      | (go_at_call 42; refine H1.out.mono ?_; clear H1; rintro e W2 ⟨oa, oc, rfl, ⟨x2, x3, x4⟩, H2⟩; obtain ⟨o3, l3, s3, h3⟩ := HL.out W2 H2.out.1; have O3 := hid7 o3; have C3 := hid7 h3; clear o3 h3 HL)
      | (at_builtin; refine wpList_appN _ rfl _ _ 35 rfl elemN_int w.heap.size _ 0 [] rfl O3.out _ rfl k0 (cellsN (p.take k0)) l3 hlen0 hone0.out (by unfold maxLen; omega) (by omega) s3 ?_; intro v4 W4 hr4 hs4; obtain ⟨va, vc, y4, ⟨z0, z1, f0, f1, f2, f3⟩, s4, K4⟩ := C3.out v4 W4 hr4 hs4; subst y4; clear hr4 hs4 C3 O3; have S4 := hid7 (HS.out W4.drew K4.out.1.drew1); clear HS)
      | fail)
  go_region_law (first
    | (refine step_call2 (by rfl) 43 _ _ (by rfl) (Go.Proofs.enters_of Try.func43 (by kernel_rfl) rfl) #[.agg #[w0, w1, w2, w3]] (by rfl) _ S4.out ?_; clear S4; rintro e W5 ⟨sb, sc, rfl, j1, j2, j3, j4, H5⟩; refine ⟨_, rfl, ?_⟩; have b5 : Below W4.heap.size W4 W5 := (Below.refl _ W4).drew.trans H5.out.2; have r5 := row_below2 K4.out.2.1 b5; have D5 := hid7 (World.ownsRow.alloc r5 (.cells #[.int .i64 y] 3)); have s5 : Hid (w.heap.size ≤ (W5.alloc (.cells #[.int .i64 y] 3)).heap.size) := hid7 (Nat.le_trans H5.out.1.b.size (by simp)); clear r5 b5)
    | (refine step_appN _ rfl (.tmp 55) (.tmp 62) 35 rfl elemN_int w.heap.size _ k0 (cellsN (p.take k0)) rfl D5.out _ rfl 1 [.int .i64 y] (HO.out _) rfl HOne.out (by unfold maxLen; omega) (by omega) s5.out ?_; intro v' W6 hr6 st6; obtain ⟨vb, vd, y6, _⟩ := row_form hr6; subst y6; have K6 := hid7 (And.intro hr6 (((H5.out.1.b.alloc H5.out.1.b.size _).trans (st6.below s5.out fun g e => (D5.out.lt g e).1)))); clear hr6 st6)
    | fail)
  all_goals
    go_wp2
    go_ret
    exact HE.out _ _ _ _ K6.out.1 K6.out.2 rfl
end Go.Proofs.Ytnidakplcaanfaa
namespace Go.Proofs.Ytnidakplcaanfaa
open Go.RowKit Go.Shelf
theorem behind_any {fs : List Fn} {g : Fn} (x : Int × Int) (hx : InsR fs (g.p ++ g.l) x) (p : List Int) (V0 w0 w1 w2 w3 : Value) (fa : Option Addr) (fc : Nat) (la : Option Addr) (lc : Nat) (bp : p.length ≤ 1000) (hlc : p.length ≤ lc) (w : World) (hp : NsAt w.cell? la p) (hf : FsAt w.cell? fa fs) (hg : FnIs w.cell? g w0 w1 w2 w3) (hgf : g.fits) (bsl : (g.p ++ g.l).length ≤ 1000) (bf : fs.length ≤ 1000) (hh : HeadsR fs) (h0 : (stepW fs (g.p ++ g.l) x p).1 = 0) :
    Calls Try.prog 22 #[.agg #[V0, .slice fa fs.length fc], .agg #[w0, w1, w2, w3], .agg #[.int .i64 x.1, .int .i64 x.2], .slice la p.length lc] w (BhEnd (stepW fs (g.p ++ g.l) x p).2 w) := by
  obtain ⟨n, A⟩ := x
  simp only
  have hT : (takeS p (takenS fs (g.p ++ g.l) (n, A))).1 = 0 := by
    unfold stepW at h0
    split at h0
    · assumption
    · rename_i h; exact absurd h0 h
  have e2 : (stepW fs (g.p ++ g.l) (n, A) p).2 = p.take (takeS p (takenS fs (g.p ++ g.l) (n, A))).2 ++ givenS fs (g.p ++ g.l) (n, A) (p.drop (takeS p (takenS fs (g.p ++ g.l) (n, A))).2) := by rw [stepW, if_pos hT]
  rw [e2]
  obtain ⟨k0, hk0⟩ : ∃ k0, (takeS p (takenS fs (g.p ++ g.l) (n, A))).2 = k0 := ⟨_, rfl⟩
  have hlen := take_is (st := p) (ts := takenS fs (g.p ++ g.l) (n, A)) (k := k0) (by rw [← hk0, ← hT])
  rw [hk0]
  clear h0 hT e2 hk0
  by_cases h6 : n = 6
  · subst h6
    rw [show takenS fs (g.p ++ g.l) (6, A) = [0] by simp [takenS]; decide] at hlen
    have hq : p.length = k0 + 1 := by simp at hlen; omega
    obtain ⟨lb, lo, rfl⟩ := ns_some hp (by omega)
    rw [show givenS fs (g.p ++ g.l) (6, A) (p.drop k0) = p.drop k0 ++ p.drop k0 by simp [givenS], drop_one hq, hq]
    exact bh_dup A p V0 _ w0 w1 w2 w3 lb lo k0 lc _ hq bp hlc w hp rfl
  by_cases h7 : n = 7
  · subst h7
    rw [show takenS fs (g.p ++ g.l) (7, A) = [0, 0] by simp [takenS]; decide] at hlen
    have hq : p.length = k0 + 2 := by simp at hlen; omega
    obtain ⟨lb, lo, rfl⟩ := ns_some hp (by omega)
    rw [show givenS fs (g.p ++ g.l) (7, A) (p.drop k0) = [p.getD (k0 + 1) 0, p.getD k0 0] by rw [drop_two hq]; simp [givenS], hq]
    exact bh_swap A p V0 _ w0 w1 w2 w3 lb lo k0 lc _ _ hq bp hlc w hp rfl rfl
  by_cases h8 : n = 8
  · subst h8
    rw [show takenS fs (g.p ++ g.l) (8, A) = [0, 0] by simp [takenS]; decide] at hlen
    have hq : p.length = k0 + 2 := by simp at hlen; omega
    obtain ⟨lb, lo, rfl⟩ := ns_some hp (by omega)
    rw [show givenS fs (g.p ++ g.l) (8, A) (p.drop k0) = [p.getD k0 0, p.getD (k0 + 1) 0, p.getD k0 0] by rw [drop_two hq]; simp [givenS], hq]
    exact bh_over A p V0 _ w0 w1 w2 w3 lb lo k0 lc _ _ hq bp hlc w hp rfl rfl
  by_cases h9 : n = 9
  · subst h9
    obtain ⟨g1, g2⟩ := hx.1 (.inl rfl)
    simp only at g1 g2
    obtain ⟨k, rfl⟩ : ∃ k : Nat, A = k := ⟨A.toNat, by omega⟩
    rw [show takenS fs (g.p ++ g.l) (9, (k : Int)) = [] by simp [takenS]; decide] at hlen
    have hq : p.length = k0 := by simp at hlen; omega
    rw [show givenS fs (g.p ++ g.l) (9, (k : Int)) (p.drop k0) = [(g.p ++ g.l).getD k 0] by simp [givenS], hq]
    exact bh_get k g p V0 _ w0 w1 w2 w3 la k0 lc hq bp hlc w hp hg hgf (by omega) bsl
  by_cases h53 : n = 53
  · subst h53
    obtain ⟨g1, g2⟩ := hx.2 rfl
    simp only at g1 g2
    obtain ⟨k, rfl⟩ : ∃ k : Nat, A = k := ⟨A.toNat, by omega⟩
    rw [show takenS fs (g.p ++ g.l) (53, (k : Int)) = (fnAt fs k).p by simp [takenS]] at hlen
    obtain ⟨q1, q2⟩ := fnAt_le hh (k : Int)
    rw [show givenS fs (g.p ++ g.l) (53, (k : Int)) (p.drop k0) = (fnAt fs k).r by simp [givenS], ← hlen]
    exact bh_call k fs p V0 w0 w1 w2 w3 fa fc la k0 lc hlen.symm bp hlc w hp hf (by omega) bf q1 q2
  · have hin : (takenS fs (g.p ++ g.l) (n, A)).length = (inT n).length := by
      by_cases h10 : n = 10
      · subst h10
        rw [show inT 10 = [0] by decide]
        simp [takenS]
      · simp [takenS, h10, h53]
    rw [hin] at hlen
    rw [show givenS fs (g.p ++ g.l) (n, A) (p.drop k0) = outT n by simp [givenS, h6, h7, h8, h9, h53], ← hlen]
    exact bh_plain n A p V0 _ w0 w1 w2 w3 la k0 lc hlen.symm bp hlc w hp (inT_le n) (outT_le n) h9 h6 h7 h8 h53
end Go.Proofs.Ytnidakplcaanfaa
