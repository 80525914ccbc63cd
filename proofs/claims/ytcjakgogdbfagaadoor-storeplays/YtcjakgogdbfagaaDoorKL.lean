/- Layer 11: the law's filled: a store and the document's, of the same pairs. Layer 11: what the laws' stores answer: scans. Layer 11: the document's Get and Next. -/
import Derived.Test.YtcjakgogdbfagaaDoorKF
import Derived.Deep.RegionHeld3
import Derived.Test.YtcjakgogdbfagaaDoorKI
import Derived.Deep.QuietTactic
import Derived.BigQuiet
namespace Go.Proofs.YtcjakgogdbfagaaDoor
open Go.RowKit
/-- Pairs that a store may have. -/
structure MOk (M : Kvs) : Prop where
  srt : SrtL M
  len : M.length ≤ 512
  small : ∀ x ∈ M, x.1.length ≤ 32 ∧ x.2.length ≤ 256
theorem MOk.nil : MOk [] := ⟨List.Pairwise.nil, by decide, fun x h => by cases h⟩
theorem MOk.put {M : Kvs} (h : MOk M) (k v : Bt) : MOk (putS M k v) := by
  unfold putS
  split
  · exact h
  · rename_i hl
    split
    · exact h
    · rename_i hf
      have hk : k.length ≤ 32 ∧ v.length ≤ 256 := by unfold longB at hl; simp at hl; omega
      refine ⟨putL_srt h.srt k v, ?_, fun x hx => ?_⟩
      · rw [putL_len h.srt]
        have := h.len
        split
        · rename_i e
          have : ¬ 512 ≤ M.length := fun x => hf ⟨e, x⟩
          omega
        · omega
      · rcases mem_putL hx with e | e
        · rw [e]; exact hk
        · exact h.small x e
theorem MOk.big {M : Kvs} (h : MOk M) : ∀ x ∈ M, x.1.length ≤ 281474976710656 ∧ x.2.length ≤ 281474976710656 := fun x hx => by
  have := h.small x hx
  omega
theorem MOk.del {M : Kvs} (h : MOk M) (k : Bt) : MOk (delL M k) := ⟨delL_srt h.srt k, Nat.le_trans (List.length_filter_le _ _) h.len, fun x hx => h.small x (List.mem_filter.1 hx).1⟩
theorem st_types {sb tb g : Nat} {L : Kvs} {w : World} (h : StAt sb tb g L w) : (∃ cs, w.heap[sb]? = some (.cells cs 37 (0, 0))) ∧ (∃ cs, w.heap[tb]? = some (.cells cs 57 (0, 0))) ∧ (∃ cs, w.heap[g]? = some (.cells cs 88 (0, 0))) := by
  obtain ⟨n, cap, root, f, T, h1, h2⟩ := h.t
  obtain ⟨cur, h3, _⟩ := h1.nb
  exact ⟨⟨_, h.box⟩, ⟨_, h1.box⟩, ⟨_, h3⟩⟩
/-- A store with the pairs M1, the document's with M2, both made since w0. -/
def FJ (sb rb : Nat) (M1 M2 : Kvs) (w0 w : World) : Prop := ∃ tb g v, StAt sb tb g M1 w ∧ RfAt rb v M2 w ∧ Below w0.heap.size w0 w ∧ w0.heap.size ≤ sb ∧ w0.heap.size ≤ tb ∧ w0.heap.size ≤ g ∧ w0.heap.size ≤ rb ∧ ∀ q, v.ownBlock = some q → w0.heap.size ≤ q
theorem FJ.drewN {sb rb : Nat} {M1 M2 : Kvs} {w0 w : World} (h : FJ sb rb M1 M2 w0 w) (m : Nat) : FJ sb rb M1 M2 w0 (w.drewN m) := by
  obtain ⟨tb, g, v, h1, h2, h3, h4⟩ := h
  exact ⟨tb, g, v, h1.drewN m, h2.drewN m, below_drewN h3 m, h4⟩
theorem typ_ne {w : World} {i j : Nat} {c1 c2 : Array Value} {t1 t2 : TypeId} (h1 : w.heap[i]? = some (.cells c1 t1 (0, 0))) (h2 : w.heap[j]? = some (.cells c2 t2 (0, 0))) (hn : t1 ≠ t2) : i ≠ j := fun e => by
  subst e
  rw [h1] at h2
  injection h2 with h2
  injection h2 with _ h2
  exact hn h2
theorem fj_put {sb rb : Nat} {M1 M2 : Kvs} {w0 w : World} (h : FJ sb rb M1 M2 w0 w) (hM : MOk M1) (k v : Bt) (hk : k.length ≤ 9223372036854775807) (hv : v.length ≤ 9223372036854775807) : Calls Tryd.prog 8 #[.pointer (some ⟨sb, 0, none⟩), sv k, sv v] w fun e w1 => e = .returned (.int .i64 (putE M1 k v)) ∧ Hid (FJ sb rb (putS M1 k v) M2 w0 w1) := by
  obtain ⟨tb, g, vr, h1, h2, h3, l1, l2, l3, l4, l5⟩ := h
  refine (sput_any sb tb g M1 w k v h1 hk hv hM.len).mono ?_
  rintro e w1 ⟨rfl, H⟩
  obtain ⟨g', q1, q2, q3⟩ := H.out
  have hs := h3.size
  obtain ⟨⟨c0, t0⟩, ⟨c1, t1⟩, ⟨c2, t2⟩⟩ := st_types h1
  refine ⟨rfl, hidb ⟨tb, g', vr, q1, h2.kt q3 ?_ ?_, h3.trans (q3.toBelow hs (by rintro i (e | e) <;> omega)), l1, l2, by rcases q2 with e | e <;> omega, l4, l5⟩⟩
  · rintro (e | e)
    · exact typ_ne h2.box t1 (by decide) e
    · exact typ_ne h2.box t2 (by decide) e
  · rintro q hq (e | e)
    · subst e; exact absurd (row_typed h2.row hq t1) (by decide)
    · subst e; exact absurd (row_typed h2.row hq t2) (by decide)
theorem fj_rput {sb rb : Nat} {M1 M2 : Kvs} {w0 w : World} (h : FJ sb rb M1 M2 w0 w) (hM : MOk M2) (k v : Bt) (hk : k.length ≤ 9223372036854775807) (hv : v.length ≤ 9223372036854775807) : Calls Tryd.prog 16 #[.pointer (some ⟨rb, 0, none⟩), sv k, sv v] w fun e w1 => e = .returned (.int .i64 (putE M2 k v)) ∧ Hid (FJ sb rb M1 (putS M2 k v) w0 w1) := by
  obtain ⟨tb, g, vr, h1, h2, h3, l1, l2, l3, l4, l5⟩ := h
  refine (rput_any rb vr M2 w k v h2 hM.srt hk hv hM.len).mono ?_
  rintro e w1 ⟨rfl, H⟩
  obtain ⟨v', q1, q2, q3⟩ := H.out
  have hs := h3.size
  obtain ⟨⟨c0, t0⟩, ⟨c1, t1⟩, ⟨c2, t2⟩⟩ := st_types h1
  refine ⟨rfl, hidb ⟨tb, g, v', h1.kt q3 ?_ ?_ ?_, q1, h3.trans (q3.toBelow hs ?_), l1, l2, l3, l4, ?_⟩⟩
  · rintro (e | e)
    · exact typ_ne t0 h2.box (by decide) e
    · exact absurd (row_typed h2.row e t0) (by decide)
  · rintro (e | e)
    · exact typ_ne t1 h2.box (by decide) e
    · exact absurd (row_typed h2.row e t1) (by decide)
  · rintro (e | e)
    · exact typ_ne t2 h2.box (by decide) e
    · exact absurd (row_typed h2.row e t2) (by decide)
  · rintro i (e | e)
    · omega
    · exact l5 i e
  · intro q hq
    rcases q2 with e | e
    · exact l5 q (e ▸ hq)
    · have := e q hq
      omega
/-- The pairs that ops put. -/
def fillL (L : List Opn) : Kvs := L.foldl (fun M o => putS M o.k o.v) []
theorem fill_ok (L : List Opn) : MOk (fillL L) := by
  have : ∀ (L : List Opn) (M : Kvs), MOk M → MOk (L.foldl (fun M o => putS M o.k o.v) M) := fun L => by
    induction L with
    | nil => exact fun M h => h
    | cons o L ih => exact fun M h => ih _ (h.put o.k o.v)
  exact this L [] MOk.nil
theorem fill_snoc (L : List Opn) (o : Opn) : fillL (L ++ [o]) = putS (fillL L) o.k o.v := by
  unfold fillL
  rw [List.foldl_append]
  rfl
theorem take_snocO {C : List Opn} {k : Nat} (h : k < C.length) : C.take (k + 1) = C.take k ++ [C[k]] := by
  rw [List.take_add_one, List.getElem?_eq_getElem h]
  rfl
theorem fj_new {sb : Nat} {w0 w : World} (h : KnS sb [] w0 w) : FJ sb w.heap.size [] [] w0 (w.alloc (.cells #[.slice none 0 0] 28)) := by
  obtain ⟨tb, g, h1, h2, h3, h4, h5⟩ := h
  have hb : Below w.heap.size w (w.alloc (.cells #[.slice none 0 0] 28)) := (Below.refl _ w).alloc (Nat.le_refl _) _
  have hs := h2.size
  exact ⟨tb, g, .slice none 0 0, h1.below hb, ⟨heap_alloc_new w _, World.ownsRow_nil _ _ _ _⟩, h2.trans (hb.mono hs), h3, h4, h5, hs, fun q e => by cases e⟩
end Go.Proofs.YtcjakgogdbfagaaDoor
namespace Go.Proofs.YtcjakgogdbfagaaDoor
open Go.RowKit
theorem FJ.below {sb rb : Nat} {M1 M2 : Kvs} {w0 w w' : World} (h : FJ sb rb M1 M2 w0 w) (k : Below w.heap.size w w') : FJ sb rb M1 M2 w0 w' := by
  obtain ⟨tb, g, v, h1, h2, h3, h4⟩ := h
  exact ⟨tb, g, v, h1.below k, h2.below k, h3.trans (k.mono h3.size), h4⟩
theorem FJ.bel {sb rb : Nat} {M1 M2 : Kvs} {w0 w : World} (h : FJ sb rb M1 M2 w0 w) : Below w0.heap.size w0 w := by
  obtain ⟨tb, g, v, h1, h2, h3, h4⟩ := h
  exact h3
theorem FJ.st {sb rb : Nat} {M1 M2 : Kvs} {w0 w : World} (h : FJ sb rb M1 M2 w0 w) : ∃ tb g, StAt sb tb g M1 w := by
  obtain ⟨tb, g, v, h1, _⟩ := h
  exact ⟨tb, g, h1⟩
/-- A row of pairs lies there. -/
def PRow (va : Option Addr) (n vc : Nat) (X : Kvs) (w : World) : Prop := n = X.length ∧ ∃ B, w.ownsRow B 69 2 (.slice va n vc) X.length (cellsP X)
theorem PRow.below {va : Option Addr} {n vc : Nat} {X : Kvs} {w w' : World} (h : PRow va n vc X w) (k : Below w.heap.size w w') : PRow va n vc X w' := by
  obtain ⟨h1, B, h2⟩ := h
  exact ⟨h1, B, row_below2 h2 k⟩
theorem PRow.drewN {va : Option Addr} {n vc : Nat} {X : Kvs} {w : World} (h : PRow va n vc X w) (m : Nat) : PRow va n vc X (w.drewN m) := h.below (below_drewN (Below.refl _ w) m)
theorem PRow.at {va : Option Addr} {n vc : Nat} {X : Kvs} {w : World} (h : PRow va n vc X w) {k : Nat} (hk : k < X.length) : ∃ g, va = some ⟨g, 0, none⟩ ∧ g < w.heap.size ∧ w.cell? ⟨g, k * 2, none⟩ = some (sv X[k].1) ∧ w.cell? ⟨g, k * 2 + 1, none⟩ = some (sv X[k].2) := by
  obtain ⟨h1, B, h2⟩ := h
  exact row_pair h2 hk
theorem scan_len (L : Kvs) (fr tk : Bt) (m : Int) : (scanL L fr tk m).length ≤ L.length := by
  have h1 : (cutL tk (fromL L fr)).length ≤ L.length := by
    rw [cutL_eq]
    exact Nat.le_trans (List.takeWhile_prefix _).length_le (List.length_filter_le _ _)
  unfold scanL
  split
  · exact h1
  · exact Nat.le_trans (List.length_take_le' _ _) h1
theorem scan_f {sb tb g : Nat} {M : Kvs} {w : World} (h : StAt sb tb g M w) (hM : M.length ≤ 512) (fr tk : Bt) (m : Int) (hm : 0 ≤ m) : Calls Tryd.prog 22 #[.pointer (some ⟨sb, 0, none⟩), sv fr, sv tk, .int .i64 m] w fun e w' => ∃ va n vc, e = .returned (.slice va n vc) ∧ n ≤ 512 ∧ Hid (PRow va n vc (scanL M fr tk m) w' ∧ Below w.heap.size w w') := by
  refine (scan_any sb tb g M fr tk m w h hm (by omega)).mono ?_
  rintro e w' ⟨v, rfl, hr, hb⟩
  obtain ⟨va, vc, rfl, _⟩ := row_form hr
  exact ⟨va, _, vc, rfl, Nat.le_trans (scan_len M fr tk m) hM, hidb ⟨⟨rfl, _, hr⟩, hb⟩⟩
theorem scan_at_in {L : Kvs} {fr tk : Bt} {m : Int} {i : Nat} (h : i < (scanL L fr tk m).length) : ¬ klt (scanL L fr tk m)[i].1 fr ∧ inB tk (scanL L fr tk m)[i] = true := by
  have hmem : (scanL L fr tk m)[i] ∈ cutL tk (fromL L fr) := by
    have h1 := List.getElem_mem h
    unfold scanL at h1 ⊢
    split at h1
    · rename_i e
      simp only [if_pos e]
      exact h1
    · rename_i e
      simp only [if_neg e]
      exact List.mem_of_mem_take h1
  rw [cutL_eq] at hmem
  have h2 : (scanL L fr tk m)[i] ∈ fromL L fr := (List.takeWhile_prefix _).mem hmem
  have h3 : ∀ (l : Kvs) (x : Bt × Bt), x ∈ l.takeWhile (inB tk) → inB tk x = true := fun l => by
    induction l with
    | nil => intro x h; cases h
    | cons y l ih =>
      intro x
      rw [List.takeWhile_cons]
      split
      · rename_i hy
        intro h
        rcases List.mem_cons.1 h with e | e
        · rw [e]; exact hy
        · exact ih x e
      · intro h; cases h
  exact ⟨by have := (List.mem_filter.1 h2).2; simpa using this, h3 _ _ hmem⟩
end Go.Proofs.YtcjakgogdbfagaaDoor
namespace Go.Proofs.YtcjakgogdbfagaaDoor
open Go.RowKit
set_option maxRecDepth 100000 in
set_option maxHeartbeats 400000 in
theorem rget_any (rb : Nat) (v : Value) (L : Kvs) (w : World) (k : Bt) (h : RfAt rb v L w) (s : SrtL L) (hL : L.length ≤ 1000000) :
    Calls Tryd.prog 19 #[.pointer (some ⟨rb, 0, none⟩), sv k] w fun e w' => e = .returned (.tuple #[sv ((getL L k).getD []), .bool (getL L k).isSome]) ∧ ∃ m, w' = w.drewN m := by
  have HF := hidb (rfind_any rb v L w k h s hL)
  cases hg : getL L k with
  | none =>
    rw [hg] at HF
    go_enter Tryd.func19, Tryd.ntmps19
    go_wp2_with (first
      | (go_at_call 41; refine HF.out.mono ?_; clear HF; rintro e w1 ⟨rfl, m1, rfl⟩)
      | fail)
    go_ret2
    exact ⟨rfl, m1, rfl⟩
  | some u =>
    rw [hg] at HF
    obtain ⟨ca, cc, rfl, hcc, hcm⟩ := h.form
    have c0 := h.c
    obtain ⟨hj, ej⟩ : ∃ hj : posL L k < L.length, L[posL L k] = (k, u) := by
      rcases pos_there s (k := k) with ⟨v, e, hp, e2⟩ | ⟨e, _⟩
      · rw [hg] at e
        injection e with e
        subst e
        exact ⟨hp, e2⟩
      · rw [hg] at e; cases e
    obtain ⟨g, eg, hgl, e0, e1⟩ := row_pairR h.row hj
    rw [ej] at e0 e1
    subst eg
    clear h s ej hg
    generalize posL L k = j at *
    generalize L.length = n at *
    have hj0 : (0 : Int) ≤ (j : Int) := by omega
    have hj1 : (j : Int) < (n : Int) := by omega
    simp only at e0 e1
    go_enter Tryd.func19, Tryd.ntmps19
    go_wp2_with (first
      | (go_at_call 41; refine HF.out.mono ?_; clear HF; rintro e w1 ⟨rfl, m1, rfl⟩)
      | fail)
    go_ret2
    exact ⟨rfl, m1, rfl⟩
theorem next_at {L : Kvs} {k : Bt} {i : Nat} (h1 : ∀ x ∈ L.take i, ¬ klt k x.1) (h2 : ∀ h : i < L.length, klt k L[i].1) : nextL L k = L[i]?.map (·.1) := by
  have e : nextL L k = nextL (L.drop i) k := by
    conv => lhs; rw [← List.take_append_drop i L]
    exact nextL_skip h1
  rw [e]
  by_cases h : i < L.length
  · rw [List.drop_eq_getElem_cons h, List.getElem?_eq_getElem h]
    have := h2 h
    generalize L[i] = x at this
    obtain ⟨a, b⟩ := x
    rw [nextL, if_pos this]
    rfl
  · rw [List.drop_eq_nil_of_le (by omega), List.getElem?_eq_none (by omega)]
    rfl
theorem next_there {L : Kvs} (s : SrtL L) {k u : Bt} (hg : getL L k = some u) : nextL L k = L[posL L k + 1]?.map (·.1) := by
  rcases pos_there s (k := k) with ⟨v, e, hp, e2⟩ | ⟨e, _⟩
  · refine next_at (fun x hx => ?_) fun h => ?_
    · rw [List.take_succ_eq_append_getElem hp, List.mem_append, List.mem_singleton] at hx
      rcases hx with hx | rfl
      · exact klt_asymm (pos_before x hx)
      · rw [e2]; exact klt_irr k
    · have := (List.pairwise_iff_getElem.1 s) (posL L k) (posL L k + 1) hp h (by omega)
      rw [e2] at this
      exact this
  · rw [hg] at e; cases e
theorem next_none {L : Kvs} (s : SrtL L) {k : Bt} (hg : getL L k = none) : nextL L k = L[posL L k]?.map (·.1) := by
  rcases pos_there s (k := k) with ⟨v, e, _⟩ | ⟨_, h⟩
  · rw [hg] at e; cases e
  · exact next_at (fun x hx => klt_asymm (pos_before x hx)) h
set_option maxRecDepth 100000 in
set_option maxHeartbeats 400000 in
theorem rnext_any (rb : Nat) (v : Value) (L : Kvs) (w : World) (k : Bt) (h : RfAt rb v L w) (s : SrtL L) (hL : L.length ≤ 1000000) :
    Calls Tryd.prog 20 #[.pointer (some ⟨rb, 0, none⟩), sv k] w fun e w' => e = .returned (.tuple #[sv ((nextL L k).getD []), .bool (nextL L k).isSome]) ∧ ∃ m, w' = w.drewN m := by
  have HF := hidb (rfind_any rb v L w k h s hL)
  obtain ⟨ca, cc, rfl, hcc, hcm⟩ := h.form
  have c0 := h.c
  have hpl := pos_le L k
  obtain ⟨b, d, i, hb, hi, hd, hx⟩ : ∃ b d i, (getL L k).isSome = b ∧ i = posL L k + d ∧ (b = true ∧ d = 1 ∨ b = false ∧ d = 0) ∧ nextL L k = L[i]?.map (·.1) := by
    cases hg : getL L k with
    | none => exact ⟨false, 0, _, rfl, rfl, .inr ⟨rfl, rfl⟩, by rw [Nat.add_zero]; exact next_none s hg⟩
    | some u => exact ⟨true, 1, _, rfl, rfl, .inl ⟨rfl, rfl⟩, next_there s hg⟩
  rw [hb] at HF
  by_cases hl : i < L.length
  · obtain ⟨g, eg, hgl, e0, e1⟩ := row_pairR h.row hl
    rw [hx, List.getElem?_eq_getElem hl]
    simp only [Option.map_some, Option.getD_some, Option.isSome_some]
    subst eg
    generalize L[i].1 = xk at e0
    clear h s hx hb e1
    generalize posL L k = j at *
    generalize L.length = n at *
    have hj0 : (0 : Int) ≤ (i : Int) := by omega
    have hj1 : (i : Int) < (n : Int) := by omega
    rcases hd with ⟨rfl, rfl⟩ | ⟨rfl, rfl⟩
    · subst hi
      go_enter Tryd.func20, Tryd.ntmps20
      go_wp2_with (first
        | (go_at_call 41; refine HF.out.mono ?_; clear HF; rintro e w1 ⟨rfl, m1, rfl⟩)
        | fail)
      go_ret2
      exact ⟨rfl, m1, rfl⟩
    · rw [Nat.add_zero] at hi
      subst hi
      go_enter Tryd.func20, Tryd.ntmps20
      go_wp2_with (first
        | (go_at_call 41; refine HF.out.mono ?_; clear HF; rintro e w1 ⟨rfl, m1, rfl⟩)
        | fail)
      go_ret2
      exact ⟨rfl, m1, rfl⟩
  · rw [hx, List.getElem?_eq_none (by omega)]
    simp only [Option.map_none, Option.getD_none, Option.isSome_none]
    clear h s hx hb
    generalize posL L k = j at *
    generalize L.length = n at *
    rcases hd with ⟨rfl, rfl⟩ | ⟨rfl, rfl⟩
    · subst hi
      have hn : (n : Int) ≤ (j : Int) + 1 := by omega
      go_enter Tryd.func20, Tryd.ntmps20
      go_wp2_with (first
        | (go_at_call 41; refine HF.out.mono ?_; clear HF; rintro e w1 ⟨rfl, m1, rfl⟩)
        | fail)
      go_ret2
      exact ⟨rfl, m1, rfl⟩
    · rw [Nat.add_zero] at hi
      subst hi
      have hn : (n : Int) ≤ (i : Int) := by omega
      go_enter Tryd.func20, Tryd.ntmps20
      go_wp2_with (first
        | (go_at_call 41; refine HF.out.mono ?_; clear HF; rintro e w1 ⟨rfl, m1, rfl⟩)
        | fail)
      go_ret2
      exact ⟨rfl, m1, rfl⟩
end Go.Proofs.YtcjakgogdbfagaaDoor
