/- Layer 11: the law's filled: a store and the document's, of the same pairs. Layer 11: what the laws' stores answer: scans. Layer 11: the document's Get and Next. -/
import Derived.Test.YtcjakgogdbfagaaKF
import Derived.Deep.RegionHeld3
import Derived.Test.YtcjakgogdbfagaaKI
import Derived.Deep.QuietTactic
import Derived.BigQuiet
namespace Go.Proofs.Ytcjakgogdbfagaa
open Go.RowKit
/-- Pairs that a store may have. -/
structure MOk (M : Kvs) : Prop where
  srt : SrtL M
  len : M.length ≤ 512
  small : ∀ x ∈ M, x.1.length ≤ 32 ∧ x.2.length ≤ 256
theorem MOk.nil : MOk [] := ⟨List.Pairwise.nil, by decide, fun x h => by cases h⟩
theorem MOk.put {M : Kvs} (h : MOk M) (k v : Bt) : MOk (putS M k v) := by
  unfold putS
  split
  · exact h
  · rename_i hl
    split
    · exact h
    · rename_i hf
      have hk : k.length ≤ 32 ∧ v.length ≤ 256 := by unfold longB at hl; simp at hl; omega
      refine ⟨putL_srt h.srt k v, ?_, fun x hx => ?_⟩
      · rw [putL_len h.srt]
        have := h.len
        split
        · rename_i e
          have : ¬ 512 ≤ M.length := fun x => hf ⟨e, x⟩
          omega
        · omega
      · rcases mem_putL hx with e | e
        · rw [e]; exact hk
        · exact h.small x e
theorem MOk.big {M : Kvs} (h : MOk M) : ∀ x ∈ M, x.1.length ≤ 281474976710656 ∧ x.2.length ≤ 281474976710656 := fun x hx => by
  have := h.small x hx
  omega
theorem MOk.del {M : Kvs} (h : MOk M) (k : Bt) : MOk (delL M k) := ⟨delL_srt h.srt k, Nat.le_trans (List.length_filter_le _ _) h.len, fun x hx => h.small x (List.mem_filter.1 hx).1⟩
theorem st_types {sb tb g : Nat} {L : Kvs} {w : World} (h : StAt sb tb g L w) : (∃ cs, w.heap[sb]? = some (.cells cs 62 (0, 0))) ∧ (∃ cs, w.heap[tb]? = some (.cells cs 90 (0, 0))) ∧ (∃ cs, w.heap[g]? = some (.cells cs 96 (0, 0))) := by
  obtain ⟨n, cap, root, f, T, h1, h2⟩ := h.t
  obtain ⟨cur, h3, _⟩ := h1.nb
  exact ⟨⟨_, h.box⟩, ⟨_, h1.box⟩, ⟨_, h3⟩⟩
/-- A store with the pairs M1, the document's with M2, both made since w0. -/
def FJ (sb rb : Nat) (M1 M2 : Kvs) (w0 w : World) : Prop := ∃ tb g v, StAt sb tb g M1 w ∧ RfAt rb v M2 w ∧ Below w0.heap.size w0 w ∧ w0.heap.size ≤ sb ∧ w0.heap.size ≤ tb ∧ w0.heap.size ≤ g ∧ w0.heap.size ≤ rb ∧ ∀ q, v.ownBlock = some q → w0.heap.size ≤ q
theorem FJ.drewN {sb rb : Nat} {M1 M2 : Kvs} {w0 w : World} (h : FJ sb rb M1 M2 w0 w) (m : Nat) : FJ sb rb M1 M2 w0 (w.drewN m) := by
  obtain ⟨tb, g, v, h1, h2, h3, h4⟩ := h
  exact ⟨tb, g, v, h1.drewN m, h2.drewN m, below_drewN h3 m, h4⟩
theorem typ_ne {w : World} {i j : Nat} {c1 c2 : Array Value} {t1 t2 : TypeId} (h1 : w.heap[i]? = some (.cells c1 t1 (0, 0))) (h2 : w.heap[j]? = some (.cells c2 t2 (0, 0))) (hn : t1 ≠ t2) : i ≠ j := fun e => by
  subst e
  rw [h1] at h2
  injection h2 with h2
  injection h2 with _ h2
  exact hn h2
theorem fj_put {sb rb : Nat} {M1 M2 : Kvs} {w0 w : World} (h : FJ sb rb M1 M2 w0 w) (hM : MOk M1) (k v : Bt) (hk : k.length ≤ 9223372036854775807) (hv : v.length ≤ 9223372036854775807) : Calls Try.prog 25 #[.pointer (some ⟨sb, 0, none⟩), sv k, sv v] w fun e w1 => e = .returned (.int .i64 (putE M1 k v)) ∧ Hid (FJ sb rb (putS M1 k v) M2 w0 w1) := by
  obtain ⟨tb, g, vr, h1, h2, h3, l1, l2, l3, l4, l5⟩ := h
  refine (sput_any sb tb g M1 w k v h1 hk hv hM.len).mono ?_
  rintro e w1 ⟨rfl, H⟩
  obtain ⟨g', q1, q2, q3⟩ := H.out
  have hs := h3.size
  obtain ⟨⟨c0, t0⟩, ⟨c1, t1⟩, ⟨c2, t2⟩⟩ := st_types h1
  refine ⟨rfl, hidb ⟨tb, g', vr, q1, h2.kt q3 ?_ ?_, h3.trans (q3.toBelow hs (by rintro i (e | e) <;> omega)), l1, l2, by rcases q2 with e | e <;> omega, l4, l5⟩⟩
  · rintro (e | e)
    · exact typ_ne h2.box t1 (by decide) e
    · exact typ_ne h2.box t2 (by decide) e
  · rintro q hq (e | e)
    · subst e; exact absurd (row_typed h2.row hq t1) (by decide)
    · subst e; exact absurd (row_typed h2.row hq t2) (by decide)
theorem fj_rput {sb rb : Nat} {M1 M2 : Kvs} {w0 w : World} (h : FJ sb rb M1 M2 w0 w) (hM : MOk M2) (k v : Bt) (hk : k.length ≤ 9223372036854775807) (hv : v.length ≤ 9223372036854775807) : Calls Try.prog 10 #[.pointer (some ⟨rb, 0, none⟩), sv k, sv v] w fun e w1 => e = .returned (.int .i64 (putE M2 k v)) ∧ Hid (FJ sb rb M1 (putS M2 k v) w0 w1) := by
  obtain ⟨tb, g, vr, h1, h2, h3, l1, l2, l3, l4, l5⟩ := h
  refine (rput_any rb vr M2 w k v h2 hM.srt hk hv hM.len).mono ?_
  rintro e w1 ⟨rfl, H⟩
  obtain ⟨v', q1, q2, q3⟩ := H.out
  have hs := h3.size
  obtain ⟨⟨c0, t0⟩, ⟨c1, t1⟩, ⟨c2, t2⟩⟩ := st_types h1
  refine ⟨rfl, hidb ⟨tb, g, v', h1.kt q3 ?_ ?_ ?_, q1, h3.trans (q3.toBelow hs ?_), l1, l2, l3, l4, ?_⟩⟩
  · rintro (e | e)
    · exact typ_ne t0 h2.box (by decide) e
    · exact absurd (row_typed h2.row e t0) (by decide)
  · rintro (e | e)
    · exact typ_ne t1 h2.box (by decide) e
    · exact absurd (row_typed h2.row e t1) (by decide)
  · rintro (e | e)
    · exact typ_ne t2 h2.box (by decide) e
    · exact absurd (row_typed h2.row e t2) (by decide)
  · rintro i (e | e)
    · omega
    · exact l5 i e
  · intro q hq
    rcases q2 with e | e
    · exact l5 q (e ▸ hq)
    · have := e q hq
      omega
/-- The pairs that ops put. -/
def fillL (L : List Opn) : Kvs := L.foldl (fun M o => putS M o.k o.v) []
theorem fill_ok (L : List Opn) : MOk (fillL L) := by
  have : ∀ (L : List Opn) (M : Kvs), MOk M → MOk (L.foldl (fun M o => putS M o.k o.v) M) := fun L => by
    induction L with
    | nil => exact fun M h => h
    | cons o L ih => exact fun M h => ih _ (h.put o.k o.v)
  exact this L [] MOk.nil
theorem fill_snoc (L : List Opn) (o : Opn) : fillL (L ++ [o]) = putS (fillL L) o.k o.v := by
  unfold fillL
  rw [List.foldl_append]
  rfl
theorem take_snocO {C : List Opn} {k : Nat} (h : k < C.length) : C.take (k + 1) = C.take k ++ [C[k]] := by
  rw [List.take_add_one, List.getElem?_eq_getElem h]
  rfl
theorem fj_new {sb : Nat} {w0 w : World} (h : KnS sb [] w0 w) : FJ sb w.heap.size [] [] w0 (w.alloc (.cells #[.slice none 0 0] 56)) := by
  obtain ⟨tb, g, h1, h2, h3, h4, h5⟩ := h
  have hb : Below w.heap.size w (w.alloc (.cells #[.slice none 0 0] 56)) := (Below.refl _ w).alloc (Nat.le_refl _) _
  have hs := h2.size
  exact ⟨tb, g, .slice none 0 0, h1.below hb, ⟨heap_alloc_new w _, World.ownsRow_nil _ _ _ _⟩, h2.trans (hb.mono hs), h3, h4, h5, hs, fun q e => by cases e⟩
set_option maxRecDepth 100000 in
set_option maxHeartbeats 2000000 in
theorem filled_any (L : List Opn) (a : Option Addr) (n cap : Nat) (w : World) (hn : n = L.length) (hA : OpsAt w a L) (hok : ∀ x ∈ L, x.ok) (_hlen : n ≤ 9223372036854775) :
    Calls Try.prog 4 #[.slice a n cap] w fun e w' => ∃ sb rb, e = .returned (.tuple #[.pointer (some ⟨sb, 0, none⟩), .pointer (some ⟨rb, 0, none⟩)]) ∧ Hid (FJ sb rb (fillL (L.take 700)) (fillL (L.take 700)) w w') := by
  have HN0 := hidb (kn_new w)
  have HM := hidb num11_any
  have Hn := hidb hn
  have HA := hidb (And.intro hA hok)
  clear hn hA hok
  go_enter Try.func4, Try.ntmps4
  go_wp2_with (first
    | (go_at_call 24; refine HN0.out.mono ?_; clear HN0; rintro e w1 ⟨sb, rfl, K1⟩)
    | fail)
  have HJ := hidb (fj_new K1.out)
  have hr0 : ∃ rb, rb = w1.heap.size := ⟨_, rfl⟩
  obtain ⟨rb, hrb⟩ := hr0
  rw [← hrb] at HJ ⊢
  clear hrb K1
  go_loopw [6] (fun iv wr => ∃ i : Nat, iv = .int .i64 i ∧ i ≤ n ∧ i ≤ 700 ∧ Hid (FJ sb rb (fillL (L.take i)) (fillL (L.take i)) w wr)) (fun iv _ => n - (intOf iv).toNat)
  case atStart => exact ⟨0, rfl, Nat.zero_le _, Nat.zero_le _, HJ⟩
  case round =>
    obtain ⟨i, rfl, hi, hi7, HK⟩ := hrel
    by_cases hlt : i < n
    · by_cases h7 : i < 700
      · have hil : i < L.length := by rw [← Hn.out]; exact hlt
        have hd1 : decide ((i : Int) < n) = true := by simp; omega
        have hd2 : decide ((i : Int) < 700) = true := by simp; omega
        obtain ⟨b, off, ea, hbl, hcs⟩ : ∃ b off, a = some ⟨b, off, none⟩ ∧ b < w.heap.size ∧ ∀ j (h : j < L.length), w.cell? ⟨b, off + j * 4, none⟩ = some (.int .i64 L[j].kd) ∧ w.cell? ⟨b, off + j * 4 + 1, none⟩ = some (.int .i64 L[j].nn) ∧ w.cell? ⟨b, off + j * 4 + 2, none⟩ = some (sv L[j].k) ∧ w.cell? ⟨b, off + j * 4 + 3, none⟩ = some (sv L[j].v) := by
          rcases HA.out.1 with h | h
          · rw [h] at hil; cases hil
          · exact h
        obtain ⟨_, _, c2, c3⟩ := hcs i hil
        have hox := HA.out.2 L[i] (List.getElem_mem hil)
        have hk : L[i].k.length ≤ 9223372036854775807 := hox.2.2.1
        have hv : L[i].v.length ≤ 9223372036854775807 := hox.2.2.2
        have HS := hidb (fill_snoc (L.take i) L[i])
        rw [← take_snocO hil] at HS
        have hok := fill_ok (L.take i)
        have hSk : ∀ M1 M2 W, FJ sb rb M1 M2 w W → W.cell? ⟨b, off + i * 4 + 2, none⟩ = some (sv L[i].k) ∧ W.cell? ⟨b, off + i * 4 + 3, none⟩ = some (sv L[i].v) := fun M1 M2 W h => by
          obtain ⟨_, _, _, _, _, hb, _⟩ := h
          exact ⟨(hb.cell (p := ⟨b, off + i * 4 + 2, none⟩) hbl).trans c2, (hb.cell (p := ⟨b, off + i * 4 + 3, none⟩) hbl).trans c3⟩
        have HP : Hid (∀ M, Calls Try.prog 25 #[.pointer (some ⟨sb, 0, none⟩), sv L[i].k, sv L[i].v] (wr.drewN M) fun e w2 => e = .returned (.int .i64 (putE (fillL (L.take i)) L[i].k L[i].v)) ∧ (w2.cell? ⟨b, off + i * 4 + 2, none⟩ = some (sv L[i].k) ∧ w2.cell? ⟨b, off + i * 4 + 3, none⟩ = some (sv L[i].v)) ∧ Hid (Calls Try.prog 10 #[.pointer (some ⟨rb, 0, none⟩), sv L[i].k, sv L[i].v] w2 fun e w3 => e = .returned (.int .i64 (putE (fillL (L.take i)) L[i].k L[i].v)) ∧ (w3.cell? ⟨b, off + i * 4 + 2, none⟩ = some (sv L[i].k) ∧ w3.cell? ⟨b, off + i * 4 + 3, none⟩ = some (sv L[i].v)) ∧ Hid (FJ sb rb (fillL (L.take (i + 1))) (fillL (L.take (i + 1))) w w3))) := hidb fun M => by
          refine (fj_put (HK.out.drewN M) hok L[i].k L[i].v hk hv).mono ?_
          rintro e w2 ⟨e1, H2⟩
          refine ⟨e1, hSk _ _ _ H2.out, hidb ((fj_rput H2.out hok L[i].k L[i].v hk hv).mono ?_)⟩
          rintro e w3 ⟨e2, H3⟩
          refine ⟨e2, hSk _ _ _ H3.out, hidb ?_⟩
          rw [HS.out]
          exact H3.out
        have hS0 := hSk _ _ _ HK.out
        rw [ea]
        have HEa := hidb ea
        obtain ⟨pe, hpe⟩ : ∃ pe, pe = putE (fillL (L.take i)) L[i].k L[i].v := ⟨_, rfl⟩
        rw [← hpe] at HP
        have hpb : 0 ≤ pe ∧ pe ≤ 45 := by
          rw [hpe]
          unfold putE
          split
          · omega
          · split <;> omega
        generalize L[i].k = ok at HP hS0
        generalize L[i].v = ov at HP hS0
        clear hSk hcs c2 c3 hox hk hv HS hok ea hpe
        obtain ⟨d2, d3⟩ := hS0
        go_wp2_with fail
        go_region_held3 (fun W => W.cell? ⟨b, off + i * 4 + 2, none⟩ = some (sv ok) ∧ W.cell? ⟨b, off + i * 4 + 3, none⟩ = some (sv ov)) (first | go_keep | exact ⟨x2, x3⟩ | exact ⟨y2, y3⟩ | exact ⟨d2, d3⟩) (first
          | (go_at_call 25; refine (HP.out _).mono ?_; clear HP; rintro e w2 ⟨rfl, ⟨x2, x3⟩, HP2⟩)
          | (go_at_call 8; refine (HM.out _ _).mono ?_; rintro e wn ⟨rfl, rfl⟩)
          | (go_at_call 10; refine HP2.out.mono ?_; clear HP2; rintro e w3 ⟨rfl, ⟨y2, y3⟩, HP3⟩))
        go_wp2_with fail
        exact ⟨⟨i + 1, by go_num, by omega, by omega, HP3⟩, by simp [intOf]; omega⟩
      · have hd1 : decide ((i : Int) < n) = true := by simp; omega
        have hd2 : decide ((i : Int) < 700) = false := by simp; omega
        have e7 : i = 700 := by omega
        rw [e7] at HK
        clear e7
        go_wp2_with fail
        go_ret2
        exact ⟨sb, rb, rfl, HK⟩
    · have hd1 : decide ((i : Int) < n) = false := by simp; omega
      have et : L.take i = L.take 700 := by
        rw [List.take_of_length_le (by rw [← Hn.out]; omega), List.take_of_length_le (by rw [← Hn.out]; omega)]
      rw [et] at HK
      clear et
      go_wp2_with fail
      go_ret2
      exact ⟨sb, rb, rfl, HK⟩
end Go.Proofs.Ytcjakgogdbfagaa
namespace Go.Proofs.Ytcjakgogdbfagaa
open Go.RowKit
theorem FJ.below {sb rb : Nat} {M1 M2 : Kvs} {w0 w w' : World} (h : FJ sb rb M1 M2 w0 w) (k : Below w.heap.size w w') : FJ sb rb M1 M2 w0 w' := by
  obtain ⟨tb, g, v, h1, h2, h3, h4⟩ := h
  exact ⟨tb, g, v, h1.below k, h2.below k, h3.trans (k.mono h3.size), h4⟩
theorem FJ.bel {sb rb : Nat} {M1 M2 : Kvs} {w0 w : World} (h : FJ sb rb M1 M2 w0 w) : Below w0.heap.size w0 w := by
  obtain ⟨tb, g, v, h1, h2, h3, h4⟩ := h
  exact h3
theorem FJ.st {sb rb : Nat} {M1 M2 : Kvs} {w0 w : World} (h : FJ sb rb M1 M2 w0 w) : ∃ tb g, StAt sb tb g M1 w := by
  obtain ⟨tb, g, v, h1, _⟩ := h
  exact ⟨tb, g, h1⟩
/-- A row of pairs lies there. -/
def PRow (va : Option Addr) (n vc : Nat) (X : Kvs) (w : World) : Prop := n = X.length ∧ ∃ B, w.ownsRow B 75 2 (.slice va n vc) X.length (cellsP X)
theorem PRow.below {va : Option Addr} {n vc : Nat} {X : Kvs} {w w' : World} (h : PRow va n vc X w) (k : Below w.heap.size w w') : PRow va n vc X w' := by
  obtain ⟨h1, B, h2⟩ := h
  exact ⟨h1, B, row_below2 h2 k⟩
theorem PRow.drewN {va : Option Addr} {n vc : Nat} {X : Kvs} {w : World} (h : PRow va n vc X w) (m : Nat) : PRow va n vc X (w.drewN m) := h.below (below_drewN (Below.refl _ w) m)
theorem PRow.at {va : Option Addr} {n vc : Nat} {X : Kvs} {w : World} (h : PRow va n vc X w) {k : Nat} (hk : k < X.length) : ∃ g, va = some ⟨g, 0, none⟩ ∧ g < w.heap.size ∧ w.cell? ⟨g, k * 2, none⟩ = some (sv X[k].1) ∧ w.cell? ⟨g, k * 2 + 1, none⟩ = some (sv X[k].2) := by
  obtain ⟨h1, B, h2⟩ := h
  exact row_pair h2 hk
theorem scan_len (L : Kvs) (fr tk : Bt) (m : Int) : (scanL L fr tk m).length ≤ L.length := by
  have h1 : (cutL tk (fromL L fr)).length ≤ L.length := by
    rw [cutL_eq]
    exact Nat.le_trans (List.takeWhile_prefix _).length_le (List.length_filter_le _ _)
  unfold scanL
  split
  · exact h1
  · exact Nat.le_trans (List.length_take_le' _ _) h1
theorem scan_at_in {L : Kvs} {fr tk : Bt} {m : Int} {i : Nat} (h : i < (scanL L fr tk m).length) : ¬ klt (scanL L fr tk m)[i].1 fr ∧ inB tk (scanL L fr tk m)[i] = true := by
  have hmem : (scanL L fr tk m)[i] ∈ cutL tk (fromL L fr) := by
    have h1 := List.getElem_mem h
    unfold scanL at h1 ⊢
    split at h1
    · rename_i e
      simp only [if_pos e]
      exact h1
    · rename_i e
      simp only [if_neg e]
      exact List.mem_of_mem_take h1
  rw [cutL_eq] at hmem
  have h2 : (scanL L fr tk m)[i] ∈ fromL L fr := (List.takeWhile_prefix _).mem hmem
  have h3 : ∀ (l : Kvs) (x : Bt × Bt), x ∈ l.takeWhile (inB tk) → inB tk x = true := fun l => by
    induction l with
    | nil => intro x h; cases h
    | cons y l ih =>
      intro x
      rw [List.takeWhile_cons]
      split
      · rename_i hy
        intro h
        rcases List.mem_cons.1 h with e | e
        · rw [e]; exact hy
        · exact ih x e
      · intro h; cases h
  exact ⟨by have := (List.mem_filter.1 h2).2; simpa using this, h3 _ _ hmem⟩
end Go.Proofs.Ytcjakgogdbfagaa
namespace Go.Proofs.Ytcjakgogdbfagaa
open Go.RowKit
set_option maxRecDepth 100000 in
set_option maxHeartbeats 400000 in
theorem rget_any (rb : Nat) (v : Value) (L : Kvs) (w : World) (k : Bt) (h : RfAt rb v L w) (s : SrtL L) (hL : L.length ≤ 1000000) :
    Calls Try.prog 14 #[.pointer (some ⟨rb, 0, none⟩), sv k] w fun e w' => e = .returned (.tuple #[sv ((getL L k).getD []), .bool (getL L k).isSome]) ∧ ∃ m, w' = w.drewN m := by
  have HF := hidb (rfind_any rb v L w k h s hL)
  cases hg : getL L k with
  | none =>
    rw [hg] at HF
    go_enter Try.func14, Try.ntmps14
    go_wp2_with (first
      | (go_at_call 37; refine HF.out.mono ?_; clear HF; rintro e w1 ⟨rfl, m1, rfl⟩)
      | fail)
    go_ret2
    exact ⟨rfl, m1, rfl⟩
  | some u =>
    rw [hg] at HF
    obtain ⟨ca, cc, rfl, hcc, hcm⟩ := h.form
    have c0 := h.c
    obtain ⟨hj, ej⟩ : ∃ hj : posL L k < L.length, L[posL L k] = (k, u) := by
      rcases pos_there s (k := k) with ⟨v, e, hp, e2⟩ | ⟨e, _⟩
      · rw [hg] at e
        injection e with e
        subst e
        exact ⟨hp, e2⟩
      · rw [hg] at e; cases e
    obtain ⟨g, eg, hgl, e0, e1⟩ := row_pairR h.row hj
    rw [ej] at e0 e1
    subst eg
    clear h s ej hg
    generalize posL L k = j at *
    generalize L.length = n at *
    have hj0 : (0 : Int) ≤ (j : Int) := by omega
    have hj1 : (j : Int) < (n : Int) := by omega
    simp only at e0 e1
    go_enter Try.func14, Try.ntmps14
    go_wp2_with (first
      | (go_at_call 37; refine HF.out.mono ?_; clear HF; rintro e w1 ⟨rfl, m1, rfl⟩)
      | fail)
    go_ret2
    exact ⟨rfl, m1, rfl⟩
theorem next_at {L : Kvs} {k : Bt} {i : Nat} (h1 : ∀ x ∈ L.take i, ¬ klt k x.1) (h2 : ∀ h : i < L.length, klt k L[i].1) : nextL L k = L[i]?.map (·.1) := by
  have e : nextL L k = nextL (L.drop i) k := by
    conv => lhs; rw [← List.take_append_drop i L]
    exact nextL_skip h1
  rw [e]
  by_cases h : i < L.length
  · rw [List.drop_eq_getElem_cons h, List.getElem?_eq_getElem h]
    have := h2 h
    generalize L[i] = x at this
    obtain ⟨a, b⟩ := x
    rw [nextL, if_pos this]
    rfl
  · rw [List.drop_eq_nil_of_le (by omega), List.getElem?_eq_none (by omega)]
    rfl
theorem next_there {L : Kvs} (s : SrtL L) {k u : Bt} (hg : getL L k = some u) : nextL L k = L[posL L k + 1]?.map (·.1) := by
  rcases pos_there s (k := k) with ⟨v, e, hp, e2⟩ | ⟨e, _⟩
  · refine next_at (fun x hx => ?_) fun h => ?_
    · rw [List.take_succ_eq_append_getElem hp, List.mem_append, List.mem_singleton] at hx
      rcases hx with hx | rfl
      · exact klt_asymm (pos_before x hx)
      · rw [e2]; exact klt_irr k
    · have := (List.pairwise_iff_getElem.1 s) (posL L k) (posL L k + 1) hp h (by omega)
      rw [e2] at this
      exact this
  · rw [hg] at e; cases e
theorem next_none {L : Kvs} (s : SrtL L) {k : Bt} (hg : getL L k = none) : nextL L k = L[posL L k]?.map (·.1) := by
  rcases pos_there s (k := k) with ⟨v, e, _⟩ | ⟨_, h⟩
  · rw [hg] at e; cases e
  · exact next_at (fun x hx => klt_asymm (pos_before x hx)) h
set_option maxRecDepth 100000 in
set_option maxHeartbeats 400000 in
theorem rnext_any (rb : Nat) (v : Value) (L : Kvs) (w : World) (k : Bt) (h : RfAt rb v L w) (s : SrtL L) (hL : L.length ≤ 1000000) :
    Calls Try.prog 16 #[.pointer (some ⟨rb, 0, none⟩), sv k] w fun e w' => e = .returned (.tuple #[sv ((nextL L k).getD []), .bool (nextL L k).isSome]) ∧ ∃ m, w' = w.drewN m := by
  have HF := hidb (rfind_any rb v L w k h s hL)
  obtain ⟨ca, cc, rfl, hcc, hcm⟩ := h.form
  have c0 := h.c
  have hpl := pos_le L k
  obtain ⟨b, d, i, hb, hi, hd, hx⟩ : ∃ b d i, (getL L k).isSome = b ∧ i = posL L k + d ∧ (b = true ∧ d = 1 ∨ b = false ∧ d = 0) ∧ nextL L k = L[i]?.map (·.1) := by
    cases hg : getL L k with
    | none => exact ⟨false, 0, _, rfl, rfl, .inr ⟨rfl, rfl⟩, by rw [Nat.add_zero]; exact next_none s hg⟩
    | some u => exact ⟨true, 1, _, rfl, rfl, .inl ⟨rfl, rfl⟩, next_there s hg⟩
  rw [hb] at HF
  by_cases hl : i < L.length
  · obtain ⟨g, eg, hgl, e0, e1⟩ := row_pairR h.row hl
    rw [hx, List.getElem?_eq_getElem hl]
    simp only [Option.map_some, Option.getD_some, Option.isSome_some]
    subst eg
    generalize L[i].1 = xk at e0
    clear h s hx hb e1
    generalize posL L k = j at *
    generalize L.length = n at *
    have hj0 : (0 : Int) ≤ (i : Int) := by omega
    have hj1 : (i : Int) < (n : Int) := by omega
    rcases hd with ⟨rfl, rfl⟩ | ⟨rfl, rfl⟩
    · subst hi
      go_enter Try.func16, Try.ntmps16
      go_wp2_with (first
        | (go_at_call 37; refine HF.out.mono ?_; clear HF; rintro e w1 ⟨rfl, m1, rfl⟩)
        | fail)
      go_ret2
      exact ⟨rfl, m1, rfl⟩
    · rw [Nat.add_zero] at hi
      subst hi
      go_enter Try.func16, Try.ntmps16
      go_wp2_with (first
        | (go_at_call 37; refine HF.out.mono ?_; clear HF; rintro e w1 ⟨rfl, m1, rfl⟩)
        | fail)
      go_ret2
      exact ⟨rfl, m1, rfl⟩
  · rw [hx, List.getElem?_eq_none (by omega)]
    simp only [Option.map_none, Option.getD_none, Option.isSome_none]
    clear h s hx hb
    generalize posL L k = j at *
    generalize L.length = n at *
    rcases hd with ⟨rfl, rfl⟩ | ⟨rfl, rfl⟩
    · subst hi
      have hn : (n : Int) ≤ (j : Int) + 1 := by omega
      go_enter Try.func16, Try.ntmps16
      go_wp2_with (first
        | (go_at_call 37; refine HF.out.mono ?_; clear HF; rintro e w1 ⟨rfl, m1, rfl⟩)
        | fail)
      go_ret2
      exact ⟨rfl, m1, rfl⟩
    · rw [Nat.add_zero] at hi
      subst hi
      have hn : (n : Int) ≤ (i : Int) := by omega
      go_enter Try.func16, Try.ntmps16
      go_wp2_with (first
        | (go_at_call 37; refine HF.out.mono ?_; clear HF; rintro e w1 ⟨rfl, m1, rfl⟩)
        | fail)
      go_ret2
      exact ⟨rfl, m1, rfl⟩
end Go.Proofs.Ytcjakgogdbfagaa
