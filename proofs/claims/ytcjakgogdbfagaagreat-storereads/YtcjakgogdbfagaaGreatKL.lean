/- Layer 11: the law's filled: a store and the document's, of the same pairs. Layer 11: what the laws' stores answer: scans. Layer 11: a transaction's Wipe. -/
import Derived.Test.YtcjakgogdbfagaaGreatKF
import Derived.Deep.RegionHeld3
import Derived.Test.YtcjakgogdbfagaaGreatKI
import Derived.Test.YtcjakgogdbfagaaGreatQZ
namespace Go.Proofs.YtcjakgogdbfagaaGreat
open Go.RowKit
/-- Pairs that a store may have. -/
structure MOk (M : Kvs) : Prop where
  srt : SrtL M
  len : M.length ≤ 512
  small : ∀ x ∈ M, x.1.length ≤ 32 ∧ x.2.length ≤ 256
theorem MOk.nil : MOk [] := ⟨List.Pairwise.nil, by decide, fun x h => by cases h⟩
theorem MOk.put {M : Kvs} (h : MOk M) (k v : Bt) : MOk (putS M k v) := by
  unfold putS
  split
  · exact h
  · rename_i hl
    split
    · exact h
    · rename_i hf
      have hk : k.length ≤ 32 ∧ v.length ≤ 256 := by unfold longB at hl; simp at hl; omega
      refine ⟨putL_srt h.srt k v, ?_, fun x hx => ?_⟩
      · rw [putL_len h.srt]
        have := h.len
        split
        · rename_i e
          have : ¬ 512 ≤ M.length := fun x => hf ⟨e, x⟩
          omega
        · omega
      · rcases mem_putL hx with e | e
        · rw [e]; exact hk
        · exact h.small x e
theorem MOk.big {M : Kvs} (h : MOk M) : ∀ x ∈ M, x.1.length ≤ 281474976710656 ∧ x.2.length ≤ 281474976710656 := fun x hx => by
  have := h.small x hx
  omega
theorem MOk.del {M : Kvs} (h : MOk M) (k : Bt) : MOk (delL M k) := ⟨delL_srt h.srt k, Nat.le_trans (List.length_filter_le _ _) h.len, fun x hx => h.small x (List.mem_filter.1 hx).1⟩
theorem st_types {sb tb g : Nat} {L : Kvs} {w : World} (h : StAt sb tb g L w) : (∃ cs, w.heap[sb]? = some (.cells cs 49 (0, 0))) ∧ (∃ cs, w.heap[tb]? = some (.cells cs 79 (0, 0))) ∧ (∃ cs, w.heap[g]? = some (.cells cs 86 (0, 0))) := by
  obtain ⟨n, cap, root, f, T, h1, h2⟩ := h.t
  obtain ⟨cur, h3, _⟩ := h1.nb
  exact ⟨⟨_, h.box⟩, ⟨_, h1.box⟩, ⟨_, h3⟩⟩
/-- A store with the pairs M1, the document's with M2, both made since w0. -/
def FJ (sb rb : Nat) (M1 M2 : Kvs) (w0 w : World) : Prop := ∃ tb g v, StAt sb tb g M1 w ∧ RfAt rb v M2 w ∧ Below w0.heap.size w0 w ∧ w0.heap.size ≤ sb ∧ w0.heap.size ≤ tb ∧ w0.heap.size ≤ g ∧ w0.heap.size ≤ rb ∧ ∀ q, v.ownBlock = some q → w0.heap.size ≤ q
theorem FJ.drewN {sb rb : Nat} {M1 M2 : Kvs} {w0 w : World} (h : FJ sb rb M1 M2 w0 w) (m : Nat) : FJ sb rb M1 M2 w0 (w.drewN m) := by
  obtain ⟨tb, g, v, h1, h2, h3, h4⟩ := h
  exact ⟨tb, g, v, h1.drewN m, h2.drewN m, below_drewN h3 m, h4⟩
theorem typ_ne {w : World} {i j : Nat} {c1 c2 : Array Value} {t1 t2 : TypeId} (h1 : w.heap[i]? = some (.cells c1 t1 (0, 0))) (h2 : w.heap[j]? = some (.cells c2 t2 (0, 0))) (hn : t1 ≠ t2) : i ≠ j := fun e => by
  subst e
  rw [h1] at h2
  injection h2 with h2
  injection h2 with _ h2
  exact hn h2
theorem fj_put {sb rb : Nat} {M1 M2 : Kvs} {w0 w : World} (h : FJ sb rb M1 M2 w0 w) (hM : MOk M1) (k v : Bt) (hk : k.length ≤ 9223372036854775807) (hv : v.length ≤ 9223372036854775807) : Calls Tryz.prog 35 #[.pointer (some ⟨sb, 0, none⟩), sv k, sv v] w fun e w1 => e = .returned (.int .i64 (putE M1 k v)) ∧ Hid (FJ sb rb (putS M1 k v) M2 w0 w1) := by
  obtain ⟨tb, g, vr, h1, h2, h3, l1, l2, l3, l4, l5⟩ := h
  refine (sput_any sb tb g M1 w k v h1 hk hv hM.len).mono ?_
  rintro e w1 ⟨rfl, H⟩
  obtain ⟨g', q1, q2, q3⟩ := H.out
  have hs := h3.size
  obtain ⟨⟨c0, t0⟩, ⟨c1, t1⟩, ⟨c2, t2⟩⟩ := st_types h1
  refine ⟨rfl, hidb ⟨tb, g', vr, q1, h2.kt q3 ?_ ?_, h3.trans (q3.toBelow hs (by rintro i (e | e) <;> omega)), l1, l2, by rcases q2 with e | e <;> omega, l4, l5⟩⟩
  · rintro (e | e)
    · exact typ_ne h2.box t1 (by decide) e
    · exact typ_ne h2.box t2 (by decide) e
  · rintro q hq (e | e)
    · subst e; exact absurd (row_typed h2.row hq t1) (by decide)
    · subst e; exact absurd (row_typed h2.row hq t2) (by decide)
theorem fj_rput {sb rb : Nat} {M1 M2 : Kvs} {w0 w : World} (h : FJ sb rb M1 M2 w0 w) (hM : MOk M2) (k v : Bt) (hk : k.length ≤ 9223372036854775807) (hv : v.length ≤ 9223372036854775807) : Calls Tryz.prog 23 #[.pointer (some ⟨rb, 0, none⟩), sv k, sv v] w fun e w1 => e = .returned (.int .i64 (putE M2 k v)) ∧ Hid (FJ sb rb M1 (putS M2 k v) w0 w1) := by
  obtain ⟨tb, g, vr, h1, h2, h3, l1, l2, l3, l4, l5⟩ := h
  refine (rput_any rb vr M2 w k v h2 hM.srt hk hv hM.len).mono ?_
  rintro e w1 ⟨rfl, H⟩
  obtain ⟨v', q1, q2, q3⟩ := H.out
  have hs := h3.size
  obtain ⟨⟨c0, t0⟩, ⟨c1, t1⟩, ⟨c2, t2⟩⟩ := st_types h1
  refine ⟨rfl, hidb ⟨tb, g, v', h1.kt q3 ?_ ?_ ?_, q1, h3.trans (q3.toBelow hs ?_), l1, l2, l3, l4, ?_⟩⟩
  · rintro (e | e)
    · exact typ_ne t0 h2.box (by decide) e
    · exact absurd (row_typed h2.row e t0) (by decide)
  · rintro (e | e)
    · exact typ_ne t1 h2.box (by decide) e
    · exact absurd (row_typed h2.row e t1) (by decide)
  · rintro (e | e)
    · exact typ_ne t2 h2.box (by decide) e
    · exact absurd (row_typed h2.row e t2) (by decide)
  · rintro i (e | e)
    · omega
    · exact l5 i e
  · intro q hq
    rcases q2 with e | e
    · exact l5 q (e ▸ hq)
    · have := e q hq
      omega
/-- The pairs that ops put. -/
def fillL (L : List Opn) : Kvs := L.foldl (fun M o => putS M o.k o.v) []
theorem fill_ok (L : List Opn) : MOk (fillL L) := by
  have : ∀ (L : List Opn) (M : Kvs), MOk M → MOk (L.foldl (fun M o => putS M o.k o.v) M) := fun L => by
    induction L with
    | nil => exact fun M h => h
    | cons o L ih => exact fun M h => ih _ (h.put o.k o.v)
  exact this L [] MOk.nil
theorem fill_snoc (L : List Opn) (o : Opn) : fillL (L ++ [o]) = putS (fillL L) o.k o.v := by
  unfold fillL
  rw [List.foldl_append]
  rfl
theorem take_snocO {C : List Opn} {k : Nat} (h : k < C.length) : C.take (k + 1) = C.take k ++ [C[k]] := by
  rw [List.take_add_one, List.getElem?_eq_getElem h]
  rfl
theorem fj_new {sb : Nat} {w0 w : World} (h : KnS sb [] w0 w) : FJ sb w.heap.size [] [] w0 (w.alloc (.cells #[.slice none 0 0] 37)) := by
  obtain ⟨tb, g, h1, h2, h3, h4, h5⟩ := h
  have hb : Below w.heap.size w (w.alloc (.cells #[.slice none 0 0] 37)) := (Below.refl _ w).alloc (Nat.le_refl _) _
  have hs := h2.size
  exact ⟨tb, g, .slice none 0 0, h1.below hb, ⟨heap_alloc_new w _, World.ownsRow_nil _ _ _ _⟩, h2.trans (hb.mono hs), h3, h4, h5, hs, fun q e => by cases e⟩
end Go.Proofs.YtcjakgogdbfagaaGreat
namespace Go.Proofs.YtcjakgogdbfagaaGreat
open Go.RowKit
theorem FJ.below {sb rb : Nat} {M1 M2 : Kvs} {w0 w w' : World} (h : FJ sb rb M1 M2 w0 w) (k : Below w.heap.size w w') : FJ sb rb M1 M2 w0 w' := by
  obtain ⟨tb, g, v, h1, h2, h3, h4⟩ := h
  exact ⟨tb, g, v, h1.below k, h2.below k, h3.trans (k.mono h3.size), h4⟩
theorem FJ.bel {sb rb : Nat} {M1 M2 : Kvs} {w0 w : World} (h : FJ sb rb M1 M2 w0 w) : Below w0.heap.size w0 w := by
  obtain ⟨tb, g, v, h1, h2, h3, h4⟩ := h
  exact h3
theorem FJ.st {sb rb : Nat} {M1 M2 : Kvs} {w0 w : World} (h : FJ sb rb M1 M2 w0 w) : ∃ tb g, StAt sb tb g M1 w := by
  obtain ⟨tb, g, v, h1, _⟩ := h
  exact ⟨tb, g, h1⟩
/-- A row of pairs lies there. -/
def PRow (va : Option Addr) (n vc : Nat) (X : Kvs) (w : World) : Prop := n = X.length ∧ ∃ B, w.ownsRow B 108 2 (.slice va n vc) X.length (cellsP X)
theorem PRow.below {va : Option Addr} {n vc : Nat} {X : Kvs} {w w' : World} (h : PRow va n vc X w) (k : Below w.heap.size w w') : PRow va n vc X w' := by
  obtain ⟨h1, B, h2⟩ := h
  exact ⟨h1, B, row_below2 h2 k⟩
theorem PRow.drewN {va : Option Addr} {n vc : Nat} {X : Kvs} {w : World} (h : PRow va n vc X w) (m : Nat) : PRow va n vc X (w.drewN m) := h.below (below_drewN (Below.refl _ w) m)
theorem PRow.at {va : Option Addr} {n vc : Nat} {X : Kvs} {w : World} (h : PRow va n vc X w) {k : Nat} (hk : k < X.length) : ∃ g, va = some ⟨g, 0, none⟩ ∧ g < w.heap.size ∧ w.cell? ⟨g, k * 2, none⟩ = some (sv X[k].1) ∧ w.cell? ⟨g, k * 2 + 1, none⟩ = some (sv X[k].2) := by
  obtain ⟨h1, B, h2⟩ := h
  exact row_pair h2 hk
theorem scan_len (L : Kvs) (fr tk : Bt) (m : Int) : (scanL L fr tk m).length ≤ L.length := by
  have h1 : (cutL tk (fromL L fr)).length ≤ L.length := by
    rw [cutL_eq]
    exact Nat.le_trans (List.takeWhile_prefix _).length_le (List.length_filter_le _ _)
  unfold scanL
  split
  · exact h1
  · exact Nat.le_trans (List.length_take_le' _ _) h1
theorem scan_at_in {L : Kvs} {fr tk : Bt} {m : Int} {i : Nat} (h : i < (scanL L fr tk m).length) : ¬ klt (scanL L fr tk m)[i].1 fr ∧ inB tk (scanL L fr tk m)[i] = true := by
  have hmem : (scanL L fr tk m)[i] ∈ cutL tk (fromL L fr) := by
    have h1 := List.getElem_mem h
    unfold scanL at h1 ⊢
    split at h1
    · rename_i e
      simp only [if_pos e]
      exact h1
    · rename_i e
      simp only [if_neg e]
      exact List.mem_of_mem_take h1
  rw [cutL_eq] at hmem
  have h2 : (scanL L fr tk m)[i] ∈ fromL L fr := (List.takeWhile_prefix _).mem hmem
  have h3 : ∀ (l : Kvs) (x : Bt × Bt), x ∈ l.takeWhile (inB tk) → inB tk x = true := fun l => by
    induction l with
    | nil => intro x h; cases h
    | cons y l ih =>
      intro x
      rw [List.takeWhile_cons]
      split
      · rename_i hy
        intro h
        rcases List.mem_cons.1 h with e | e
        · rw [e]; exact hy
        · exact ih x e
      · intro h; cases h
  exact ⟨by have := (List.mem_filter.1 h2).2; simpa using this, h3 _ _ hmem⟩
end Go.Proofs.YtcjakgogdbfagaaGreat
namespace Go.Proofs.YtcjakgogdbfagaaGreat
open Go.RowKit
theorem TxAt.wipePut {b : TxB} {L S D D' : Kvs} {more : Int} {w w' : World} {wg' : Nat} (h : TxAt b L S D more w) (t : TreeAt b.wb wg' D' w') (hs : wg' = b.wg ∨ w.heap.size ≤ wg') (k : Kt (fun i => i = b.wb ∨ i = b.wg) w w') : TxAt { b with wg := wg' } L S D' more w' :=
  ⟨(k.block _ (heap_ltb h.box) (fun e => e.elim (fun e => h.nd.xw e) (fun e => h.nd.xv e))).trans h.box, (k.block _ (heap_ltb h.cbx) (fun e => e.elim (fun e => h.nd.cw e) (fun e => h.nd.cv e))).trans h.cbx, h.t.kt k (fun e => e.elim (fun e => h.nd.tw e) (fun e => h.nd.tv e)) (fun e => e.elim (fun e => h.nd.gw e) (fun e => h.nd.gv e)), h.s.kt k (fun e => e.elim (fun e => h.nd.sw e) (fun e => h.nd.sv e)) (fun e => e.elim (fun e => h.nd.hw e) (fun e => h.nd.hv e)), t,
    ⟨h.nd.xc, h.nd.xt, h.nd.xg, h.nd.xs, h.nd.xh, h.nd.xw, ne_new (heap_ltb h.box) h.nd.xv hs, h.nd.ct, h.nd.cg, h.nd.cs, h.nd.ch, h.nd.cw, ne_new (heap_ltb h.cbx) h.nd.cv hs, h.nd.tg, h.nd.ts, h.nd.th, h.nd.tw, ne_new (h.t.lts.1) h.nd.tv hs, h.nd.gs, h.nd.gh, h.nd.gw, ne_new (h.t.lts.2.1) h.nd.gv hs, h.nd.sh, h.nd.sw, ne_new (h.s.lts.1) h.nd.sv hs, h.nd.hw, ne_new (h.s.lts.2.1) h.nd.hv hs, ne_new (h.d.lts.1) h.nd.wv hs⟩⟩
/-- What Wipe leaves. -/
def WpEnd (b : TxB) (L S' D' : Kvs) (m' : Int) (v : Value) (w : World) (e : Ending) (w' : World) : Prop := e = .returned v ∧ Hid (∃ wg', TxAt { b with wg := wg' } L S' D' m' w' ∧ (wg' = b.wg ∨ w.heap.size ≤ wg') ∧ Kt (fun i => i = b.cb ∨ i = b.sb ∨ i = b.sg ∨ i = b.wb ∨ i = b.wg) w w')
theorem wipe_ok_of {b : TxB} {L S D : Kvs} {more : Int} {w W : World} {k : Bt} (h : TxAt b L S D more W) (hk0 : Kt (fun i => i = b.cb ∨ i = b.sb ∨ i = b.sg ∨ i = b.wb ∨ i = b.wg) w W) (hw : w.heap.size = W.heap.size) (hk : k.length ≤ 281474976710656) (hD : (D.length + 2) * 56 ≤ 140737488355328) :
    Calls Tryz.prog 65 #[.pointer (some ⟨b.sb, 0, none⟩), sv k] W fun e w2 => ∃ r, e = .returned (.bool r) ∧ (w2.cell? ⟨b.xb, 1, none⟩ = some (.pointer (some ⟨b.cb, 0, none⟩)) ∧ w2.cell? ⟨b.cb, 1, none⟩ = some (.pointer (some ⟨b.wb, 0, none⟩))) ∧
      Hid (Calls Tryz.prog 18 #[.pointer (some ⟨b.wb, 0, none⟩), sv k, sv []] w2 fun e w3 => e = .returned (.tuple #[]) ∧ Hid (WpEnd b L (delL S k) (putL D k []) more (.int .i64 0) w (.returned (.int .i64 0)) w3)) := by
  refine (remove_any b.sb b.sg S W k h.s).mono fun e w2 ⟨e1, H⟩ => ⟨_, e1, ?_⟩
  obtain ⟨t2, k2⟩ := H.out
  have h2 : TxAt b L (delL S k) D more w2 := h.save t2 (.inl rfl) k2
  refine ⟨⟨h2.x1, h2.y1⟩, hidb ((put_any b.wb b.wg D w2 k [] h2.d hk (by decide) hD).mono fun e w3 ⟨e2, H3⟩ => ⟨e2, ?_⟩)⟩
  obtain ⟨g', t3, x3, k3⟩ := H3.out
  have h3 := h2.wipePut t3 x3 k3
  have hsz := k2.size
  refine hidb ⟨rfl, hidb ⟨g', h3, x3.imp id fun x => by omega, ?_⟩⟩
  exact (hk0.trans (k2.mono (R := fun i => i = b.cb ∨ i = b.sb ∨ i = b.sg ∨ i = b.wb ∨ i = b.wg) fun i _ e => by rcases e with e | e <;> simp [e]) fun _ _ e => e).trans (k3.mono (R := fun i => i = b.cb ∨ i = b.sb ∨ i = b.sg ∨ i = b.wb ∨ i = b.wg) fun i _ e => by rcases e with e | e <;> simp [e]) fun _ _ e => e
theorem WpEnd.same {b : TxB} {L S D : Kvs} {more : Int} {w : World} (h : TxAt b L S D more w) (m : Nat) (v : Value) : WpEnd b L S D more v w (.returned v) (w.drewN m) := ⟨rfl, hidb ⟨b.wg, h.drewN m, .inl rfl, (Kt.refl _ w).drewN m⟩⟩
theorem SX.of_w {sx : Nat} {b : TxB} {L M M' S' D' : Kvs} {d d' : Nat} {m' : Int} {v : Value} {w w' : World} {e : Ending} (h : SX sx b L M d w) (hx : WpEnd b L S' D' m' v w e w') (hm : m' = (M'.length : Int) - L.length) (hs : Shows L S' D' M') (hd : D'.length ≤ d') : SXEnd sx b L M' d' v w e w' := by
  obtain ⟨e1, H⟩ := hx
  obtain ⟨wg', h1, h2, h3⟩ := H.out
  subst hm
  refine ⟨e1, hidb ⟨{ b with wg := wg' }, ⟨⟨S', D', h1, hs, hd⟩, (h3.block sx (heap_ltb h.box) ?_).trans h.box, ?_⟩, rfl, rfl, ?_, h3.mono ?_⟩⟩
  · rintro (x | x | x | x | x) <;> exact h.nb _ (by simp [TxB.l]) x
  · have hl := heap_ltb h.box
    intro i hi
    simp only [TxB.l, List.mem_cons, List.not_mem_nil, or_false] at hi
    rcases hi with rfl | rfl | rfl | rfl | rfl | rfl | rfl | rfl
    · exact h.nb _ (by simp [TxB.l])
    · exact h.nb _ (by simp [TxB.l])
    · exact h.nb _ (by simp [TxB.l])
    · exact h.nb _ (by simp [TxB.l])
    · exact h.nb _ (by simp [TxB.l])
    · exact h.nb _ (by simp [TxB.l])
    · exact h.nb _ (by simp [TxB.l])
    · exact ne_new hl (h.nb b.wg (by simp [TxB.l])) h2
  · intro i hi
    simp only [TxB.l, List.mem_cons, List.not_mem_nil, or_false] at hi ⊢
    rcases hi with rfl | rfl | rfl | rfl | rfl | rfl | rfl | rfl
    · simp
    · simp
    · simp
    · simp
    · simp
    · simp
    · simp
    · rcases h2 with x | x
      · simp [x]
      · exact .inr x
  · rintro i _ (x | x | x | x | x) <;> simp [TxB.l, x]
/-- What Wipe answers, and what is shown then. -/
def wipeE (k : Bt) : Int := if longB k [] then 41 else 0
def wipeS (M : Kvs) (k : Bt) : Kvs := if longB k [] then M else delL M k
end Go.Proofs.YtcjakgogdbfagaaGreat
