/- Layer 11: what the laws' stores answer: scans. Layer 11: a transaction's Wipe. -/
import Derived.Test.YticihfbhnbkjjaaDoorKL
import Derived.Test.YticihfbhnbkjjaaDoorKH
import Derived.Test.YticihfbhnbkjjaaDoorQZ
namespace Go.Proofs.YticihfbhnbkjjaaDoor
open Go.RowKit
theorem FJ.below {sb rb : Nat} {M1 M2 : Kvs} {w0 w w' : World} (h : FJ sb rb M1 M2 w0 w) (k : Below w.heap.size w w') : FJ sb rb M1 M2 w0 w' := by
  obtain ⟨tb, g, v, h1, h2, h3, h4⟩ := h
  exact ⟨tb, g, v, h1.below k, h2.below k, h3.trans (k.mono h3.size), h4⟩
theorem FJ.bel {sb rb : Nat} {M1 M2 : Kvs} {w0 w : World} (h : FJ sb rb M1 M2 w0 w) : Below w0.heap.size w0 w := by
  obtain ⟨tb, g, v, h1, h2, h3, h4⟩ := h
  exact h3
theorem FJ.st {sb rb : Nat} {M1 M2 : Kvs} {w0 w : World} (h : FJ sb rb M1 M2 w0 w) : ∃ tb g, StAt sb tb g M1 w := by
  obtain ⟨tb, g, v, h1, _⟩ := h
  exact ⟨tb, g, h1⟩
/-- A row of pairs lies there. -/
def PRow (va : Option Addr) (n vc : Nat) (X : Kvs) (w : World) : Prop := n = X.length ∧ ∃ B, w.ownsRow B 62 2 (.slice va n vc) X.length (cellsP X)
theorem PRow.below {va : Option Addr} {n vc : Nat} {X : Kvs} {w w' : World} (h : PRow va n vc X w) (k : Below w.heap.size w w') : PRow va n vc X w' := by
  obtain ⟨h1, B, h2⟩ := h
  exact ⟨h1, B, row_below2 h2 k⟩
theorem PRow.drewN {va : Option Addr} {n vc : Nat} {X : Kvs} {w : World} (h : PRow va n vc X w) (m : Nat) : PRow va n vc X (w.drewN m) := h.below (below_drewN (Below.refl _ w) m)
theorem PRow.at {va : Option Addr} {n vc : Nat} {X : Kvs} {w : World} (h : PRow va n vc X w) {k : Nat} (hk : k < X.length) : ∃ g, va = some ⟨g, 0, none⟩ ∧ g < w.heap.size ∧ w.cell? ⟨g, k * 2, none⟩ = some (sv X[k].1) ∧ w.cell? ⟨g, k * 2 + 1, none⟩ = some (sv X[k].2) := by
  obtain ⟨h1, B, h2⟩ := h
  exact row_pair h2 hk
theorem scan_len (L : Kvs) (fr tk : Bt) (m : Int) : (scanL L fr tk m).length ≤ L.length := by
  have h1 : (cutL tk (fromL L fr)).length ≤ L.length := by
    rw [cutL_eq]
    exact Nat.le_trans (List.takeWhile_prefix _).length_le (List.length_filter_le _ _)
  unfold scanL
  split
  · exact h1
  · exact Nat.le_trans (List.length_take_le' _ _) h1
theorem scan_f {sb tb g : Nat} {M : Kvs} {w : World} (h : StAt sb tb g M w) (hM : M.length ≤ 512) (fr tk : Bt) (m : Int) (hm : 0 ≤ m) : Calls Tryd.prog 19 #[.pointer (some ⟨sb, 0, none⟩), sv fr, sv tk, .int .i64 m] w fun e w' => ∃ va n vc, e = .returned (.slice va n vc) ∧ n ≤ 512 ∧ Hid (PRow va n vc (scanL M fr tk m) w' ∧ Below w.heap.size w w') := by
  refine (scan_any sb tb g M fr tk m w h hm (by omega)).mono ?_
  rintro e w' ⟨v, rfl, hr, hb⟩
  obtain ⟨va, vc, rfl, _⟩ := row_form hr
  exact ⟨va, _, vc, rfl, Nat.le_trans (scan_len M fr tk m) hM, hidb ⟨⟨rfl, _, hr⟩, hb⟩⟩
theorem scan_at_in {L : Kvs} {fr tk : Bt} {m : Int} {i : Nat} (h : i < (scanL L fr tk m).length) : ¬ klt (scanL L fr tk m)[i].1 fr ∧ inB tk (scanL L fr tk m)[i] = true := by
  have hmem : (scanL L fr tk m)[i] ∈ cutL tk (fromL L fr) := by
    have h1 := List.getElem_mem h
    unfold scanL at h1 ⊢
    split at h1
    · rename_i e
      simp only [if_pos e]
      exact h1
    · rename_i e
      simp only [if_neg e]
      exact List.mem_of_mem_take h1
  rw [cutL_eq] at hmem
  have h2 : (scanL L fr tk m)[i] ∈ fromL L fr := (List.takeWhile_prefix _).mem hmem
  have h3 : ∀ (l : Kvs) (x : Bt × Bt), x ∈ l.takeWhile (inB tk) → inB tk x = true := fun l => by
    induction l with
    | nil => intro x h; cases h
    | cons y l ih =>
      intro x
      rw [List.takeWhile_cons]
      split
      · rename_i hy
        intro h
        rcases List.mem_cons.1 h with e | e
        · rw [e]; exact hy
        · exact ih x e
      · intro h; cases h
  exact ⟨by have := (List.mem_filter.1 h2).2; simpa using this, h3 _ _ hmem⟩
end Go.Proofs.YticihfbhnbkjjaaDoor
namespace Go.Proofs.YticihfbhnbkjjaaDoor
open Go.RowKit
theorem TxAt.wipePut {b : TxB} {L S D D' : Kvs} {more : Int} {w w' : World} {wg' : Nat} (h : TxAt b L S D more w) (t : TreeAt b.wb wg' D' w') (hs : wg' = b.wg ∨ w.heap.size ≤ wg') (k : Kt (fun i => i = b.wb ∨ i = b.wg) w w') : TxAt { b with wg := wg' } L S D' more w' :=
  ⟨(k.block _ (heap_ltb h.box) (fun e => e.elim (fun e => h.nd.xw e) (fun e => h.nd.xv e))).trans h.box, (k.block _ (heap_ltb h.cbx) (fun e => e.elim (fun e => h.nd.cw e) (fun e => h.nd.cv e))).trans h.cbx, h.t.kt k (fun e => e.elim (fun e => h.nd.tw e) (fun e => h.nd.tv e)) (fun e => e.elim (fun e => h.nd.gw e) (fun e => h.nd.gv e)), h.s.kt k (fun e => e.elim (fun e => h.nd.sw e) (fun e => h.nd.sv e)) (fun e => e.elim (fun e => h.nd.hw e) (fun e => h.nd.hv e)), t,
    ⟨h.nd.xc, h.nd.xt, h.nd.xg, h.nd.xs, h.nd.xh, h.nd.xw, ne_new (heap_ltb h.box) h.nd.xv hs, h.nd.ct, h.nd.cg, h.nd.cs, h.nd.ch, h.nd.cw, ne_new (heap_ltb h.cbx) h.nd.cv hs, h.nd.tg, h.nd.ts, h.nd.th, h.nd.tw, ne_new (h.t.lts.1) h.nd.tv hs, h.nd.gs, h.nd.gh, h.nd.gw, ne_new (h.t.lts.2.1) h.nd.gv hs, h.nd.sh, h.nd.sw, ne_new (h.s.lts.1) h.nd.sv hs, h.nd.hw, ne_new (h.s.lts.2.1) h.nd.hv hs, ne_new (h.d.lts.1) h.nd.wv hs⟩⟩
/-- What Wipe leaves. -/
def WpEnd (b : TxB) (L S' D' : Kvs) (m' : Int) (v : Value) (w : World) (e : Ending) (w' : World) : Prop := e = .returned v ∧ Hid (∃ wg', TxAt { b with wg := wg' } L S' D' m' w' ∧ (wg' = b.wg ∨ w.heap.size ≤ wg') ∧ Kt (fun i => i = b.cb ∨ i = b.sb ∨ i = b.sg ∨ i = b.wb ∨ i = b.wg) w w')
theorem wipe_ok_of {b : TxB} {L S D : Kvs} {more : Int} {w W : World} {k : Bt} (h : TxAt b L S D more W) (hk0 : Kt (fun i => i = b.cb ∨ i = b.sb ∨ i = b.sg ∨ i = b.wb ∨ i = b.wg) w W) (hw : w.heap.size = W.heap.size) (hk : k.length ≤ 281474976710656) (hD : (D.length + 2) * 56 ≤ 140737488355328) :
    Calls Tryd.prog 45 #[.pointer (some ⟨b.sb, 0, none⟩), sv k] W fun e w2 => ∃ r, e = .returned (.bool r) ∧ (w2.cell? ⟨b.xb, 1, none⟩ = some (.pointer (some ⟨b.cb, 0, none⟩)) ∧ w2.cell? ⟨b.cb, 1, none⟩ = some (.pointer (some ⟨b.wb, 0, none⟩))) ∧
      Hid (Calls Tryd.prog 44 #[.pointer (some ⟨b.wb, 0, none⟩), sv k, sv []] w2 fun e w3 => e = .returned (.tuple #[]) ∧ Hid (WpEnd b L (delL S k) (putL D k []) more (.int .i64 0) w (.returned (.int .i64 0)) w3)) := by
  refine (remove_any b.sb b.sg S W k h.s).mono fun e w2 ⟨e1, H⟩ => ⟨_, e1, ?_⟩
  obtain ⟨t2, k2⟩ := H.out
  have h2 : TxAt b L (delL S k) D more w2 := h.save t2 (.inl rfl) k2
  refine ⟨⟨h2.x1, h2.y1⟩, hidb ((put_any b.wb b.wg D w2 k [] h2.d hk (by decide) hD).mono fun e w3 ⟨e2, H3⟩ => ⟨e2, ?_⟩)⟩
  obtain ⟨g', t3, x3, k3⟩ := H3.out
  have h3 := h2.wipePut t3 x3 k3
  have hsz := k2.size
  refine hidb ⟨rfl, hidb ⟨g', h3, x3.imp id fun x => by omega, ?_⟩⟩
  exact (hk0.trans (k2.mono (R := fun i => i = b.cb ∨ i = b.sb ∨ i = b.sg ∨ i = b.wb ∨ i = b.wg) fun i _ e => by rcases e with e | e <;> simp [e]) fun _ _ e => e).trans (k3.mono (R := fun i => i = b.cb ∨ i = b.sb ∨ i = b.sg ∨ i = b.wb ∨ i = b.wg) fun i _ e => by rcases e with e | e <;> simp [e]) fun _ _ e => e
theorem WpEnd.same {b : TxB} {L S D : Kvs} {more : Int} {w : World} (h : TxAt b L S D more w) (m : Nat) (v : Value) : WpEnd b L S D more v w (.returned v) (w.drewN m) := ⟨rfl, hidb ⟨b.wg, h.drewN m, .inl rfl, (Kt.refl _ w).drewN m⟩⟩
set_option maxRecDepth 100000 in
set_option maxHeartbeats 1000000 in
theorem wipe_long (b : TxB) (L S D : Kvs) (more : Int) (w : World) (k : Bt) (h : TxAt b L S D more w) (hk : k.length ≤ 9223372036854775807) (hl : longB k [] = true) :
    Calls Tryd.prog 22 #[.pointer (some ⟨b.xb, 0, none⟩), sv k] w (WpEnd b L S D more (.int .i64 41) w) := by
  have HM := hidb (txmade_any b.xb w b.tb h.x0)
  have HI := hidb (isLong_any k [] w hk (by decide))
  rw [hl] at HI
  have HE := hidb (WpEnd.same h 0 (.int .i64 41))
  clear h
  go_enter Tryd.func22, Tryd.ntmps22
  go_wp2_with (first
    | (go_at_call 40; refine HM.out.mono ?_; clear HM; rintro e w1 ⟨rfl, rfl⟩)
    | (go_at_call 42; refine HI.out.mono ?_; clear HI; rintro e w1 ⟨rfl, rfl⟩)
    | fail)
  go_ret
  exact HE.out
set_option maxRecDepth 100000 in
set_option maxHeartbeats 1000000 in
theorem wipe_none (b : TxB) (L S D : Kvs) (more : Int) (w : World) (k : Bt) (h : TxAt b L S D more w) (hk : k.length ≤ 9223372036854775807) (hl : longB k [] = false) (hD : (D.length + 2) * 56 ≤ 140737488355328) (hld : loadL L S D k = none) :
    Calls Tryd.prog 22 #[.pointer (some ⟨b.xb, 0, none⟩), sv k] w (WpEnd b L (delL S k) (putL D k []) more (.int .i64 0) w) := by
  have HM := hidb (txmade_any b.xb w b.tb h.x0)
  have HI := hidb (isLong_any k [] w hk (by decide))
  have HL := hidb (load_any b L S D more w k h)
  rw [hl] at HI
  rw [hld] at HL
  have HR := hidb fun M => wipe_ok_of (w := w) (k := k) (h.drewN M) ((Kt.refl _ w).drewN M) rfl (long_small hl).1 hD
  have x1 := h.x1
  have y0 := h.y0
  clear h hD
  generalize b.xb = xb at *
  generalize b.cb = cb at *
  generalize b.sb = sb at *
  generalize b.wb = wb at *
  go_enter Tryd.func22, Tryd.ntmps22
  go_wp2_with (first
    | (go_at_call 40; refine HM.out.mono ?_; clear HM; rintro e w1 ⟨rfl, rfl⟩)
    | (go_at_call 42; refine HI.out.mono ?_; clear HI; rintro e w1 ⟨rfl, rfl⟩)
    | (go_at_call 11; refine HL.out.mono ?_; clear HL; rintro e w2 ⟨rfl, m2, rfl⟩)
    | (go_at_call 45; refine (HR.out _).mono ?_; clear HR; rintro e w3 ⟨r3, rfl, ⟨q1, q2⟩, K3⟩)
    | (go_at_call 44; refine K3.out.mono ?_; clear K3; rintro e w4 ⟨rfl, K4⟩)
    | fail)
  go_ret
  exact K4.out
set_option maxRecDepth 100000 in
set_option maxHeartbeats 1000000 in
theorem wipe_there (b : TxB) (L S D : Kvs) (more : Int) (w : World) (k : Bt) (h : TxAt b L S D more w) (hk : k.length ≤ 9223372036854775807) (hl : longB k [] = false) (hD : (D.length + 2) * 56 ≤ 140737488355328) (u : Bt) (hld : loadL L S D k = some u) (hm0 : -1000000 ≤ more) (hm1 : more ≤ 1000000) :
    Calls Tryd.prog 22 #[.pointer (some ⟨b.xb, 0, none⟩), sv k] w (WpEnd b L (delL S k) (putL D k []) (more - 1) (.int .i64 0) w) := by
  have HM := hidb (txmade_any b.xb w b.tb h.x0)
  have HI := hidb (isLong_any k [] w hk (by decide))
  have HL := hidb (load_any b L S D more w k h)
  rw [hl] at HI
  rw [hld] at HL
  have HA : Hid (∀ m W, W = w.drewN m → (W.cell? ⟨b.xb, 1, none⟩ = some (.pointer (some ⟨b.cb, 0, none⟩)) ∧ W.cell? ⟨b.cb, 0, none⟩ = some (.pointer (some ⟨b.sb, 0, none⟩)) ∧ W.cell? ⟨b.cb, 2, none⟩ = some (.int .i64 more) ∧ W.frozen? ⟨b.cb, 2, none⟩ = false) ∧
      Calls Tryd.prog 45 #[.pointer (some ⟨b.sb, 0, none⟩), sv k] (W.setCell ⟨b.cb, 2, none⟩ (.int .i64 (more - 1))) fun e w2 => ∃ r, e = .returned (.bool r) ∧ (w2.cell? ⟨b.xb, 1, none⟩ = some (.pointer (some ⟨b.cb, 0, none⟩)) ∧ w2.cell? ⟨b.cb, 1, none⟩ = some (.pointer (some ⟨b.wb, 0, none⟩))) ∧
        Hid (Calls Tryd.prog 44 #[.pointer (some ⟨b.wb, 0, none⟩), sv k, sv []] w2 fun e w3 => e = .returned (.tuple #[]) ∧ Hid (WpEnd b L (delL S k) (putL D k []) (more - 1) (.int .i64 0) w (.returned (.int .i64 0)) w3))) := hidb fun m W hW => by
    have hT : TxAt b L S D more W := by rw [hW]; exact h.drewN m
    have hK : Kt (fun i => i = b.cb ∨ i = b.sb ∨ i = b.sg ∨ i = b.wb ∨ i = b.wg) w W := by rw [hW]; exact (Kt.refl _ w).drewN m
    have hz : w.heap.size = W.heap.size := by rw [hW]; rfl
    exact ⟨⟨hT.x1, hT.y0, hT.y2, Lib.frozen_of_heap hT.cbx 2⟩, wipe_ok_of (w := w) (k := k) (hT.setMore (more - 1)) (hK.set fun _ => .inl rfl) (by simpa using hz) (long_small hl).1 hD⟩
  have hxc : ¬ b.xb = b.cb := h.nd.xc
  have hxc2 : ¬ b.cb = b.xb := h.nd.xc.symm
  clear h hD
  generalize b.xb = xb at *
  generalize b.cb = cb at *
  generalize b.sb = sb at *
  generalize b.wb = wb at *
  go_enter Tryd.func22, Tryd.ntmps22
  go_wp2_with (first
    | (go_at_call 40; refine HM.out.mono ?_; clear HM; rintro e w1 ⟨rfl, rfl⟩)
    | (go_at_call 42; refine HI.out.mono ?_; clear HI; rintro e w1 ⟨rfl, rfl⟩)
    | (go_at_call 11; refine HL.out.mono ?_; clear HL; rintro e w2 ⟨rfl, m2, rfl⟩; obtain ⟨W, hW⟩ : ∃ W, W = w1.drewN m2 := ⟨_, rfl⟩; obtain ⟨⟨z1, z2, z3, z4⟩, hR⟩ := HA.out m2 W hW; rw [← hW]; clear hW HA; have HR := hidb hR; clear hR)
    | (go_at_call 45; refine HR.out.mono ?_; clear HR; rintro e w3 ⟨r3, rfl, ⟨q1, q2⟩, K3⟩)
    | (go_at_call 44; refine K3.out.mono ?_; clear K3; rintro e w4 ⟨rfl, K4⟩)
    | fail)
  go_ret
  exact K4.out
theorem SX.of_w {sx : Nat} {b : TxB} {L M M' S' D' : Kvs} {d d' : Nat} {m' : Int} {v : Value} {w w' : World} {e : Ending} (h : SX sx b L M d w) (hx : WpEnd b L S' D' m' v w e w') (hm : m' = (M'.length : Int) - L.length) (hs : Shows L S' D' M') (hd : D'.length ≤ d') : SXEnd sx b L M' d' v w e w' := by
  obtain ⟨e1, H⟩ := hx
  obtain ⟨wg', h1, h2, h3⟩ := H.out
  subst hm
  refine ⟨e1, hidb ⟨{ b with wg := wg' }, ⟨⟨S', D', h1, hs, hd⟩, (h3.block sx (heap_ltb h.box) ?_).trans h.box, ?_⟩, rfl, rfl, ?_, h3.mono ?_⟩⟩
  · rintro (x | x | x | x | x) <;> exact h.nb _ (by simp [TxB.l]) x
  · have hl := heap_ltb h.box
    intro i hi
    simp only [TxB.l, List.mem_cons, List.not_mem_nil, or_false] at hi
    rcases hi with rfl | rfl | rfl | rfl | rfl | rfl | rfl | rfl
    · exact h.nb _ (by simp [TxB.l])
    · exact h.nb _ (by simp [TxB.l])
    · exact h.nb _ (by simp [TxB.l])
    · exact h.nb _ (by simp [TxB.l])
    · exact h.nb _ (by simp [TxB.l])
    · exact h.nb _ (by simp [TxB.l])
    · exact h.nb _ (by simp [TxB.l])
    · exact ne_new hl (h.nb b.wg (by simp [TxB.l])) h2
  · intro i hi
    simp only [TxB.l, List.mem_cons, List.not_mem_nil, or_false] at hi ⊢
    rcases hi with rfl | rfl | rfl | rfl | rfl | rfl | rfl | rfl
    · simp
    · simp
    · simp
    · simp
    · simp
    · simp
    · simp
    · rcases h2 with x | x
      · simp [x]
      · exact .inr x
  · rintro i _ (x | x | x | x | x) <;> simp [TxB.l, x]
/-- What Wipe answers, and what is shown then. -/
def wipeE (k : Bt) : Int := if longB k [] then 41 else 0
def wipeS (M : Kvs) (k : Bt) : Kvs := if longB k [] then M else delL M k
theorem wipe_i (sx : Nat) (b : TxB) (L M : Kvs) (d : Nat) (w : World) (k : Bt) (h : SX sx b L M d w) (hk : k.length ≤ 9223372036854775807) (hL : L.length ≤ 512) (hM : M.length ≤ 512) (hd : (d + 2) * 56 ≤ 140737488355328) :
    Calls Tryd.prog 22 #[.pointer (some ⟨b.xb, 0, none⟩), sv k] w (SXEnd sx b L (wipeS M k) (d + 1) (.int .i64 (wipeE k)) w) := by
  obtain ⟨S, D, h1, h2, h3⟩ := h.tx
  have hg := h2.get k
  have hroom : (D.length + 2) * 56 ≤ 140737488355328 := Nat.le_trans (Nat.mul_le_mul (by omega : D.length + 2 ≤ d + 2) (Nat.le_refl 56)) hd
  have hdl : (putL D k []).length ≤ d + 1 := by
    rw [putL_len h1.d.srt]
    split <;> omega
  unfold wipeE wipeS
  cases hl : longB k [] with
  | true =>
    simp only [if_true]
    exact (wipe_long b L S D _ w k h1 hk hl).mono fun e w' hx => h.of_w hx rfl h2 (by omega)
  | false =>
    simp only [Bool.false_eq_true, if_false]
    have hlen := delL_len h2.srt k
    cases hm : getL M k with
    | some u =>
      rw [hm] at hlen
      simp at hlen
      exact (wipe_there b L S D _ w k h1 hk hl hroom u (by rw [← hg, hm]) (by omega) (by omega)).mono fun e w' hx => h.of_w hx (by omega) (h2.wipe k) hdl
    | none =>
      rw [hm] at hlen
      simp at hlen
      exact (wipe_none b L S D _ w k h1 hk hl hroom (by rw [← hg, hm])).mono fun e w' hx => h.of_w hx (by omega) (h2.wipe k) hdl
end Go.Proofs.YticihfbhnbkjjaaDoor
