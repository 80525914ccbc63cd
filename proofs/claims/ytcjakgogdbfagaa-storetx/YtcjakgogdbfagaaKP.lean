/- Layer 11: a transaction's Wipe. Layer 11: the document's transactions: Clone, Begin, Wipe, Commit. Layer 11: the document's Changes: a pair laid between others; the keys of both, and what differs. -/
import Derived.Test.YtcjakgogdbfagaaQZ
import Derived.Test.YtcjakgogdbfagaaKZg
namespace Go.Proofs.Ytcjakgogdbfagaa
open Go.RowKit
theorem TxAt.wipePut {b : TxB} {L S D D' : Kvs} {more : Int} {w w' : World} {wg' : Nat} (h : TxAt b L S D more w) (t : TreeAt b.wb wg' D' w') (hs : wg' = b.wg ∨ w.heap.size ≤ wg') (k : Kt (fun i => i = b.wb ∨ i = b.wg) w w') : TxAt { b with wg := wg' } L S D' more w' :=
  ⟨(k.block _ (heap_ltb h.box) (fun e => e.elim (fun e => h.nd.xw e) (fun e => h.nd.xv e))).trans h.box, (k.block _ (heap_ltb h.cbx) (fun e => e.elim (fun e => h.nd.cw e) (fun e => h.nd.cv e))).trans h.cbx, h.t.kt k (fun e => e.elim (fun e => h.nd.tw e) (fun e => h.nd.tv e)) (fun e => e.elim (fun e => h.nd.gw e) (fun e => h.nd.gv e)), h.s.kt k (fun e => e.elim (fun e => h.nd.sw e) (fun e => h.nd.sv e)) (fun e => e.elim (fun e => h.nd.hw e) (fun e => h.nd.hv e)), t,
    ⟨h.nd.xc, h.nd.xt, h.nd.xg, h.nd.xs, h.nd.xh, h.nd.xw, ne_new (heap_ltb h.box) h.nd.xv hs, h.nd.ct, h.nd.cg, h.nd.cs, h.nd.ch, h.nd.cw, ne_new (heap_ltb h.cbx) h.nd.cv hs, h.nd.tg, h.nd.ts, h.nd.th, h.nd.tw, ne_new (h.t.lts.1) h.nd.tv hs, h.nd.gs, h.nd.gh, h.nd.gw, ne_new (h.t.lts.2.1) h.nd.gv hs, h.nd.sh, h.nd.sw, ne_new (h.s.lts.1) h.nd.sv hs, h.nd.hw, ne_new (h.s.lts.2.1) h.nd.hv hs, ne_new (h.d.lts.1) h.nd.wv hs⟩⟩
/-- What Wipe leaves. -/
def WpEnd (b : TxB) (L S' D' : Kvs) (m' : Int) (v : Value) (w : World) (e : Ending) (w' : World) : Prop := e = .returned v ∧ Hid (∃ wg', TxAt { b with wg := wg' } L S' D' m' w' ∧ (wg' = b.wg ∨ w.heap.size ≤ wg') ∧ Kt (fun i => i = b.cb ∨ i = b.sb ∨ i = b.sg ∨ i = b.wb ∨ i = b.wg) w w')
theorem wipe_ok_of {b : TxB} {L S D : Kvs} {more : Int} {w W : World} {k : Bt} (h : TxAt b L S D more W) (hk0 : Kt (fun i => i = b.cb ∨ i = b.sb ∨ i = b.sg ∨ i = b.wb ∨ i = b.wg) w W) (hw : w.heap.size = W.heap.size) (hk : k.length ≤ 281474976710656) (hD : (D.length + 2) * 46 ≤ 140737488355328) :
    Calls Try.prog 35 #[.pointer (some ⟨b.sb, 0, none⟩), sv k] W fun e w2 => ∃ r, e = .returned (.bool r) ∧ (w2.cell? ⟨b.xb, 1, none⟩ = some (.pointer (some ⟨b.cb, 0, none⟩)) ∧ w2.cell? ⟨b.cb, 1, none⟩ = some (.pointer (some ⟨b.wb, 0, none⟩))) ∧
      Hid (Calls Try.prog 36 #[.pointer (some ⟨b.wb, 0, none⟩), sv k, sv []] w2 fun e w3 => e = .returned (.tuple #[]) ∧ Hid (WpEnd b L (delL S k) (putL D k []) more (.int .i64 0) w (.returned (.int .i64 0)) w3)) := by
  refine (remove_any b.sb b.sg S W k h.s).mono fun e w2 ⟨e1, H⟩ => ⟨_, e1, ?_⟩
  obtain ⟨t2, k2⟩ := H.out
  have h2 : TxAt b L (delL S k) D more w2 := h.save t2 (.inl rfl) k2
  refine ⟨⟨h2.x1, h2.y1⟩, hidb ((put_any b.wb b.wg D w2 k [] h2.d hk (by decide) hD).mono fun e w3 ⟨e2, H3⟩ => ⟨e2, ?_⟩)⟩
  obtain ⟨g', t3, x3, k3⟩ := H3.out
  have h3 := h2.wipePut t3 x3 k3
  have hsz := k2.size
  refine hidb ⟨rfl, hidb ⟨g', h3, x3.imp id fun x => by omega, ?_⟩⟩
  exact (hk0.trans (k2.mono (R := fun i => i = b.cb ∨ i = b.sb ∨ i = b.sg ∨ i = b.wb ∨ i = b.wg) fun i _ e => by rcases e with e | e <;> simp [e]) fun _ _ e => e).trans (k3.mono (R := fun i => i = b.cb ∨ i = b.sb ∨ i = b.sg ∨ i = b.wb ∨ i = b.wg) fun i _ e => by rcases e with e | e <;> simp [e]) fun _ _ e => e
theorem WpEnd.same {b : TxB} {L S D : Kvs} {more : Int} {w : World} (h : TxAt b L S D more w) (m : Nat) (v : Value) : WpEnd b L S D more v w (.returned v) (w.drewN m) := ⟨rfl, hidb ⟨b.wg, h.drewN m, .inl rfl, (Kt.refl _ w).drewN m⟩⟩
set_option maxRecDepth 100000 in
set_option maxHeartbeats 1000000 in
theorem wipe_long (b : TxB) (L S D : Kvs) (more : Int) (w : World) (k : Bt) (h : TxAt b L S D more w) (hk : k.length ≤ 9223372036854775807) (hl : longB k [] = true) :
    Calls Try.prog 11 #[.pointer (some ⟨b.xb, 0, none⟩), sv k] w (WpEnd b L S D more (.int .i64 41) w) := by
  have HM := hidb (txmade_any b.xb w b.tb h.x0)
  have HI := hidb (isLong_any k [] w hk (by decide))
  rw [hl] at HI
  have HE := hidb (WpEnd.same h 0 (.int .i64 41))
  clear h
  go_enter Try.func11, Try.ntmps11
  go_wp2_with (first
    | (go_at_call 32; refine HM.out.mono ?_; clear HM; rintro e w1 ⟨rfl, rfl⟩)
    | (go_at_call 33; refine HI.out.mono ?_; clear HI; rintro e w1 ⟨rfl, rfl⟩)
    | fail)
  go_ret
  exact HE.out
set_option maxRecDepth 100000 in
set_option maxHeartbeats 1000000 in
theorem wipe_none (b : TxB) (L S D : Kvs) (more : Int) (w : World) (k : Bt) (h : TxAt b L S D more w) (hk : k.length ≤ 9223372036854775807) (hl : longB k [] = false) (hD : (D.length + 2) * 46 ≤ 140737488355328) (hld : loadL L S D k = none) :
    Calls Try.prog 11 #[.pointer (some ⟨b.xb, 0, none⟩), sv k] w (WpEnd b L (delL S k) (putL D k []) more (.int .i64 0) w) := by
  have HM := hidb (txmade_any b.xb w b.tb h.x0)
  have HI := hidb (isLong_any k [] w hk (by decide))
  have HL := hidb (load_any b L S D more w k h)
  rw [hl] at HI
  rw [hld] at HL
  have HR := hidb fun M => wipe_ok_of (w := w) (k := k) (h.drewN M) ((Kt.refl _ w).drewN M) rfl (long_small hl).1 hD
  have x1 := h.x1
  have y0 := h.y0
  clear h hD
  generalize b.xb = xb at *
  generalize b.cb = cb at *
  generalize b.sb = sb at *
  generalize b.wb = wb at *
  go_enter Try.func11, Try.ntmps11
  go_wp2_with (first
    | (go_at_call 32; refine HM.out.mono ?_; clear HM; rintro e w1 ⟨rfl, rfl⟩)
    | (go_at_call 33; refine HI.out.mono ?_; clear HI; rintro e w1 ⟨rfl, rfl⟩)
    | (go_at_call 13; refine HL.out.mono ?_; clear HL; rintro e w2 ⟨rfl, m2, rfl⟩)
    | (go_at_call 35; refine (HR.out _).mono ?_; clear HR; rintro e w3 ⟨r3, rfl, ⟨q1, q2⟩, K3⟩)
    | (go_at_call 36; refine K3.out.mono ?_; clear K3; rintro e w4 ⟨rfl, K4⟩)
    | fail)
  go_ret
  exact K4.out
set_option maxRecDepth 100000 in
set_option maxHeartbeats 1000000 in
theorem wipe_there (b : TxB) (L S D : Kvs) (more : Int) (w : World) (k : Bt) (h : TxAt b L S D more w) (hk : k.length ≤ 9223372036854775807) (hl : longB k [] = false) (hD : (D.length + 2) * 46 ≤ 140737488355328) (u : Bt) (hld : loadL L S D k = some u) (hm0 : -1000000 ≤ more) (hm1 : more ≤ 1000000) :
    Calls Try.prog 11 #[.pointer (some ⟨b.xb, 0, none⟩), sv k] w (WpEnd b L (delL S k) (putL D k []) (more - 1) (.int .i64 0) w) := by
  have HM := hidb (txmade_any b.xb w b.tb h.x0)
  have HI := hidb (isLong_any k [] w hk (by decide))
  have HL := hidb (load_any b L S D more w k h)
  rw [hl] at HI
  rw [hld] at HL
  have HA : Hid (∀ m W, W = w.drewN m → (W.cell? ⟨b.xb, 1, none⟩ = some (.pointer (some ⟨b.cb, 0, none⟩)) ∧ W.cell? ⟨b.cb, 0, none⟩ = some (.pointer (some ⟨b.sb, 0, none⟩)) ∧ W.cell? ⟨b.cb, 2, none⟩ = some (.int .i64 more) ∧ W.frozen? ⟨b.cb, 2, none⟩ = false) ∧
      Calls Try.prog 35 #[.pointer (some ⟨b.sb, 0, none⟩), sv k] (W.setCell ⟨b.cb, 2, none⟩ (.int .i64 (more - 1))) fun e w2 => ∃ r, e = .returned (.bool r) ∧ (w2.cell? ⟨b.xb, 1, none⟩ = some (.pointer (some ⟨b.cb, 0, none⟩)) ∧ w2.cell? ⟨b.cb, 1, none⟩ = some (.pointer (some ⟨b.wb, 0, none⟩))) ∧
        Hid (Calls Try.prog 36 #[.pointer (some ⟨b.wb, 0, none⟩), sv k, sv []] w2 fun e w3 => e = .returned (.tuple #[]) ∧ Hid (WpEnd b L (delL S k) (putL D k []) (more - 1) (.int .i64 0) w (.returned (.int .i64 0)) w3))) := hidb fun m W hW => by
    have hT : TxAt b L S D more W := by rw [hW]; exact h.drewN m
    have hK : Kt (fun i => i = b.cb ∨ i = b.sb ∨ i = b.sg ∨ i = b.wb ∨ i = b.wg) w W := by rw [hW]; exact (Kt.refl _ w).drewN m
    have hz : w.heap.size = W.heap.size := by rw [hW]; rfl
    exact ⟨⟨hT.x1, hT.y0, hT.y2, Lib.frozen_of_heap hT.cbx 2⟩, wipe_ok_of (w := w) (k := k) (hT.setMore (more - 1)) (hK.set fun _ => .inl rfl) (by simpa using hz) (long_small hl).1 hD⟩
  have hxc : ¬ b.xb = b.cb := h.nd.xc
  have hxc2 : ¬ b.cb = b.xb := h.nd.xc.symm
  clear h hD
  generalize b.xb = xb at *
  generalize b.cb = cb at *
  generalize b.sb = sb at *
  generalize b.wb = wb at *
  go_enter Try.func11, Try.ntmps11
  go_wp2_with (first
    | (go_at_call 32; refine HM.out.mono ?_; clear HM; rintro e w1 ⟨rfl, rfl⟩)
    | (go_at_call 33; refine HI.out.mono ?_; clear HI; rintro e w1 ⟨rfl, rfl⟩)
    | (go_at_call 13; refine HL.out.mono ?_; clear HL; rintro e w2 ⟨rfl, m2, rfl⟩; obtain ⟨W, hW⟩ : ∃ W, W = w1.drewN m2 := ⟨_, rfl⟩; obtain ⟨⟨z1, z2, z3, z4⟩, hR⟩ := HA.out m2 W hW; rw [← hW]; clear hW HA; have HR := hidb hR; clear hR)
    | (go_at_call 35; refine HR.out.mono ?_; clear HR; rintro e w3 ⟨r3, rfl, ⟨q1, q2⟩, K3⟩)
    | (go_at_call 36; refine K3.out.mono ?_; clear K3; rintro e w4 ⟨rfl, K4⟩)
    | fail)
  go_ret
  exact K4.out
theorem SX.of_w {sx : Nat} {b : TxB} {L M M' S' D' : Kvs} {d d' : Nat} {m' : Int} {v : Value} {w w' : World} {e : Ending} (h : SX sx b L M d w) (hx : WpEnd b L S' D' m' v w e w') (hm : m' = (M'.length : Int) - L.length) (hs : Shows L S' D' M') (hd : D'.length ≤ d') : SXEnd sx b L M' d' v w e w' := by
  obtain ⟨e1, H⟩ := hx
  obtain ⟨wg', h1, h2, h3⟩ := H.out
  subst hm
  refine ⟨e1, hidb ⟨{ b with wg := wg' }, ⟨⟨S', D', h1, hs, hd⟩, (h3.block sx (heap_ltb h.box) ?_).trans h.box, ?_⟩, rfl, rfl, ?_, h3.mono ?_⟩⟩
  · rintro (x | x | x | x | x) <;> exact h.nb _ (by simp [TxB.l]) x
  · have hl := heap_ltb h.box
    intro i hi
    simp only [TxB.l, List.mem_cons, List.not_mem_nil, or_false] at hi
    rcases hi with rfl | rfl | rfl | rfl | rfl | rfl | rfl | rfl
    · exact h.nb _ (by simp [TxB.l])
    · exact h.nb _ (by simp [TxB.l])
    · exact h.nb _ (by simp [TxB.l])
    · exact h.nb _ (by simp [TxB.l])
    · exact h.nb _ (by simp [TxB.l])
    · exact h.nb _ (by simp [TxB.l])
    · exact h.nb _ (by simp [TxB.l])
    · exact ne_new hl (h.nb b.wg (by simp [TxB.l])) h2
  · intro i hi
    simp only [TxB.l, List.mem_cons, List.not_mem_nil, or_false] at hi ⊢
    rcases hi with rfl | rfl | rfl | rfl | rfl | rfl | rfl | rfl
    · simp
    · simp
    · simp
    · simp
    · simp
    · simp
    · simp
    · rcases h2 with x | x
      · simp [x]
      · exact .inr x
  · rintro i _ (x | x | x | x | x) <;> simp [TxB.l, x]
/-- What Wipe answers, and what is shown then. -/
def wipeE (k : Bt) : Int := if longB k [] then 41 else 0
def wipeS (M : Kvs) (k : Bt) : Kvs := if longB k [] then M else delL M k
theorem wipe_i (sx : Nat) (b : TxB) (L M : Kvs) (d : Nat) (w : World) (k : Bt) (h : SX sx b L M d w) (hk : k.length ≤ 9223372036854775807) (hL : L.length ≤ 512) (hM : M.length ≤ 512) (hd : (d + 2) * 46 ≤ 140737488355328) :
    Calls Try.prog 11 #[.pointer (some ⟨b.xb, 0, none⟩), sv k] w (SXEnd sx b L (wipeS M k) (d + 1) (.int .i64 (wipeE k)) w) := by
  obtain ⟨S, D, h1, h2, h3⟩ := h.tx
  have hg := h2.get k
  have hroom : (D.length + 2) * 46 ≤ 140737488355328 := Nat.le_trans (Nat.mul_le_mul (by omega : D.length + 2 ≤ d + 2) (Nat.le_refl 46)) hd
  have hdl : (putL D k []).length ≤ d + 1 := by
    rw [putL_len h1.d.srt]
    split <;> omega
  unfold wipeE wipeS
  cases hl : longB k [] with
  | true =>
    simp only [if_true]
    exact (wipe_long b L S D _ w k h1 hk hl).mono fun e w' hx => h.of_w hx rfl h2 (by omega)
  | false =>
    simp only [Bool.false_eq_true, if_false]
    have hlen := delL_len h2.srt k
    cases hm : getL M k with
    | some u =>
      rw [hm] at hlen
      simp at hlen
      exact (wipe_there b L S D _ w k h1 hk hl hroom u (by rw [← hg, hm]) (by omega) (by omega)).mono fun e w' hx => h.of_w hx (by omega) (h2.wipe k) hdl
    | none =>
      rw [hm] at hlen
      simp at hlen
      exact (wipe_none b L S D _ w k h1 hk hl hroom (by rw [← hg, hm])).mono fun e w' hx => h.of_w hx (by omega) (h2.wipe k) hdl
end Go.Proofs.Ytcjakgogdbfagaa
namespace Go.Proofs.Ytcjakgogdbfagaa
open Go.RowKit
theorem rdel_any (rb : Nat) (v0 : Value) (L : Kvs) (w : World) (k : Bt) (h : RfAt rb v0 L w) (s : SrtL L) (hL : L.length ≤ 512) :
    Calls Try.prog 38 #[.pointer (some ⟨rb, 0, none⟩), sv k] w (RfEnd rb v0 (delL L k) (.bool (getL L k).isSome) w) := by
  cases hg : getL L k with
  | none =>
    have e : delL L k = L := delL_none hg
    rw [e]
    refine (rdel_no rb v0 L w k h s (by omega) hg).mono ?_
    rintro e w' ⟨rfl, hm⟩
    exact h.same hm _
  | some u =>
    refine (rdel_yes rb v0 L w k u h s hL hg).mono ?_
    rintro e w' ⟨rfl, H⟩
    obtain ⟨v', q1, q2, q3⟩ := H.out
    exact ⟨rfl, hidb ⟨v', q1, .inr q2, q3.mono fun i _ e => .inl e⟩⟩
/-- A whole row of pairs as a source. -/
theorem lies_rowR {W : World} {B n cc : Nat} {ca : Option Addr} {L : Kvs} (hr : W.ownsRow B 73 2 (.slice ca n cc) L.length (cellsP L)) : Lies W (.slice ca n cc) L.length (cellsP L) := by
  rcases hr.2 with ⟨e, e0⟩ | ⟨g, cap, cur, e, hb, hc, hn, hm, hs, ht⟩
  · injection e with e1 e2 e3
    subst e1 e2
    have : L = [] := List.eq_nil_of_length_eq_zero e0
    subst this
    exact .inl ⟨cc, rfl, rfl, rfl⟩
  · injection e with e1 e2 e3
    subst e1 e2
    exact .inr ⟨_, _, rfl, fun j u hu => World.ownsRow.cells hr (g := g) rfl j u hu⟩
theorem wpList_app0 {P : Program} (w : World) {ops : Array Oper} {rest : List Oper} {o : Oper} {a : Act} {Q : Exit → Act → World → Prop} (hgd : o.guard = none) (s x : Operand) (t : TypeId) (ho : o.op = .call { callee := .builtin .append, args := #[s, x], argTypes := #[t, t] })
    {e : TypeId} {size bytes : Nat} (E : ElemN P t e size bytes) (base g : Nat) (hg : base ≤ g) (hgl : w.heap[g]? = some (.cells #[] e (0, 0))) (hv : a.eval s = .slice (some ⟨g, 0, none⟩) 0 0) (y : Value) (hyv : a.eval x = y) (m : Nat) (news : List Value) (hy : Lies w y m news) (hl : news.length = m * size) (h1 : ∀ u ∈ news, u.oneCell' = true)
    (h63 : m ≤ maxLen) (hbytes : m * bytes ≤ 140737488355328) (hbase : base ≤ w.heap.size)
    (h : ∀ v' w', w'.ownsRow base e size v' m news → Below w.heap.size w w' → wpList P ops Q rest (a.put o.dst v') w') : wpList P ops Q (o :: rest) a w :=
  wpList_plain hgd fun _ hK => wp_app0 w s x t ho E base g hg hgl hv y hyv m news hy hl h1 h63 hbytes hbase fun v' w' h2 h3 => hK _ _ (h v' w' h2 h3)
/-- A copy that is made. -/
def NewR (L : Kvs) (w : World) (mb : Nat) (w' : World) : Prop := ∃ v, RfAt mb v L w' ∧ w.heap.size ≤ mb ∧ (∀ q, v.ownBlock = some q → w.heap.size ≤ q) ∧ Below w.heap.size w w'
set_option maxRecDepth 100000 in
set_option maxHeartbeats 1000000 in
theorem rclone11 (rb : Nat) (v : Value) (L : Kvs) (w : World) (h : RfAt rb v L w) (hL : L.length ≤ 2000) :
    Calls Try.prog 31 #[.pointer (some ⟨rb, 0, none⟩)] w fun e w' => ∃ mb, e = .returned (.pointer (some ⟨mb, 0, none⟩)) ∧ Hid (NewR L w mb w') := by
  obtain ⟨va, vc, rfl, _⟩ := h.form
  have hb1 : Below w.heap.size w (w.alloc (.cells #[] 73)) := (Below.refl _ w).alloc (Nat.le_refl _) _
  have c1 := (h.below hb1).c
  have hl := lies_rowR (h.below hb1).row
  have HN : Hid (∀ v' w6, w6.ownsRow w.heap.size 73 2 v' L.length (cellsP L) → Below (w.alloc (.cells #[] 73)).heap.size (w.alloc (.cells #[] 73)) w6 → Hid (NewR L w w6.heap.size (w6.alloc (.cells #[v'] 56)))) := hidb fun v' w6 hr hb => hidb (by
    have hb2 : Below w.heap.size w w6 := hb1.trans (hb.mono (by simp))
    have hb3 : Below w6.heap.size w6 (w6.alloc (.cells #[v'] 56)) := (Below.refl _ w6).alloc (Nat.le_refl _) _
    exact ⟨v', ⟨heap_alloc_new w6 _, row_lower (row_below2 hr hb3) (Nat.zero_le _)⟩, hb2.size, fun q e => (row_cells hr q e).1, hb2.trans (hb3.mono hb2.size)⟩)
  have hlen : (cellsP L).length = L.length * 2 := cellsP_len L
  generalize hn : L.length = n at *
  have Hn := hidb hn
  clear h hn
  go_enter Try.func31, Try.ntmps31
  go_wp2_with (first
    | (at_builtin; refine wpList_app0 _ rfl _ _ 49 rfl elemN_pairR w.heap.size w.heap.size (Nat.le_refl _) (heap_alloc_new w _) rfl _ rfl n (cellsP L) hl hlen (cellsP_one L) (by unfold maxLen; omega) (by omega) (by simp) ?_; intro v' w6 ho hb6; obtain ⟨a6, c6, e6, _⟩ := row_form ho; subst e6; have K6 := HN.out _ w6 ho hb6)
    | fail)
  go_ret
  exact ⟨_, rfl, K6⟩
/-- The document's transaction: of the store at r, with its copy at mb. -/
def RTx (qb r mb : Nat) (w : World) : Prop := w.heap[qb]? = some (.cells #[.pointer (some ⟨r, 0, none⟩), .pointer (some ⟨mb, 0, none⟩)] 38 (0, 0))
theorem RTx.cells {qb r mb : Nat} {w : World} (h : RTx qb r mb w) : w.cell? ⟨qb, 0, none⟩ = some (.pointer (some ⟨r, 0, none⟩)) ∧ w.cell? ⟨qb, 1, none⟩ = some (.pointer (some ⟨mb, 0, none⟩)) := ⟨Lib.cell_of_heap h 0, Lib.cell_of_heap h 1⟩
theorem RTx.below {qb r mb : Nat} {w w' : World} (h : RTx qb r mb w) (k : Below w.heap.size w w') : RTx qb r mb w' := (k.block _ (heap_ltb h)).trans h
theorem RTx.kt {qb r mb : Nat} {w w' : World} {S : Nat → Prop} (h : RTx qb r mb w) (k : Kt S w w') (s : ¬ S qb) : RTx qb r mb w' := (k.block _ (heap_ltb h) s).trans h
set_option maxRecDepth 100000 in
theorem rbegin11 (rb : Nat) (v : Value) (L : Kvs) (w : World) (h : RfAt rb v L w) (hL : L.length ≤ 2000) :
    Calls Try.prog 7 #[.pointer (some ⟨rb, 0, none⟩)] w fun e w' => ∃ qb mb, e = .returned (.pointer (some ⟨qb, 0, none⟩)) ∧ Hid (RTx qb rb mb w' ∧ NewR L w mb w' ∧ w.heap.size ≤ qb) := by
  have HC := hidb (rclone11 rb v L w h hL)
  have HN : Hid (∀ mb w1, NewR L w mb w1 → Hid (RTx w1.heap.size rb mb (w1.alloc (.cells #[.pointer (some ⟨rb, 0, none⟩), .pointer (some ⟨mb, 0, none⟩)] 38)) ∧ NewR L w mb (w1.alloc (.cells #[.pointer (some ⟨rb, 0, none⟩), .pointer (some ⟨mb, 0, none⟩)] 38)) ∧ w.heap.size ≤ w1.heap.size)) := hidb fun mb w1 ⟨v, x1, x2, x3, x4⟩ => hidb (by
    have hb : Below w1.heap.size w1 (w1.alloc (.cells #[.pointer (some ⟨rb, 0, none⟩), .pointer (some ⟨mb, 0, none⟩)] 38)) := (Below.refl _ w1).alloc (Nat.le_refl _) _
    exact ⟨heap_alloc_new w1 _, ⟨v, x1.below hb, x2, x3, x4.trans (hb.mono x4.size)⟩, x4.size⟩)
  clear h
  go_enter Try.func7, Try.ntmps7
  go_wp2_with (first
    | (go_at_call 31; refine HC.out.mono ?_; clear HC; rintro e w1 ⟨mb, rfl, K1⟩; have K2 := HN.out mb w1 K1.out; clear HN)
    | fail)
  go_ret
  exact ⟨_, mb, rfl, K2⟩
set_option maxRecDepth 100000 in
theorem rwipe11 (qb r mb : Nat) (v : Value) (N : Kvs) (w : World) (k : Bt) (hq : RTx qb r mb w) (h : RfAt mb v N w) (s : SrtL N) (hN : N.length ≤ 512) (hk : k.length ≤ 9223372036854775807) :
    Calls Try.prog 12 #[.pointer (some ⟨qb, 0, none⟩), sv k] w fun e w' => e = .returned (.int .i64 (wipeE k)) ∧ Hid (∃ v', RfAt mb v' (wipeS N k) w' ∧ (v'.ownBlock = v.ownBlock ∨ ∀ q, v'.ownBlock = some q → w.heap.size ≤ q) ∧ Kt (fun i => i = mb ∨ v.ownBlock = some i) w w') := by
  obtain ⟨c0, c1⟩ := hq.cells
  have HD := hidb (rdel_any mb v N w k h s hN)
  have H0 := hidb h
  clear h hq
  by_cases hl : 32 < k.length
  · have hd : decide ((32 : Int) < k.length) = true := by simp; omega
    have e1 : wipeE k = 41 := by unfold wipeE longB; simp [hl]
    have e2 : wipeS N k = N := by unfold wipeS longB; simp [hl]
    rw [e1, e2]
    go_enter Try.func12, Try.ntmps12
    go_wp2_with fail
    go_ret
    exact ⟨rfl, hidb ⟨v, H0.out, .inl rfl, Kt.refl _ w⟩⟩
  · have hd : decide ((32 : Int) < k.length) = false := by simp; omega
    have e1 : wipeE k = 0 := by unfold wipeE longB; simp [hl]
    have e2 : wipeS N k = delL N k := by unfold wipeS longB; simp [hl]
    rw [e1, e2]
    go_enter Try.func12, Try.ntmps12
    go_wp2_with (first
      | (go_at_call 38; refine HD.out.mono ?_; clear HD; rintro e w1 ⟨rfl, K1⟩)
      | fail)
    go_ret
    exact ⟨rfl, K1⟩
theorem step_app0 {P : Program} (w : World) {ops : Array Oper} {o : Oper} {a : Act} {K : Act → World → Prop} {Q : Exit → Act → World → Prop} {X : Prop} (hgd : o.guard = none) (s x : Operand) (t : TypeId) (ho : o.op = .call { callee := .builtin .append, args := #[s, x], argTypes := #[t, t] })
    {e : TypeId} {size bytes : Nat} (E : ElemN P t e size bytes) (base g : Nat) (hg : base ≤ g) (hgl : w.heap[g]? = some (.cells #[] e (0, 0))) (hv : a.eval s = .slice (some ⟨g, 0, none⟩) 0 0) (y : Value) (hyv : a.eval x = y) (m : Nat) (news : List Value) (hy : Lies w y m news) (hl : news.length = m * size) (h1 : ∀ u ∈ news, u.oneCell' = true)
    (h63 : m ≤ maxLen) (hbytes : m * bytes ≤ 140737488355328) (hbase : base ≤ w.heap.size)
    (h : ∀ v' w', w'.ownsRow base e size v' m news → Below w.heap.size w w' → K (a.put o.dst v') w') :
    if Region.wanted o (yielded ops a.tmps) = true then Oper.wp P o a w K Q else X := by
  have hw : Region.wanted o (yielded ops a.tmps) = true := by simp [Region.wanted, hgd]
  rw [if_pos hw]
  exact wp_app0 w s x t ho E base g hg hgl hv y hyv m news hy hl h1 h63 hbytes hbase h
set_option maxRecDepth 100000 in
set_option maxHeartbeats 1000000 in
theorem rcommit11 (qb r mb : Nat) (v v2 : Value) (M N : Kvs) (w : World) (hq : RTx qb r mb w) (h1 : RfAt r v M w) (h2 : RfAt mb v2 N w) (hN : N.length ≤ 2000) (hne : r ≠ mb) :
    Calls Try.prog 18 #[.pointer (some ⟨qb, 0, none⟩)] w fun e w' => e = .returned (.int .i64 0) ∧ Hid (RFin w r N w') := by
  obtain ⟨na, nc, rfl, _⟩ := h2.form
  obtain ⟨c0, c1⟩ := hq.cells
  have c2 := h2.c
  have hqr : qb ≠ r := typ_ne hq h1.box (by decide)
  have hrq : r ≠ qb := hqr.symm
  have lr : r < w.heap.size := heap_ltb h1.box
  have lq : qb < w.heap.size := heap_ltb hq
  have lm : mb < w.heap.size := heap_ltb h2.box
  have HS : Hid (∀ W, Below w.heap.size w W → Lies W (.slice na N.length nc) N.length (cellsP N)) := hidb fun W hb => lies_rowR (h2.below hb).row
  have HE : Hid (∀ W u, Below w.heap.size w W → W.ownsRow w.heap.size 73 2 u N.length (cellsP N) → (W.cell? ⟨r, 0, none⟩ = some v ∧ W.frozen? ⟨r, 0, none⟩ = false) ∧ Hid (RFin w r N (W.setCell ⟨r, 0, none⟩ u))) := hidb fun W u hb hr => by
    have hbx := (hb.block r lr).trans h1.box
    exact ⟨⟨Lib.cell_of_heap hbx 0, Lib.frozen_of_heap hbx 0⟩, hidb (rfin_store ((Kt.refl (fun i => i = r) w).trans (below_toKt (S := fun i => w.heap.size ≤ i) hb fun i _ e => e) fun i hi e => by omega) hbx lr hr rfl rfl)⟩
  have hlen : (cellsP N).length = N.length * 2 := cellsP_len N
  generalize hn : N.length = n at *
  clear h1 h2 hq hn
  go_enter Try.func18, Try.ntmps18
  go_wp2_with fail
  have hb1 : Below w.heap.size w (w.drew.alloc (.cells #[] 73)) := (Below.refl _ w).drew.alloc (Nat.le_refl _) _
  have hl := HS.out _ hb1
  go_region_held3 (fun W => W.cell? ⟨qb, 0, none⟩ = some (.pointer (some ⟨r, 0, none⟩)) ∧ W.cell? ⟨qb, 1, none⟩ = some (.pointer (some ⟨mb, 0, none⟩)) ∧ W.cell? ⟨mb, 0, none⟩ = some (.slice na n nc)) (first | exact ⟨x0, x1, x2⟩ | go_keep) (first
    | (refine step_app0 _ rfl (.tmp 7) (.tmp 14) 49 rfl elemN_pairR w.heap.size w.heap.size (Nat.le_refl _) (heap_alloc_new w.drew _) rfl _ rfl n (cellsP N) hl hlen (cellsP_one N) (by unfold maxLen; omega) (by omega) (by simp) ?_; intro v' w6 ho hb6; obtain ⟨a6, c6, e6, _⟩ := row_form ho; subst e6; have hb7 := hb1.trans (hb6.mono (by simp)); obtain ⟨⟨y1, y2⟩, K6⟩ := HE.out w6 _ hb7 ho; have x0 := (hb7.cell (p := ⟨qb, 0, none⟩) lq).trans c0; have x1 := (hb7.cell (p := ⟨qb, 1, none⟩) lq).trans c1; have x2 := (hb7.cell (p := ⟨mb, 0, none⟩) lm).trans c2))
  all_goals
    go_wp2_with fail
    go_ret
    exact ⟨rfl, K6⟩
end Go.Proofs.Ytcjakgogdbfagaa
namespace Go.Proofs.Ytcjakgogdbfagaa
open Go.RowKit
def MP (B n j : Nat) (L : Kvs) (x : Bt × Bt) (vb vq vr v0 v7 v28 ij ii vs pa : Value) (listed : Array Bool) (i : Nat) (u : Value) (W : World) : Prop :=
  match i with
  | 0 => u = vb
  | 1 => listed.getD 8 false = true ∨ ∃ g, u = .slice (some ⟨g, 0, none⟩) 0 0 ∧ B ≤ g ∧ W.heap[g]? = some (.cells #[] 73 (0, 0))
  | 2 => u = vb
  | 3 => u = vb
  | 4 => u = vb
  | 5 => u = v0
  | 6 => u = ij
  | 7 => u = v7
  | 8 => listed.getD 22 false = true ∨ W.ownsRow B 73 2 u j (cellsP (L.take j))
  | 9 => u = vq
  | 10 => u = vq
  | 11 => u = vq
  | 12 => u = vr
  | 13 => u = vr
  | 14 => u = vr
  | 15 => u = vs
  | 16 => u = ii
  | 17 => u = pa
  | 18 => u = pa
  | 19 => u = sv x.1
  | 20 => u = .agg #[sv x.1, sv []]
  | 21 => listed.getD 22 false = true ∨ ∃ g, u = .slice (some ⟨g, 0, none⟩) 1 1 ∧ W.heap[g]? = some (.cells #[sv x.1, sv []] 73 (0, 0))
  | 22 => listed.getD 29 false = true ∨ W.ownsRow B 73 2 u (j + 1) (cellsP (L.take j) ++ cellsP [(x.1, [])])
  | 23 => u = vb
  | 24 => u = vb
  | 25 => u = vb
  | 26 => u = v0
  | 27 => u = ij
  | 28 => u = v28
  | 29 => listed.getD 32 false = true ∨ W.ownsRow B 73 2 u (j + 1 + (n - j)) (cellsP (L.take j) ++ cellsP [(x.1, [])] ++ cellsP (L.drop j))
  | 30 => u = vb
  | 31 => u = vb
  | _ => True
theorem MP.below {B n j : Nat} {L : Kvs} {x : Bt × Bt} {vb vq vr v0 v7 v28 ij ii vs pa : Value} {listed : Array Bool} {W W' : World} (hb : Below W.heap.size W W') {i : Nat} : ∀ k u, listed.getD k false = true → MP B n j L x vb vq vr v0 v7 v28 ij ii vs pa listed k u W → MP B n j L x vb vq vr v0 v7 v28 ij ii vs pa (listed.setIfInBounds i true) k u W' := by
  intro k u _ h
  unfold MP at h ⊢
  split at h
  all_goals first
    | exact h
    | exact h.imp getD_moreK fun h => row_below2 h hb
    | (refine h.imp getD_moreK fun h => ?_
       obtain ⟨g, rfl, h1, hg⟩ := h
       exact ⟨g, rfl, h1, by rw [hb.block g (Array.getElem?_eq_some_iff.1 hg).1]; exact hg⟩)
    | (refine h.imp getD_moreK fun h => ?_
       obtain ⟨g, rfl, hg⟩ := h
       exact ⟨g, rfl, by rw [hb.block g (Array.getElem?_eq_some_iff.1 hg).1]; exact hg⟩)
def RG32 (w : World) (rb : Nat) (L' : Kvs) (listed : Array Bool) (W : World) : Prop := Kt (fun i => i = rb) w W ∧ (listed.getD 32 false = true → RFin w rb L' W) ∧ (listed.getD 32 false = false → W.heap[rb]? = w.heap[rb]?)
theorem RG32.below {w : World} {rb : Nat} {L' : Kvs} {listed : Array Bool} {W W' : World} {i : Nat} (h : RG32 w rb L' listed W) (hl : rb < W.heap.size) (hi : i ≠ 32) (hb : Below W.heap.size W W') : RG32 w rb L' (listed.setIfInBounds i true) W' :=
  ⟨h.1.trans (Kt.below hb) fun _ _ e => e, fun e => (h.2.1 (by rwa [getD_ne hi] at e)).below hb, fun e => (hb.block _ hl).trans (h.2.2 (by rwa [getD_ne hi] at e))⟩
/-- The keys of both. -/
def unA (N M : Kvs) : Kvs := M.foldl (fun A x => if (getL A x.1).isSome then A else putL A x.1 []) N
theorem unA_snoc {N M : Kvs} {i : Nat} (h : i < M.length) : unA N (M.take (i + 1)) = if (getL (unA N (M.take i)) M[i].1).isSome then unA N (M.take i) else putL (unA N (M.take i)) M[i].1 [] := by
  unfold unA
  rw [List.take_succ_eq_append_getElem h, List.foldl_append]
  rfl
theorem unA_srt (M : Kvs) : ∀ {N : Kvs}, SrtL N → SrtL (unA N M) := by
  unfold unA
  induction M with
  | nil => exact fun h => h
  | cons x M ih =>
    intro N h
    rw [List.foldl_cons]
    apply ih
    split
    · exact h
    · exact putL_srt h _ _
theorem unA_len (M : Kvs) : ∀ {N : Kvs}, SrtL N → (unA N M).length ≤ N.length + M.length := by
  unfold unA
  induction M with
  | nil => exact fun _ => Nat.le_refl _
  | cons x M ih =>
    intro N h
    rw [List.foldl_cons, List.length_cons]
    split
    · have := ih h
      omega
    · have := ih (putL_srt h x.1 [])
      have h2 := putL_len h (k := x.1) (v := [])
      split at h2 <;> omega
theorem unA_get (k : Bt) (M : Kvs) : ∀ {N : Kvs}, getL (unA N M) k = if (getL N k).isSome then getL N k else if (getL M k).isSome then some [] else none := by
  unfold unA
  induction M with
  | nil =>
    intro N
    simp only [List.foldl_nil, getL]
    cases getL N k <;> simp
  | cons x M ih =>
    intro N
    obtain ⟨a, b⟩ := x
    rw [List.foldl_cons, ih, getL]
    simp only
    split
    · rename_i hs
      by_cases e : a = k
      · subst e
        simp [hs]
      · simp [e]
    · rename_i hs
      rw [getL_putL]
      by_cases e : a = k
      · subst e
        simp [hs]
      · simp [e]
theorem getL_filterK {p : Bt → Bool} (k : Bt) : ∀ (A : Kvs), getL (A.filter fun x => p x.1) k = if p k then getL A k else none
  | [] => by simp [getL]
  | (a, b) :: A => by
    rw [List.filter_cons]
    by_cases e : a = k
    · subst e
      by_cases hp : p a = true
      · simp [hp, getL]
      · simp only [hp, Bool.false_eq_true, if_false]
        rw [getL_filterK a A]
        simp [hp]
    · split
      · rw [getL, getL, if_neg e, if_neg e, getL_filterK k A]
      · rw [getL, if_neg e, getL_filterK k A]
/-- What differs. -/
def difB (M N : Kvs) (k : Bt) : Bool := decide (getL M k ≠ getL N k)
def chgD (M N A : Kvs) : Kvs := A.filter fun x => difB M N x.1
theorem chgD_difs {M N : Kvs} (h : SrtL N) : Difs M N (chgD M N (unA N M)) := by
  refine ⟨List.Pairwise.filter _ (unA_srt M h), fun k => ?_⟩
  unfold chgD dif
  rw [getL_filterK k, unA_get]
  unfold difB
  by_cases e : getL M k = getL N k
  · simp [e]
  · simp only [ne_eq, e, not_false_eq_true, decide_true, if_true, if_false]
    cases hN : getL N k with
    | some v => simp
    | none =>
      rw [hN] at e
      cases hM : getL M k with
      | some v => simp
      | none => exact absurd hM e
end Go.Proofs.Ytcjakgogdbfagaa
