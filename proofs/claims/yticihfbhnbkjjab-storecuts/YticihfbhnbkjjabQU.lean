/- Layer 11: a transaction's Load and Save. -/
import Derived.Test.YticihfbhnbkjjabQT
namespace Go.Proofs.Yticihfbhnbkjjab
open Go.RowKit
section
variable {b : TxB} {L S D : Kvs} {more : Int} {w : World}
theorem TxAt.x0 (h : TxAt b L S D more w) : w.cell? ⟨b.xb, 0, none⟩ = some (.pointer (some ⟨b.tb, 0, none⟩)) := Lib.cell_of_heap h.box 0
theorem TxAt.x1 (h : TxAt b L S D more w) : w.cell? ⟨b.xb, 1, none⟩ = some (.pointer (some ⟨b.cb, 0, none⟩)) := Lib.cell_of_heap h.box 1
theorem TxAt.y0 (h : TxAt b L S D more w) : w.cell? ⟨b.cb, 0, none⟩ = some (.pointer (some ⟨b.sb, 0, none⟩)) := Lib.cell_of_heap h.cbx 0
theorem TxAt.y1 (h : TxAt b L S D more w) : w.cell? ⟨b.cb, 1, none⟩ = some (.pointer (some ⟨b.wb, 0, none⟩)) := Lib.cell_of_heap h.cbx 1
theorem TxAt.y2 (h : TxAt b L S D more w) : w.cell? ⟨b.cb, 2, none⟩ = some (.int .i64 more) := Lib.cell_of_heap h.cbx 2
theorem TxAt.keepAll {w' : World} (h : TxAt b L S D more w) (k : ∀ i ∈ b.l, w'.heap[i]? = w.heap[i]?) : TxAt b L S D more w' :=
  ⟨(k _ (by simp [TxB.l])).trans h.box, (k _ (by simp [TxB.l])).trans h.cbx, h.t.keep (k _ (by simp [TxB.l])) (k _ (by simp [TxB.l])), h.s.keep (k _ (by simp [TxB.l])) (k _ (by simp [TxB.l])), h.d.keep (k _ (by simp [TxB.l])) (k _ (by simp [TxB.l])), h.nd⟩
theorem TxAt.drewN (h : TxAt b L S D more w) (M : Nat) : TxAt b L S D more (w.drewN M) := h.keepAll fun _ _ => rfl
theorem TxAt.lts (h : TxAt b L S D more w) : ∀ i ∈ b.l, i < w.heap.size := fun i hi => by
  simp only [TxB.l, List.mem_cons, List.not_mem_nil, or_false] at hi
  rcases hi with rfl | rfl | rfl | rfl | rfl | rfl | rfl | rfl
  · exact heap_ltb h.box
  · exact heap_ltb h.cbx
  · exact h.t.lts.1
  · exact h.t.lts.2.1
  · exact h.s.lts.1
  · exact h.s.lts.2.1
  · exact h.d.lts.1
  · exact h.d.lts.2.1
theorem TxAt.below {w' : World} (h : TxAt b L S D more w) (k : Below w.heap.size w w') : TxAt b L S D more w' := h.keepAll fun i hi => k.block i (h.lts i hi)
end
/-- What a transaction shows of a key. -/
def loadL (L S D : Kvs) (k : Bt) : Option Bt := if (getL D k).isSome then none else match getL S k with
  | some v => some v
  | none => getL L k
set_option maxRecDepth 100000 in
set_option maxHeartbeats 1000000 in
theorem load_any (b : TxB) (L S D : Kvs) (more : Int) (w : World) (k : Bt) (h : TxAt b L S D more w) : Calls Try.prog 11 #[.pointer (some ⟨b.xb, 0, none⟩), sv k] w fun e w' => e = .returned (.tuple #[sv ((loadL L S D k).getD []), .bool (loadL L S D k).isSome]) ∧ ∃ m, w' = w.drewN m := by
  have HM := hidb (txmade_any b.xb w b.tb h.x0)
  have HD := hidb (has_t b.wb b.wg D w k h.d)
  have HG := hidb fun M => get_t b.sb b.sg S (w.drewN M) k (h.s.drewN M)
  have HT := hidb fun M => get_t b.tb b.g L (w.drewN M) k (h.t.drewN M)
  have x0 := h.x0
  have x1 := h.x1
  have y0 := h.y0
  have y1 := h.y1
  clear h
  generalize b.xb = xb at *
  generalize b.tb = tb at *
  generalize b.cb = cb at *
  generalize b.sb = sb at *
  generalize b.wb = wb at *
  unfold loadL
  cases hd : getL D k with
  | some u =>
    rw [hd] at HD
    clear HG HT
    go_enter Try.func11, Try.ntmps11
    go_wp2_with (first
      | (go_at_call 31; refine HM.out.mono ?_; clear HM; rintro e w1 ⟨rfl, rfl⟩)
      | (go_at_call 35; refine HD.out.mono ?_; clear HD; rintro e w2 ⟨rfl, m2, rfl⟩)
      | fail)
    go_ret2
    exact ⟨rfl, m2, rfl⟩
  | none =>
    rw [hd] at HD
    cases hs : getL S k with
    | some u =>
      rw [hs] at HG
      clear HT
      go_enter Try.func11, Try.ntmps11
      go_wp2_with (first
        | (go_at_call 31; refine HM.out.mono ?_; clear HM; rintro e w1 ⟨rfl, rfl⟩)
        | (go_at_call 35; refine HD.out.mono ?_; clear HD; rintro e w2 ⟨rfl, m2, rfl⟩)
        | (go_at_call 36; refine (HG.out _).mono ?_; clear HG; rintro e w3 ⟨rfl, m3, rfl⟩)
        | fail)
      go_ret2
      exact ⟨rfl, _, rfl⟩
    | none =>
      rw [hs] at HG
      simp only [Option.isSome_none, Bool.false_eq_true, if_false]
      generalize (getL L k).getD [] = v at *
      generalize (getL L k).isSome = bb at *
      go_enter Try.func11, Try.ntmps11
      go_wp2_with (first
        | (go_at_call 31; refine HM.out.mono ?_; clear HM; rintro e w1 ⟨rfl, rfl⟩)
        | (go_at_call 35; refine HD.out.mono ?_; clear HD; rintro e w2 ⟨rfl, m2, rfl⟩)
        | (go_at_call 36; refine (HG.out _).mono ?_; clear HG; rintro e w3 ⟨rfl, m3, rfl⟩)
        | (go_at_call 36; refine (HT.out _).mono ?_; clear HT; rintro e w4 ⟨rfl, m4, rfl⟩)
        | fail)
      go_ret2
      exact ⟨rfl, _, rfl⟩
section
variable {b : TxB} {L S D : Kvs} {more : Int} {w w' : World}
theorem TxAt.wipe {D' : Kvs} (h : TxAt b L S D more w) (t : TreeAt b.wb b.wg D' w') (k : Kt (fun i => i = b.wb ∨ i = b.wg) w w') : TxAt b L S D' more w' :=
  ⟨(k.block _ (heap_ltb h.box) (fun e => e.elim (fun e => h.nd.xw e) (fun e => h.nd.xv e))).trans h.box, (k.block _ (heap_ltb h.cbx) (fun e => e.elim (fun e => h.nd.cw e) (fun e => h.nd.cv e))).trans h.cbx, h.t.kt k (fun e => e.elim (fun e => h.nd.tw e) (fun e => h.nd.tv e)) (fun e => e.elim (fun e => h.nd.gw e) (fun e => h.nd.gv e)), h.s.kt k (fun e => e.elim (fun e => h.nd.sw e) (fun e => h.nd.sv e)) (fun e => e.elim (fun e => h.nd.hw e) (fun e => h.nd.hv e)), t, h.nd⟩
theorem ne_new {x y sg' n : Nat} (hx : x < n) (hne : x ≠ y) (hs : sg' = y ∨ n ≤ sg') : x ≠ sg' := by
  rcases hs with rfl | h
  · exact hne
  · exact Nat.ne_of_lt (Nat.lt_of_lt_of_le hx h)
theorem TxAt.save {S' : Kvs} {sg' : Nat} (h : TxAt b L S D more w) (t : TreeAt b.sb sg' S' w') (hs : sg' = b.sg ∨ w.heap.size ≤ sg') (k : Kt (fun i => i = b.sb ∨ i = b.sg) w w') : TxAt { b with sg := sg' } L S' D more w' :=
  ⟨(k.block _ (heap_ltb h.box) (fun e => e.elim (fun e => h.nd.xs e) (fun e => h.nd.xh e))).trans h.box, (k.block _ (heap_ltb h.cbx) (fun e => e.elim (fun e => h.nd.cs e) (fun e => h.nd.ch e))).trans h.cbx, h.t.kt k (fun e => e.elim (fun e => h.nd.ts e) (fun e => h.nd.th e)) (fun e => e.elim (fun e => h.nd.gs e) (fun e => h.nd.gh e)), t, h.d.kt k (fun e => e.elim (fun e => h.nd.sw.symm e) (fun e => h.nd.hw.symm e)) (fun e => e.elim (fun e => h.nd.sv.symm e) (fun e => h.nd.hv.symm e)),
    ⟨h.nd.xc, h.nd.xt, h.nd.xg, h.nd.xs, ne_new (heap_ltb h.box) h.nd.xh hs, h.nd.xw, h.nd.xv, h.nd.ct, h.nd.cg, h.nd.cs, ne_new (heap_ltb h.cbx) h.nd.ch hs, h.nd.cw, h.nd.cv, h.nd.tg, h.nd.ts, ne_new (h.t.lts.1) h.nd.th hs, h.nd.tw, h.nd.tv, h.nd.gs, ne_new (h.t.lts.2.1) h.nd.gh hs, h.nd.gw, h.nd.gv, ne_new (h.s.lts.1) h.nd.sh hs, h.nd.sw, h.nd.sv, (ne_new (h.d.lts.1) h.nd.hw.symm hs).symm, (ne_new (h.d.lts.2.1) h.nd.hv.symm hs).symm, h.nd.wv⟩⟩
theorem TxAt.setMore (h : TxAt b L S D more w) (m' : Int) : TxAt b L S D m' (w.setCell ⟨b.cb, 2, none⟩ (.int .i64 m')) :=
  ⟨(Below.heap_setCell _ _ _ _ h.nd.xc).trans h.box, by rw [heap_setCell_same _ _ _ _ _ _ h.cbx]; rfl, h.t.keep (Below.heap_setCell _ _ _ _ h.nd.ct.symm) (Below.heap_setCell _ _ _ _ h.nd.cg.symm), h.s.keep (Below.heap_setCell _ _ _ _ h.nd.cs.symm) (Below.heap_setCell _ _ _ _ h.nd.ch.symm), h.d.keep (Below.heap_setCell _ _ _ _ h.nd.cw.symm) (Below.heap_setCell _ _ _ _ h.nd.cv.symm), h.nd⟩
end
/-- What a call of a transaction leaves that changes it alone. -/
def XEnd (b : TxB) (L S' D' : Kvs) (m' : Int) (v : Value) (w : World) (e : Ending) (w' : World) : Prop := e = .returned v ∧ Hid (∃ sg', TxAt { b with sg := sg' } L S' D' m' w' ∧ (sg' = b.sg ∨ w.heap.size ≤ sg') ∧ Kt (fun i => i = b.cb ∨ i = b.sb ∨ i = b.sg ∨ i = b.wb ∨ i = b.wg) w w')
def saveE (L S D : Kvs) (more : Int) (k v : Bt) : Int := if longB k v then 41 else if loadL L S D k = none ∧ 512 ≤ (L.length : Int) + more then 45 else 0
theorem XEnd.same {b : TxB} {L S D : Kvs} {more : Int} {w : World} (h : TxAt b L S D more w) (m : Nat) (v : Value) : XEnd b L S D more v w (.returned v) (w.drewN m) := ⟨rfl, hidb ⟨b.sg, h.drewN m, .inl rfl, (Kt.refl _ w).drewN m⟩⟩
/-- Save, the key's size being right. -/
theorem save_ok_of {b : TxB} {L S D : Kvs} {more : Int} {w W : World} {k v : Bt} (h : TxAt b L S D more W) (hk0 : Kt (fun i => i = b.cb ∨ i = b.sb ∨ i = b.sg ∨ i = b.wb ∨ i = b.wg) w W) (hw : w.heap.size = W.heap.size) (hk : k.length ≤ 281474976710656) (hv : v.length ≤ 281474976710656) (hS : (S.length + 2) * 56 ≤ 140737488355328) :
    Calls Try.prog 33 #[.pointer (some ⟨b.wb, 0, none⟩), sv k] W fun e w2 => ∃ r, e = .returned (.bool r) ∧ (w2.cell? ⟨b.xb, 1, none⟩ = some (.pointer (some ⟨b.cb, 0, none⟩)) ∧ w2.cell? ⟨b.cb, 0, none⟩ = some (.pointer (some ⟨b.sb, 0, none⟩))) ∧
      Hid (Calls Try.prog 34 #[.pointer (some ⟨b.sb, 0, none⟩), sv k, sv v] w2 fun e w3 => e = .returned (.tuple #[]) ∧ Hid (XEnd b L (putL S k v) (delL D k) more (.int .i64 0) w (.returned (.int .i64 0)) w3)) := by
  refine (remove_any b.wb b.wg D W k h.d).mono fun e w2 ⟨e1, H⟩ => ⟨_, e1, ?_⟩
  obtain ⟨t2, k2⟩ := H.out
  have h2 := h.wipe t2 k2
  refine ⟨⟨h2.x1, h2.y0⟩, hidb ((put_any b.sb b.sg S w2 k v h2.s hk hv hS).mono fun e w3 ⟨e2, H3⟩ => ⟨e2, ?_⟩)⟩
  obtain ⟨g', t3, x3, k3⟩ := H3.out
  have h3 := h2.save t3 x3 k3
  have hsz := k2.size
  refine hidb ⟨rfl, hidb ⟨g', h3, x3.imp id fun x => by omega, ?_⟩⟩
  exact (hk0.trans (k2.mono (R := fun i => i = b.cb ∨ i = b.sb ∨ i = b.sg ∨ i = b.wb ∨ i = b.wg) fun i _ e => by rcases e with e | e <;> simp [e]) fun _ _ e => e).trans (k3.mono (R := fun i => i = b.cb ∨ i = b.sb ∨ i = b.sg ∨ i = b.wb ∨ i = b.wg) fun i _ e => by rcases e with e | e <;> simp [e]) fun _ _ e => e
end Go.Proofs.Yticihfbhnbkjjab
