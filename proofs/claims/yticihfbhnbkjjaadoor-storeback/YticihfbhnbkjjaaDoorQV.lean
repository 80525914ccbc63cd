/- Layer 11: a transaction's Save. Layer 11: a transaction's Changes. -/
import Derived.Test.YticihfbhnbkjjaaDoorQT
import Derived.Test.YticihfbhnbkjjaaDoorQQ
namespace Go.Proofs.YticihfbhnbkjjaaDoor
open Go.RowKit
set_option maxRecDepth 100000 in
set_option maxHeartbeats 1000000 in
theorem save_long (b : TxB) (L S D : Kvs) (more : Int) (w : World) (k v : Bt) (h : TxAt b L S D more w) (hk : k.length ≤ 9223372036854775807) (hv : v.length ≤ 9223372036854775807) (hl : longB k v = true) :
    Calls Tryd.prog 21 #[.pointer (some ⟨b.xb, 0, none⟩), sv k, sv v] w (XEnd b L S D more (.int .i64 41) w) := by
  have HM := hidb (txmade_any b.xb w b.tb h.x0)
  have HI := hidb (isLong_any k v w hk hv)
  rw [hl] at HI
  have HE := hidb (XEnd.same h 0 (.int .i64 41))
  clear h
  go_enter Tryd.func21, Tryd.ntmps21
  go_wp2_with (first
    | (go_at_call 40; refine HM.out.mono ?_; clear HM; rintro e w1 ⟨rfl, rfl⟩)
    | (go_at_call 42; refine HI.out.mono ?_; clear HI; rintro e w1 ⟨rfl, rfl⟩)
    | fail)
  go_ret
  exact HE.out
set_option maxRecDepth 100000 in
set_option maxHeartbeats 1000000 in
theorem save_old (b : TxB) (L S D : Kvs) (more : Int) (w : World) (k v : Bt) (h : TxAt b L S D more w) (hk : k.length ≤ 9223372036854775807) (hv : v.length ≤ 9223372036854775807) (hl : longB k v = false) (hS : (S.length + 2) * 56 ≤ 140737488355328) (u : Bt) (hld : loadL L S D k = some u) :
    Calls Tryd.prog 21 #[.pointer (some ⟨b.xb, 0, none⟩), sv k, sv v] w (XEnd b L (putL S k v) (delL D k) more (.int .i64 0) w) := by
  have HM := hidb (txmade_any b.xb w b.tb h.x0)
  have HI := hidb (isLong_any k v w hk hv)
  have HL := hidb (load_any b L S D more w k h)
  rw [hl] at HI
  rw [hld] at HL
  have HR := hidb fun M => save_ok_of (w := w) (k := k) (v := v) (h.drewN M) ((Kt.refl _ w).drewN M) rfl (long_small hl).1 (long_small hl).2 hS
  have x1 := h.x1
  have y1 := h.y1
  clear h hS
  generalize b.xb = xb at *
  generalize b.cb = cb at *
  generalize b.sb = sb at *
  generalize b.wb = wb at *
  go_enter Tryd.func21, Tryd.ntmps21
  go_wp2_with (first
    | (go_at_call 40; refine HM.out.mono ?_; clear HM; rintro e w1 ⟨rfl, rfl⟩)
    | (go_at_call 42; refine HI.out.mono ?_; clear HI; rintro e w1 ⟨rfl, rfl⟩)
    | (go_at_call 11; refine HL.out.mono ?_; clear HL; rintro e w2 ⟨rfl, m2, rfl⟩)
    | (go_at_call 45; refine (HR.out _).mono ?_; clear HR; rintro e w3 ⟨r3, rfl, ⟨q1, q2⟩, K3⟩)
    | (go_at_call 44; refine K3.out.mono ?_; clear K3; rintro e w4 ⟨rfl, K4⟩)
    | fail)
  go_ret
  exact K4.out
set_option maxRecDepth 100000 in
set_option maxHeartbeats 1000000 in
theorem save_new (b : TxB) (L S D : Kvs) (more : Int) (w : World) (k v : Bt) (h : TxAt b L S D more w) (hk : k.length ≤ 9223372036854775807) (hv : v.length ≤ 9223372036854775807) (hl : longB k v = false) (hS : (S.length + 2) * 56 ≤ 140737488355328) (hld : loadL L S D k = none) (hm0 : -1000000 ≤ more) (hm1 : more ≤ 1000000) (hL : L.length ≤ 1000000) (hr : ¬ 512 ≤ (L.length : Int) + more) :
    Calls Tryd.prog 21 #[.pointer (some ⟨b.xb, 0, none⟩), sv k, sv v] w (XEnd b L (putL S k v) (delL D k) (more + 1) (.int .i64 0) w) := by
  have HM := hidb (txmade_any b.xb w b.tb h.x0)
  have HI := hidb (isLong_any k v w hk hv)
  have HL := hidb (load_any b L S D more w k h)
  rw [hl] at HI
  rw [hld] at HL
  have HA : Hid (∀ m W, W = w.drewN m → (∀ M, Calls Tryd.prog 43 #[.pointer (some ⟨b.tb, 0, none⟩)] (W.drewN M) fun e w' => e = .returned (.int .i64 (L.length : Nat)) ∧ w' = W.drewN M) ∧ (W.cell? ⟨b.xb, 0, none⟩ = some (.pointer (some ⟨b.tb, 0, none⟩)) ∧ W.cell? ⟨b.xb, 1, none⟩ = some (.pointer (some ⟨b.cb, 0, none⟩)) ∧ W.cell? ⟨b.cb, 1, none⟩ = some (.pointer (some ⟨b.wb, 0, none⟩)) ∧ W.cell? ⟨b.cb, 2, none⟩ = some (.int .i64 more) ∧ W.frozen? ⟨b.cb, 2, none⟩ = false) ∧
      ∀ M N, Calls Tryd.prog 45 #[.pointer (some ⟨b.wb, 0, none⟩), sv k] (((W.drewN M).setCell ⟨b.cb, 2, none⟩ (.int .i64 (more + 1))).drewN N) fun e w2 => ∃ r, e = .returned (.bool r) ∧ (w2.cell? ⟨b.xb, 1, none⟩ = some (.pointer (some ⟨b.cb, 0, none⟩)) ∧ w2.cell? ⟨b.cb, 0, none⟩ = some (.pointer (some ⟨b.sb, 0, none⟩))) ∧
        Hid (Calls Tryd.prog 44 #[.pointer (some ⟨b.sb, 0, none⟩), sv k, sv v] w2 fun e w3 => e = .returned (.tuple #[]) ∧ Hid (XEnd b L (putL S k v) (delL D k) (more + 1) (.int .i64 0) w (.returned (.int .i64 0)) w3))) := hidb fun m W hW => by
    have hT : TxAt b L S D more W := by rw [hW]; exact h.drewN m
    have hK : Kt (fun i => i = b.cb ∨ i = b.sb ∨ i = b.sg ∨ i = b.wb ∨ i = b.wg) w W := by rw [hW]; exact (Kt.refl _ w).drewN m
    have hz : w.heap.size = W.heap.size := by rw [hW]; rfl
    exact ⟨fun M => count_t b.tb b.g L (W.drewN M) (hT.t.drewN M), ⟨hT.x0, hT.x1, hT.y1, hT.y2, Lib.frozen_of_heap hT.cbx 2⟩, fun M N => save_ok_of (w := w) (k := k) (v := v) (((hT.drewN M).setMore (more + 1)).drewN N) (((hK.drewN M).set fun _ => .inl rfl).drewN N) (by simpa using hz) (long_small hl).1 (long_small hl).2 hS⟩
  have hxc : ¬ b.xb = b.cb := h.nd.xc
  have hxc2 : ¬ b.cb = b.xb := h.nd.xc.symm
  have hd : decide (512 ≤ (L.length : Int) + more) = false := by simpa using hr
  clear h hS hr
  generalize b.xb = xb at *
  generalize b.cb = cb at *
  generalize b.sb = sb at *
  generalize b.wb = wb at *
  generalize b.tb = tb at *
  generalize L.length = ll at *
  go_enter Tryd.func21, Tryd.ntmps21
  go_wp2_with (first
    | (go_at_call 40; refine HM.out.mono ?_; clear HM; rintro e w1 ⟨rfl, rfl⟩)
    | (go_at_call 42; refine HI.out.mono ?_; clear HI; rintro e w1 ⟨rfl, rfl⟩)
    | (go_at_call 11; refine HL.out.mono ?_; clear HL; rintro e w2 ⟨rfl, m2, rfl⟩)
    | fail)
  obtain ⟨W, hW⟩ : ∃ W, W = w1.drewN m2 := ⟨_, rfl⟩
  obtain ⟨hC, ⟨x0, x1, y1, y2, z2⟩, hR⟩ := HA.out m2 W hW
  have HC := hidb hC
  have HR := hidb hR
  rw [← hW]
  clear hW HA hC hR
  go_quiet ((go_at_call 43; exact Calls.quiet_of_same (HC.out _)))
  go_wp2_with (first
    | (go_at_call 45; refine (HR.out _ 0).mono ?_; clear HR; rintro e w3 ⟨r3, rfl, ⟨q1, q2⟩, K3⟩)
    | (go_at_call 44; refine K3.out.mono ?_; clear K3; rintro e w4 ⟨rfl, K4⟩)
    | fail)
  go_ret
  exact K4.out
set_option maxRecDepth 100000 in
set_option maxHeartbeats 1000000 in
theorem save_full (b : TxB) (L S D : Kvs) (more : Int) (w : World) (k v : Bt) (h : TxAt b L S D more w) (hk : k.length ≤ 9223372036854775807) (hv : v.length ≤ 9223372036854775807) (hl : longB k v = false) (hld : loadL L S D k = none) (hm0 : -1000000 ≤ more) (hm1 : more ≤ 1000000) (hL : L.length ≤ 1000000) (hr : 512 ≤ (L.length : Int) + more) :
    Calls Tryd.prog 21 #[.pointer (some ⟨b.xb, 0, none⟩), sv k, sv v] w (XEnd b L S D more (.int .i64 45) w) := by
  have HM := hidb (txmade_any b.xb w b.tb h.x0)
  have HI := hidb (isLong_any k v w hk hv)
  have HL := hidb (load_any b L S D more w k h)
  rw [hl] at HI
  rw [hld] at HL
  have HA : Hid (∀ m W, W = w.drewN m → (∀ M, Calls Tryd.prog 43 #[.pointer (some ⟨b.tb, 0, none⟩)] (W.drewN M) fun e w' => e = .returned (.int .i64 (L.length : Nat)) ∧ w' = W.drewN M) ∧ (W.cell? ⟨b.xb, 0, none⟩ = some (.pointer (some ⟨b.tb, 0, none⟩)) ∧ W.cell? ⟨b.xb, 1, none⟩ = some (.pointer (some ⟨b.cb, 0, none⟩)) ∧ W.cell? ⟨b.cb, 2, none⟩ = some (.int .i64 more)) ∧
      ∀ M, XEnd b L S D more (.int .i64 45) w (.returned (.int .i64 45)) (W.drewN M)) := hidb fun m W hW => by
    have hT : TxAt b L S D more W := by rw [hW]; exact h.drewN m
    exact ⟨fun M => count_t b.tb b.g L (W.drewN M) (hT.t.drewN M), ⟨hT.x0, hT.x1, hT.y2⟩, fun M => by rw [hW, World.drewN_drewN]; exact XEnd.same h _ _⟩
  have hd : decide (512 ≤ (L.length : Int) + more) = true := by simpa using hr
  clear h hr
  generalize b.xb = xb at *
  generalize b.cb = cb at *
  generalize b.tb = tb at *
  generalize L.length = ll at *
  go_enter Tryd.func21, Tryd.ntmps21
  go_wp2_with (first
    | (go_at_call 40; refine HM.out.mono ?_; clear HM; rintro e w1 ⟨rfl, rfl⟩)
    | (go_at_call 42; refine HI.out.mono ?_; clear HI; rintro e w1 ⟨rfl, rfl⟩)
    | (go_at_call 11; refine HL.out.mono ?_; clear HL; rintro e w2 ⟨rfl, m2, rfl⟩)
    | fail)
  obtain ⟨W, hW⟩ : ∃ W, W = w1.drewN m2 := ⟨_, rfl⟩
  obtain ⟨hC, ⟨x0, x1, y2⟩, hR⟩ := HA.out m2 W hW
  have HC := hidb hC
  have HR := hidb hR
  rw [← hW]
  clear hW HA hC hR
  go_quiet ((go_at_call 43; exact Calls.quiet_of_same (HC.out _)))
  go_wp2_with fail
  go_ret
  exact HR.out _
end Go.Proofs.YticihfbhnbkjjaaDoor
namespace Go.Proofs.YticihfbhnbkjjaaDoor
open Go.RowKit Go.Shelf
attribute [local go_sem] Oper.semAt_some
/-- The saved pairs that are new to the store, the wiped keys that it has. -/
def chgA (L S : Kvs) : Kvs := S.filter fun x => decide (getL L x.1 ≠ some x.2)
def chgB (L D : Kvs) : Kvs := (D.filter fun x => (getL L x.1).isSome).map fun x => (x.1, [])
def cellsP (L : Kvs) : List Value := L.flatMap fun x => [sv x.1, sv x.2]
theorem elemN_pair : ElemN Tryd.prog 44 62 2 32 := by
  refine ⟨Tryd.underlying44, ?_, by decide⟩
  obtain ⟨i, hi, h1, h2, h3⟩ := info_parts (show (Tryd.prog.info? 62).map (fun i => (i.zero, i.size, i.bytes)) = some (some (.agg #[.string ⟨#[]⟩, .string ⟨#[]⟩]), 2, 32) by kernel_rfl)
  exact ⟨i, _, hi, h1, h2, h3, rfl⟩
theorem cellsP_len : ∀ L : Kvs, (cellsP L).length = L.length * 2
  | [] => rfl
  | x :: L => by rw [cellsP, List.flatMap_cons, List.length_append, show (List.flatMap (fun x : Bt × Bt => [sv x.1, sv x.2]) L).length = L.length * 2 from cellsP_len L, List.length_cons]; simp; omega
theorem cellsP_app (A B : Kvs) : cellsP (A ++ B) = cellsP A ++ cellsP B := by simp [cellsP]
/-- While the changes are gathered: the transaction's box at Z, the list's at Z + 1. -/
structure ChI (b : TxB) (L S D : Kvs) (more : Int) (Z : Nat) (w : World) (acc : Kvs) (W : World) : Prop where
  tx : TxAt b L S D more W
  lt : ∀ i ∈ b.l, i < Z
  bt : W.heap[Z]? = some (.cells #[.pointer (some ⟨b.xb, 0, none⟩)] 34 (0, 0))
  bl : ∃ v, W.heap[Z + 1]? = some (.cells #[v] 44 (0, 0)) ∧ W.ownsRow (Z + 2) 62 2 v acc.length (cellsP acc)
  bel : Below Z w W
  siz : Z + 2 ≤ W.heap.size
theorem row_cells {W : World} {base n size : Nat} {e : TypeId} {v : Value} {xs : List Value} (h : W.ownsRow base e size v n xs) : ∀ g, v.ownBlock = some g → base ≤ g ∧ ∃ o, W.heap[g]? = some o ∧ o.isCells = true := by
  intro g hg
  rcases h.2 with ⟨rfl, _⟩ | ⟨g', cap, cur, rfl, hb, hc, _⟩
  · cases hg
  · simp [Value.ownBlock] at hg
    subst hg
    exact ⟨hb, _, hc, rfl⟩
theorem row_typed {W : World} {base n size g : Nat} {e : TypeId} {v : Value} {xs : List Value} (h : W.ownsRow base e size v n xs) (hg : v.ownBlock = some g) {cs : Array Value} {t : TypeId} (ht : W.heap[g]? = some (.cells cs t (0, 0))) : t = e := by
  rcases h.2 with ⟨rfl, _⟩ | ⟨g', cap, cur, rfl, hb, hc, _⟩
  · cases hg
  · simp [Value.ownBlock] at hg
    subst hg
    rw [hc] at ht
    injection ht with ht
    injection ht with _ ht
    exact ht.symm
theorem ChI.own {b : TxB} {L S D : Kvs} {more : Int} {Z B : Nat} {w : World} (hB : Z + 2 ≤ B) : OwnFrom B (fun acc W => ChI b L S D more Z w acc W) := by
  intro acc W W' row h hg hr
  have key : ∀ i < B, i < W.heap.size → W'.heap[i]? = W.heap[i]? := fun i hi hs => hg.block i hs fun e => by have := (hr i e.symm).1; omega
  obtain ⟨v, v1, v2⟩ := h.bl
  have hs := h.siz
  refine ⟨h.tx.keepAll fun i hi => key i (by have := h.lt i hi; omega) (h.tx.lts i hi), h.lt, (key _ (by omega) (by omega)).trans h.bt, ⟨v, (key _ (by omega) (by omega)).trans v1, ?_⟩, ?_, Nat.le_trans hs hg.size⟩
  · refine World.ownsRow.kept v2 hg ?_
    cases e : v.ownBlock with
    | none => exact .inl rfl
    | some g =>
      right
      intro e2
      obtain ⟨_, o, ho, hc⟩ := row_cells v2 g e
      obtain ⟨_, o', ho', hc'⟩ := hr g e2.symm
      rw [ho] at ho'
      cases ho'
      rw [hc] at hc'
      cases hc'
  · exact h.bel.trans ⟨hg.os, hg.tape, hg.output, hg.size, fun i hi => key i (by omega) (by omega)⟩
/-- One pair more. -/
theorem ChI.push {b : TxB} {L S D : Kvs} {more : Int} {Z : Nat} {w W w6 : World} {acc : Kvs} {x : Bt × Bt} {v v' : Value} {o : Obj} (h : ChI b L S D more Z w acc W) (h1 : W.heap[Z + 1]? = some (.cells #[v] 44 (0, 0))) (h2 : W.ownsRow (Z + 2) 62 2 v acc.length (cellsP acc)) (hr : w6.ownsRow (Z + 2) 62 2 v' (acc.length + 1) (cellsP acc ++ [sv x.1, sv x.2])) (hs : Step (W.alloc o) v w6 v') :
    (w6.cell? ⟨Z + 1, 0, none⟩ = some v ∧ w6.frozen? ⟨Z + 1, 0, none⟩ = false ∧ ∃ a n c, v' = .slice a n c) ∧ ChI b L S D more Z w (acc ++ [x]) (w6.setCell ⟨Z + 1, 0, none⟩ v') ∧ (∀ B, KeepsFrom B W (w6.setCell ⟨Z + 1, 0, none⟩ v')) ∧ (∀ i, i < W.heap.size → i ≠ Z + 1 → v.ownBlock ≠ some i → (w6.setCell ⟨Z + 1, 0, none⟩ v').heap[i]? = W.heap[i]?) := by
  have hsz := h.siz
  have hgr : ∀ g, v.ownBlock = some g → Z + 2 ≤ g := fun g e => (row_cells h2 g e).1
  have blk : ∀ i, i < W.heap.size → i < Z + 2 → w6.heap[i]? = W.heap[i]? := fun i hi hz => (hs.1.block i (by simp; omega) fun e => by have := hgr i e.symm; omega).trans (Below.heap_alloc _ _ _ hi)
  have hb := (blk (Z + 1) (by omega) (by omega)).trans h1
  have blk2 : ∀ i, i < W.heap.size → i ≠ Z + 1 → i < Z + 2 → (w6.setCell ⟨Z + 1, 0, none⟩ v').heap[i]? = W.heap[i]? := fun i hi hn hz => (Below.heap_setCell _ _ _ _ hn).trans (blk i hi hz)
  obtain ⟨a6, c6, e6, _⟩ := row_form hr
  have hw6 : W.heap.size ≤ w6.heap.size := by have := hs.1.size; simp at this; omega
  refine ⟨⟨by rw [Lib.cell_of_heap hb]; rfl, Lib.frozen_of_heap hb 0, _, _, _, e6⟩, ⟨?_, h.lt, (blk2 _ (by omega) (by omega) (by omega)).trans h.bt, ⟨v', by rw [heap_setCell_same _ _ _ _ _ _ hb]; rfl, ?_⟩, ?_, ?_⟩, ?_, fun i hi hn hv => (Below.heap_setCell _ _ _ _ hn).trans ((hs.1.block i (by simp; omega) (fun e => hv e.symm)).trans (Below.heap_alloc _ _ _ hi))⟩
  · exact h.tx.keepAll fun i hi => blk2 i (h.tx.lts i hi) (by have := h.lt i hi; omega) (by have := h.lt i hi; omega)
  · rw [List.length_append, List.length_singleton, cellsP_app]
    refine World.ownsRow.kept (w' := w6.setCell ⟨Z + 1, 0, none⟩ v') (row := some (Z + 1)) (by simpa [cellsP] using hr) (grownBy_setCell' _ _ _) ?_
    cases e : v'.ownBlock with
    | none => exact .inl rfl
    | some g => right; intro e2; injection e2 with e2; have := (row_cells hr g e).1; omega
  · exact h.bel.trans ⟨hs.1.os, hs.1.tape, hs.1.output, by rw [World.size_setCell]; exact hw6, fun i hi => blk2 i (by omega) (by omega) (by omega)⟩
  · rw [World.size_setCell]; omega
  · intro B
    refine ⟨by rw [World.size_setCell]; exact hw6, fun k o' _ hk ho => ?_⟩
    have hkl := heap_ltb hk
    rw [Below.heap_setCell _ _ _ _ (fun e => by subst e; rw [h1] at hk; cases hk; cases ho)]
    rw [hs.1.block k (by simp; omega) (fun e => ?_), Below.heap_alloc _ _ _ hkl]
    · exact hk
    · obtain ⟨_, o2, ho2, hc2⟩ := row_cells h2 k e.symm
      rw [ho2] at hk
      cases hk
      rw [hc2] at ho
      cases ho
end Go.Proofs.YticihfbhnbkjjaaDoor
