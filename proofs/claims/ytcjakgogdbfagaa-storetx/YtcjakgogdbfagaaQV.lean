/- Layer 11: a transaction's Save. Layer 11: a transaction's Changes. Layer 11: plain facts on pairs: put, delete, what two lists of pairs differ in. -/
import Derived.Test.YtcjakgogdbfagaaQT
import Derived.Test.YtcjakgogdbfagaaQQ
namespace Go.Proofs.Ytcjakgogdbfagaa
open Go.RowKit
set_option maxRecDepth 100000 in
set_option maxHeartbeats 1000000 in
theorem save_long (b : TxB) (L S D : Kvs) (more : Int) (w : World) (k v : Bt) (h : TxAt b L S D more w) (hk : k.length ≤ 9223372036854775807) (hv : v.length ≤ 9223372036854775807) (hl : longB k v = true) :
    Calls Try.prog 9 #[.pointer (some ⟨b.xb, 0, none⟩), sv k, sv v] w (XEnd b L S D more (.int .i64 41) w) := by
  have HM := hidb (txmade_any b.xb w b.tb h.x0)
  have HI := hidb (isLong_any k v w hk hv)
  rw [hl] at HI
  have HE := hidb (XEnd.same h 0 (.int .i64 41))
  clear h
  go_enter Try.func9, Try.ntmps9
  go_wp2_with (first
    | (go_at_call 32; refine HM.out.mono ?_; clear HM; rintro e w1 ⟨rfl, rfl⟩)
    | (go_at_call 33; refine HI.out.mono ?_; clear HI; rintro e w1 ⟨rfl, rfl⟩)
    | fail)
  go_ret
  exact HE.out
set_option maxRecDepth 100000 in
set_option maxHeartbeats 1000000 in
theorem save_old (b : TxB) (L S D : Kvs) (more : Int) (w : World) (k v : Bt) (h : TxAt b L S D more w) (hk : k.length ≤ 9223372036854775807) (hv : v.length ≤ 9223372036854775807) (hl : longB k v = false) (hS : (S.length + 2) * 46 ≤ 140737488355328) (u : Bt) (hld : loadL L S D k = some u) :
    Calls Try.prog 9 #[.pointer (some ⟨b.xb, 0, none⟩), sv k, sv v] w (XEnd b L (putL S k v) (delL D k) more (.int .i64 0) w) := by
  have HM := hidb (txmade_any b.xb w b.tb h.x0)
  have HI := hidb (isLong_any k v w hk hv)
  have HL := hidb (load_any b L S D more w k h)
  rw [hl] at HI
  rw [hld] at HL
  have HR := hidb fun M => save_ok_of (w := w) (k := k) (v := v) (h.drewN M) ((Kt.refl _ w).drewN M) rfl (long_small hl).1 (long_small hl).2 hS
  have x1 := h.x1
  have y1 := h.y1
  clear h hS
  generalize b.xb = xb at *
  generalize b.cb = cb at *
  generalize b.sb = sb at *
  generalize b.wb = wb at *
  go_enter Try.func9, Try.ntmps9
  go_wp2_with (first
    | (go_at_call 32; refine HM.out.mono ?_; clear HM; rintro e w1 ⟨rfl, rfl⟩)
    | (go_at_call 33; refine HI.out.mono ?_; clear HI; rintro e w1 ⟨rfl, rfl⟩)
    | (go_at_call 13; refine HL.out.mono ?_; clear HL; rintro e w2 ⟨rfl, m2, rfl⟩)
    | (go_at_call 35; refine (HR.out _).mono ?_; clear HR; rintro e w3 ⟨r3, rfl, ⟨q1, q2⟩, K3⟩)
    | (go_at_call 36; refine K3.out.mono ?_; clear K3; rintro e w4 ⟨rfl, K4⟩)
    | fail)
  go_ret
  exact K4.out
set_option maxRecDepth 100000 in
set_option maxHeartbeats 1000000 in
theorem save_new (b : TxB) (L S D : Kvs) (more : Int) (w : World) (k v : Bt) (h : TxAt b L S D more w) (hk : k.length ≤ 9223372036854775807) (hv : v.length ≤ 9223372036854775807) (hl : longB k v = false) (hS : (S.length + 2) * 46 ≤ 140737488355328) (hld : loadL L S D k = none) (hm0 : -1000000 ≤ more) (hm1 : more ≤ 1000000) (hL : L.length ≤ 1000000) (hr : ¬ 512 ≤ (L.length : Int) + more) :
    Calls Try.prog 9 #[.pointer (some ⟨b.xb, 0, none⟩), sv k, sv v] w (XEnd b L (putL S k v) (delL D k) (more + 1) (.int .i64 0) w) := by
  have HM := hidb (txmade_any b.xb w b.tb h.x0)
  have HI := hidb (isLong_any k v w hk hv)
  have HL := hidb (load_any b L S D more w k h)
  rw [hl] at HI
  rw [hld] at HL
  have HA : Hid (∀ m W, W = w.drewN m → (∀ M, Calls Try.prog 34 #[.pointer (some ⟨b.tb, 0, none⟩)] (W.drewN M) fun e w' => e = .returned (.int .i64 (L.length : Nat)) ∧ w' = W.drewN M) ∧ (W.cell? ⟨b.xb, 0, none⟩ = some (.pointer (some ⟨b.tb, 0, none⟩)) ∧ W.cell? ⟨b.xb, 1, none⟩ = some (.pointer (some ⟨b.cb, 0, none⟩)) ∧ W.cell? ⟨b.cb, 1, none⟩ = some (.pointer (some ⟨b.wb, 0, none⟩)) ∧ W.cell? ⟨b.cb, 2, none⟩ = some (.int .i64 more) ∧ W.frozen? ⟨b.cb, 2, none⟩ = false) ∧
      ∀ M N, Calls Try.prog 35 #[.pointer (some ⟨b.wb, 0, none⟩), sv k] (((W.drewN M).setCell ⟨b.cb, 2, none⟩ (.int .i64 (more + 1))).drewN N) fun e w2 => ∃ r, e = .returned (.bool r) ∧ (w2.cell? ⟨b.xb, 1, none⟩ = some (.pointer (some ⟨b.cb, 0, none⟩)) ∧ w2.cell? ⟨b.cb, 0, none⟩ = some (.pointer (some ⟨b.sb, 0, none⟩))) ∧
        Hid (Calls Try.prog 36 #[.pointer (some ⟨b.sb, 0, none⟩), sv k, sv v] w2 fun e w3 => e = .returned (.tuple #[]) ∧ Hid (XEnd b L (putL S k v) (delL D k) (more + 1) (.int .i64 0) w (.returned (.int .i64 0)) w3))) := hidb fun m W hW => by
    have hT : TxAt b L S D more W := by rw [hW]; exact h.drewN m
    have hK : Kt (fun i => i = b.cb ∨ i = b.sb ∨ i = b.sg ∨ i = b.wb ∨ i = b.wg) w W := by rw [hW]; exact (Kt.refl _ w).drewN m
    have hz : w.heap.size = W.heap.size := by rw [hW]; rfl
    exact ⟨fun M => count_t b.tb b.g L (W.drewN M) (hT.t.drewN M), ⟨hT.x0, hT.x1, hT.y1, hT.y2, Lib.frozen_of_heap hT.cbx 2⟩, fun M N => save_ok_of (w := w) (k := k) (v := v) (((hT.drewN M).setMore (more + 1)).drewN N) (((hK.drewN M).set fun _ => .inl rfl).drewN N) (by simpa using hz) (long_small hl).1 (long_small hl).2 hS⟩
  have hxc : ¬ b.xb = b.cb := h.nd.xc
  have hxc2 : ¬ b.cb = b.xb := h.nd.xc.symm
  have hd : decide (512 ≤ (L.length : Int) + more) = false := by simpa using hr
  clear h hS hr
  generalize b.xb = xb at *
  generalize b.cb = cb at *
  generalize b.sb = sb at *
  generalize b.wb = wb at *
  generalize b.tb = tb at *
  generalize L.length = ll at *
  go_enter Try.func9, Try.ntmps9
  go_wp2_with (first
    | (go_at_call 32; refine HM.out.mono ?_; clear HM; rintro e w1 ⟨rfl, rfl⟩)
    | (go_at_call 33; refine HI.out.mono ?_; clear HI; rintro e w1 ⟨rfl, rfl⟩)
    | (go_at_call 13; refine HL.out.mono ?_; clear HL; rintro e w2 ⟨rfl, m2, rfl⟩)
    | fail)
  obtain ⟨W, hW⟩ : ∃ W, W = w1.drewN m2 := ⟨_, rfl⟩
  obtain ⟨hC, ⟨x0, x1, y1, y2, z2⟩, hR⟩ := HA.out m2 W hW
  have HC := hidb hC
  have HR := hidb hR
  rw [← hW]
  clear hW HA hC hR
  go_quiet ((go_at_call 34; exact Calls.quiet_of_same (HC.out _)))
  go_wp2_with (first
    | (go_at_call 35; refine (HR.out _ 0).mono ?_; clear HR; rintro e w3 ⟨r3, rfl, ⟨q1, q2⟩, K3⟩)
    | (go_at_call 36; refine K3.out.mono ?_; clear K3; rintro e w4 ⟨rfl, K4⟩)
    | fail)
  go_ret
  exact K4.out
set_option maxRecDepth 100000 in
set_option maxHeartbeats 1000000 in
theorem save_full (b : TxB) (L S D : Kvs) (more : Int) (w : World) (k v : Bt) (h : TxAt b L S D more w) (hk : k.length ≤ 9223372036854775807) (hv : v.length ≤ 9223372036854775807) (hl : longB k v = false) (hld : loadL L S D k = none) (hm0 : -1000000 ≤ more) (hm1 : more ≤ 1000000) (hL : L.length ≤ 1000000) (hr : 512 ≤ (L.length : Int) + more) :
    Calls Try.prog 9 #[.pointer (some ⟨b.xb, 0, none⟩), sv k, sv v] w (XEnd b L S D more (.int .i64 45) w) := by
  have HM := hidb (txmade_any b.xb w b.tb h.x0)
  have HI := hidb (isLong_any k v w hk hv)
  have HL := hidb (load_any b L S D more w k h)
  rw [hl] at HI
  rw [hld] at HL
  have HA : Hid (∀ m W, W = w.drewN m → (∀ M, Calls Try.prog 34 #[.pointer (some ⟨b.tb, 0, none⟩)] (W.drewN M) fun e w' => e = .returned (.int .i64 (L.length : Nat)) ∧ w' = W.drewN M) ∧ (W.cell? ⟨b.xb, 0, none⟩ = some (.pointer (some ⟨b.tb, 0, none⟩)) ∧ W.cell? ⟨b.xb, 1, none⟩ = some (.pointer (some ⟨b.cb, 0, none⟩)) ∧ W.cell? ⟨b.cb, 2, none⟩ = some (.int .i64 more)) ∧
      ∀ M, XEnd b L S D more (.int .i64 45) w (.returned (.int .i64 45)) (W.drewN M)) := hidb fun m W hW => by
    have hT : TxAt b L S D more W := by rw [hW]; exact h.drewN m
    exact ⟨fun M => count_t b.tb b.g L (W.drewN M) (hT.t.drewN M), ⟨hT.x0, hT.x1, hT.y2⟩, fun M => by rw [hW, World.drewN_drewN]; exact XEnd.same h _ _⟩
  have hd : decide (512 ≤ (L.length : Int) + more) = true := by simpa using hr
  clear h hr
  generalize b.xb = xb at *
  generalize b.cb = cb at *
  generalize b.tb = tb at *
  generalize L.length = ll at *
  go_enter Try.func9, Try.ntmps9
  go_wp2_with (first
    | (go_at_call 32; refine HM.out.mono ?_; clear HM; rintro e w1 ⟨rfl, rfl⟩)
    | (go_at_call 33; refine HI.out.mono ?_; clear HI; rintro e w1 ⟨rfl, rfl⟩)
    | (go_at_call 13; refine HL.out.mono ?_; clear HL; rintro e w2 ⟨rfl, m2, rfl⟩)
    | fail)
  obtain ⟨W, hW⟩ : ∃ W, W = w1.drewN m2 := ⟨_, rfl⟩
  obtain ⟨hC, ⟨x0, x1, y2⟩, hR⟩ := HA.out m2 W hW
  have HC := hidb hC
  have HR := hidb hR
  rw [← hW]
  clear hW HA hC hR
  go_quiet ((go_at_call 34; exact Calls.quiet_of_same (HC.out _)))
  go_wp2_with fail
  go_ret
  exact HR.out _
end Go.Proofs.Ytcjakgogdbfagaa
namespace Go.Proofs.Ytcjakgogdbfagaa
open Go.RowKit Go.Shelf
attribute [local go_sem] Oper.semAt_some
/-- The saved pairs that are new to the store, the wiped keys that it has. -/
def chgA (L S : Kvs) : Kvs := S.filter fun x => decide (getL L x.1 ≠ some x.2)
def chgB (L D : Kvs) : Kvs := (D.filter fun x => (getL L x.1).isSome).map fun x => (x.1, [])
def cellsP (L : Kvs) : List Value := L.flatMap fun x => [sv x.1, sv x.2]
theorem elemN_pair : ElemN Try.prog 47 75 2 32 := by
  refine ⟨Try.underlying47, ?_, by decide⟩
  obtain ⟨i, hi, h1, h2, h3⟩ := info_parts (show (Try.prog.info? 75).map (fun i => (i.zero, i.size, i.bytes)) = some (some (.agg #[.string ⟨#[]⟩, .string ⟨#[]⟩]), 2, 32) by kernel_rfl)
  exact ⟨i, _, hi, h1, h2, h3, rfl⟩
theorem cellsP_len : ∀ L : Kvs, (cellsP L).length = L.length * 2
  | [] => rfl
  | x :: L => by rw [cellsP, List.flatMap_cons, List.length_append, show (List.flatMap (fun x : Bt × Bt => [sv x.1, sv x.2]) L).length = L.length * 2 from cellsP_len L, List.length_cons]; simp; omega
theorem cellsP_app (A B : Kvs) : cellsP (A ++ B) = cellsP A ++ cellsP B := by simp [cellsP]
/-- While the changes are gathered: the transaction's box at Z, the list's at Z + 1. -/
structure ChI (b : TxB) (L S D : Kvs) (more : Int) (Z : Nat) (w : World) (acc : Kvs) (W : World) : Prop where
  tx : TxAt b L S D more W
  lt : ∀ i ∈ b.l, i < Z
  bt : W.heap[Z]? = some (.cells #[.pointer (some ⟨b.xb, 0, none⟩)] 27 (0, 0))
  bl : ∃ v, W.heap[Z + 1]? = some (.cells #[v] 47 (0, 0)) ∧ W.ownsRow (Z + 2) 75 2 v acc.length (cellsP acc)
  bel : Below Z w W
  siz : Z + 2 ≤ W.heap.size
theorem row_cells {W : World} {base n size : Nat} {e : TypeId} {v : Value} {xs : List Value} (h : W.ownsRow base e size v n xs) : ∀ g, v.ownBlock = some g → base ≤ g ∧ ∃ o, W.heap[g]? = some o ∧ o.isCells = true := by
  intro g hg
  rcases h.2 with ⟨rfl, _⟩ | ⟨g', cap, cur, rfl, hb, hc, _⟩
  · cases hg
  · simp [Value.ownBlock] at hg
    subst hg
    exact ⟨hb, _, hc, rfl⟩
theorem row_typed {W : World} {base n size g : Nat} {e : TypeId} {v : Value} {xs : List Value} (h : W.ownsRow base e size v n xs) (hg : v.ownBlock = some g) {cs : Array Value} {t : TypeId} (ht : W.heap[g]? = some (.cells cs t (0, 0))) : t = e := by
  rcases h.2 with ⟨rfl, _⟩ | ⟨g', cap, cur, rfl, hb, hc, _⟩
  · cases hg
  · simp [Value.ownBlock] at hg
    subst hg
    rw [hc] at ht
    injection ht with ht
    injection ht with _ ht
    exact ht.symm
theorem ChI.own {b : TxB} {L S D : Kvs} {more : Int} {Z B : Nat} {w : World} (hB : Z + 2 ≤ B) : OwnFrom B (fun acc W => ChI b L S D more Z w acc W) := by
  intro acc W W' row h hg hr
  have key : ∀ i < B, i < W.heap.size → W'.heap[i]? = W.heap[i]? := fun i hi hs => hg.block i hs fun e => by have := (hr i e.symm).1; omega
  obtain ⟨v, v1, v2⟩ := h.bl
  have hs := h.siz
  refine ⟨h.tx.keepAll fun i hi => key i (by have := h.lt i hi; omega) (h.tx.lts i hi), h.lt, (key _ (by omega) (by omega)).trans h.bt, ⟨v, (key _ (by omega) (by omega)).trans v1, ?_⟩, ?_, Nat.le_trans hs hg.size⟩
  · refine World.ownsRow.kept v2 hg ?_
    cases e : v.ownBlock with
    | none => exact .inl rfl
    | some g =>
      right
      intro e2
      obtain ⟨_, o, ho, hc⟩ := row_cells v2 g e
      obtain ⟨_, o', ho', hc'⟩ := hr g e2.symm
      rw [ho] at ho'
      cases ho'
      rw [hc] at hc'
      cases hc'
  · exact h.bel.trans ⟨hg.os, hg.tape, hg.output, hg.size, fun i hi => key i (by omega) (by omega)⟩
/-- One pair more. -/
theorem ChI.push {b : TxB} {L S D : Kvs} {more : Int} {Z : Nat} {w W w6 : World} {acc : Kvs} {x : Bt × Bt} {v v' : Value} {o : Obj} (h : ChI b L S D more Z w acc W) (h1 : W.heap[Z + 1]? = some (.cells #[v] 47 (0, 0))) (h2 : W.ownsRow (Z + 2) 75 2 v acc.length (cellsP acc)) (hr : w6.ownsRow (Z + 2) 75 2 v' (acc.length + 1) (cellsP acc ++ [sv x.1, sv x.2])) (hs : Step (W.alloc o) v w6 v') :
    (w6.cell? ⟨Z + 1, 0, none⟩ = some v ∧ w6.frozen? ⟨Z + 1, 0, none⟩ = false ∧ ∃ a n c, v' = .slice a n c) ∧ ChI b L S D more Z w (acc ++ [x]) (w6.setCell ⟨Z + 1, 0, none⟩ v') ∧ (∀ B, KeepsFrom B W (w6.setCell ⟨Z + 1, 0, none⟩ v')) ∧ (∀ i, i < W.heap.size → i ≠ Z + 1 → v.ownBlock ≠ some i → (w6.setCell ⟨Z + 1, 0, none⟩ v').heap[i]? = W.heap[i]?) := by
  have hsz := h.siz
  have hgr : ∀ g, v.ownBlock = some g → Z + 2 ≤ g := fun g e => (row_cells h2 g e).1
  have blk : ∀ i, i < W.heap.size → i < Z + 2 → w6.heap[i]? = W.heap[i]? := fun i hi hz => (hs.1.block i (by simp; omega) fun e => by have := hgr i e.symm; omega).trans (Below.heap_alloc _ _ _ hi)
  have hb := (blk (Z + 1) (by omega) (by omega)).trans h1
  have blk2 : ∀ i, i < W.heap.size → i ≠ Z + 1 → i < Z + 2 → (w6.setCell ⟨Z + 1, 0, none⟩ v').heap[i]? = W.heap[i]? := fun i hi hn hz => (Below.heap_setCell _ _ _ _ hn).trans (blk i hi hz)
  obtain ⟨a6, c6, e6, _⟩ := row_form hr
  have hw6 : W.heap.size ≤ w6.heap.size := by have := hs.1.size; simp at this; omega
  refine ⟨⟨by rw [Lib.cell_of_heap hb]; rfl, Lib.frozen_of_heap hb 0, _, _, _, e6⟩, ⟨?_, h.lt, (blk2 _ (by omega) (by omega) (by omega)).trans h.bt, ⟨v', by rw [heap_setCell_same _ _ _ _ _ _ hb]; rfl, ?_⟩, ?_, ?_⟩, ?_, fun i hi hn hv => (Below.heap_setCell _ _ _ _ hn).trans ((hs.1.block i (by simp; omega) (fun e => hv e.symm)).trans (Below.heap_alloc _ _ _ hi))⟩
  · exact h.tx.keepAll fun i hi => blk2 i (h.tx.lts i hi) (by have := h.lt i hi; omega) (by have := h.lt i hi; omega)
  · rw [List.length_append, List.length_singleton, cellsP_app]
    refine World.ownsRow.kept (w' := w6.setCell ⟨Z + 1, 0, none⟩ v') (row := some (Z + 1)) (by simpa [cellsP] using hr) (grownBy_setCell' _ _ _) ?_
    cases e : v'.ownBlock with
    | none => exact .inl rfl
    | some g => right; intro e2; injection e2 with e2; have := (row_cells hr g e).1; omega
  · exact h.bel.trans ⟨hs.1.os, hs.1.tape, hs.1.output, by rw [World.size_setCell]; exact hw6, fun i hi => blk2 i (by omega) (by omega) (by omega)⟩
  · rw [World.size_setCell]; omega
  · intro B
    refine ⟨by rw [World.size_setCell]; exact hw6, fun k o' _ hk ho => ?_⟩
    have hkl := heap_ltb hk
    rw [Below.heap_setCell _ _ _ _ (fun e => by subst e; rw [h1] at hk; cases hk; cases ho)]
    rw [hs.1.block k (by simp; omega) (fun e => ?_), Below.heap_alloc _ _ _ hkl]
    · exact hk
    · obtain ⟨_, o2, ho2, hc2⟩ := row_cells h2 k e.symm
      rw [ho2] at hk
      cases hk
      rw [hc2] at ho
      cases ho
end Go.Proofs.Ytcjakgogdbfagaa
namespace Go.Proofs.Ytcjakgogdbfagaa
open Go.RowKit
theorem srt_cons {x : Bt × Bt} {L : Kvs} (h : SrtL (x :: L)) : SrtL L ∧ ∀ y ∈ L, klt x.1 y.1 := by
  rw [SrtL, List.pairwise_cons] at h
  exact ⟨h.2, h.1⟩
theorem getL_lt {L : Kvs} {k : Bt} (h : ∀ y ∈ L, klt k y.1) : getL L k = none := getL_none fun y hy e => klt_irr k (by have := h y hy; rwa [e] at this)
theorem mem_putL {L : Kvs} {k v : Bt} {x : Bt × Bt} : x ∈ putL L k v → x = (k, v) ∨ x ∈ L := by
  induction L with
  | nil => intro h; simp [putL] at h; exact .inl h
  | cons y L ih =>
    obtain ⟨a, b⟩ := y
    unfold putL
    split
    · intro h; rcases List.mem_cons.1 h with e | e
      · exact .inl e
      · exact .inr (by simp [e])
    · split
      · intro h; rcases List.mem_cons.1 h with e | e
        · exact .inl e
        · exact .inr e
      · intro h; rcases List.mem_cons.1 h with e | e
        · exact .inr (by simp [e])
        · rcases ih e with e | e
          · exact .inl e
          · exact .inr (by simp [e])
theorem putL_srt {L : Kvs} (h : SrtL L) (k v : Bt) : SrtL (putL L k v) := by
  induction L with
  | nil => simp [putL, SrtL]
  | cons y L ih =>
    obtain ⟨a, b⟩ := y
    obtain ⟨h1, h2⟩ := srt_cons h
    unfold putL
    split
    · rename_i e
      subst e
      rw [SrtL, List.pairwise_cons]
      exact ⟨h2, h1⟩
    · split
      · rename_i c
        rw [SrtL, List.pairwise_cons]
        refine ⟨fun y hy => ?_, h⟩
        rcases List.mem_cons.1 hy with e | e
        · rw [e]; exact c
        · exact klt_trans _ _ _ c (h2 y e)
      · rename_i e c
        rw [SrtL, List.pairwise_cons]
        refine ⟨fun y hy => ?_, ih h1⟩
        rcases mem_putL hy with e2 | e2
        · rw [e2]
          rcases klt_tot a k e with x | x
          · exact x
          · exact absurd x c
        · exact h2 y e2
theorem getL_putL {L : Kvs} (k v q : Bt) : getL (putL L k v) q = if k = q then some v else getL L q := by
  induction L with
  | nil => simp [putL, getL]
  | cons y L ih =>
    obtain ⟨a, b⟩ := y
    unfold putL
    split
    · rename_i e
      subst e
      simp only [getL]
      split <;> rfl
    · split
      · simp only [getL]
      · rename_i e c
        simp only [getL]
        rw [ih]
        by_cases h1 : a = q
        · subst h1
          rw [if_pos rfl, if_neg (Ne.symm e), if_pos rfl]
        · rw [if_neg h1, if_neg h1]
theorem delL_srt {L : Kvs} (h : SrtL L) (k : Bt) : SrtL (delL L k) := List.Pairwise.filter _ h
theorem getL_delL {L : Kvs} (k q : Bt) : getL (delL L k) q = if k = q then none else getL L q := by
  induction L with
  | nil => simp [delL, getL]
  | cons y L ih =>
    obtain ⟨a, b⟩ := y
    unfold delL at ih ⊢
    rw [List.filter_cons]
    by_cases e : a = k
    · subst e
      simp only [ne_eq, not_true_eq_false, decide_false, Bool.false_eq_true, if_false]
      rw [ih, getL]
      by_cases h : a = q <;> simp [h]
    · simp only [ne_eq, e, not_false_eq_true, decide_true, if_true, getL]
      rw [ih]
      by_cases h1 : a = q
      · subst h1
        rw [if_pos rfl, if_neg (Ne.symm e), if_pos rfl]
      · rw [if_neg h1, if_neg h1]
theorem kvs_ext : ∀ {A B : Kvs}, SrtL A → SrtL B → (∀ k, getL A k = getL B k) → A = B
  | [], [], _, _, _ => rfl
  | [], (k, v) :: B, _, _, h => by have := h k; simp [getL] at this
  | (k, v) :: A, [], _, _, h => by have := h k; simp [getL] at this
  | (a, b) :: A, (c, d) :: B, ha, hb, h => by
    obtain ⟨a1, a2⟩ := srt_cons ha
    obtain ⟨b1, b2⟩ := srt_cons hb
    have hac : a = c := by
      by_cases e : a = c
      · exact e
      · exfalso
        rcases klt_tot a c e with x | x
        · have := h a
          rw [getL, if_pos rfl, getL, if_neg (Ne.symm e), getL_lt fun y hy => klt_trans _ _ _ x (b2 y hy)] at this
          cases this
        · have := h c
          rw [getL, if_neg e, getL, if_pos rfl, getL_lt fun y hy => klt_trans _ _ _ x (a2 y hy)] at this
          cases this
    subst hac
    have hbd : b = d := by
      have := h a
      rw [getL, if_pos rfl, getL, if_pos rfl] at this
      injection this
    subst hbd
    rw [kvs_ext a1 b1 fun k => ?_]
    by_cases e : a = k
    · subst e
      rw [getL_lt a2, getL_lt b2]
    · have := h k
      rw [getL, if_neg e, getL, if_neg e] at this
      exact this
theorem putL_len {L : Kvs} (h : SrtL L) (k v : Bt) : (putL L k v).length = L.length + if getL L k = none then 1 else 0 := by
  induction L with
  | nil => simp [putL, getL]
  | cons y L ih =>
    obtain ⟨a, b⟩ := y
    obtain ⟨h1, h2⟩ := srt_cons h
    unfold putL
    split
    · rename_i e
      simp [getL, e]
    · rename_i e
      split
      · rename_i c
        have : getL ((a, b) :: L) k = none := getL_lt fun y hy => by
          rcases List.mem_cons.1 hy with e | e
          · rw [e]; exact c
          · exact klt_trans _ _ _ c (h2 y e)
        rw [if_pos this]
        rfl
      · rw [getL, if_neg e, List.length_cons, ih h1, List.length_cons]
        omega
theorem delL_noneK {L : Kvs} {k : Bt} (h : getL L k = none) : delL L k = L := by
  unfold delL
  rw [List.filter_eq_self]
  intro x hx
  simp only [ne_eq, decide_not, Bool.not_eq_eq_eq_not, Bool.not_true, decide_eq_false_iff_not]
  intro e
  induction L with
  | nil => cases hx
  | cons y L ih =>
    obtain ⟨a, b⟩ := y
    rw [getL] at h
    split at h
    · cases h
    · rename_i ne
      rcases List.mem_cons.1 hx with e2 | e2
      · rw [e2] at e; exact ne e
      · exact ih h e2
theorem delL_len {L : Kvs} (h : SrtL L) (k : Bt) : (delL L k).length + (if getL L k = none then 0 else 1) = L.length := by
  induction L with
  | nil => simp [delL, getL]
  | cons y L ih =>
    obtain ⟨a, b⟩ := y
    obtain ⟨h1, h2⟩ := srt_cons h
    by_cases e : a = k
    · subst e
      have := delL_noneK (getL_lt h2)
      unfold delL at this ⊢
      rw [List.filter_cons]
      simp only [ne_eq, not_true_eq_false, decide_false, Bool.false_eq_true, if_false, getL, if_true]
      rw [this]
      simp
    · have := ih h1
      unfold delL at this ⊢
      rw [List.filter_cons]
      simp only [ne_eq, e, not_false_eq_true, decide_true, if_true, getL, if_false, List.length_cons]
      simp only [ne_eq] at this
      omega
/-- What a transaction of a store shows. -/
structure Shows (L S D M : Kvs) : Prop where
  srt : SrtL M
  get : ∀ k, getL M k = loadL L S D k
  ap : ∀ k, (getL S k).isSome → getL D k = none
theorem Shows.start {L : Kvs} (h : SrtL L) : Shows L [] [] L := ⟨h, fun k => by simp [loadL, getL], fun k e => by simp [getL] at e⟩
theorem Shows.save {L S D M : Kvs} (h : Shows L S D M) (k v : Bt) : Shows L (putL S k v) (delL D k) (putL M k v) := by
  refine ⟨putL_srt h.srt k v, fun q => ?_, fun q => ?_⟩
  · have := h.get q
    unfold loadL at this ⊢
    rw [getL_putL, getL_delL, getL_putL]
    by_cases e : k = q
    · simp [e]
    · simp only [if_neg e]
      exact this
  · rw [getL_putL, getL_delL]
    by_cases e : k = q
    · simp [e]
    · rw [if_neg e, if_neg e]
      exact h.ap q
theorem Shows.wipe {L S D M : Kvs} (h : Shows L S D M) (k : Bt) : Shows L (delL S k) (putL D k []) (delL M k) := by
  refine ⟨delL_srt h.srt k, fun q => ?_, fun q => ?_⟩
  · have := h.get q
    unfold loadL at this ⊢
    rw [getL_delL, getL_putL, getL_delL]
    by_cases e : k = q
    · simp [e]
    · simp only [if_neg e]
      exact this
  · rw [getL_delL, getL_putL]
    by_cases e : k = q
    · simp [e]
    · rw [if_neg e, if_neg e]
      exact h.ap q
/-- What two stores differ in. -/
def dif (L M : Kvs) (k : Bt) : Option Bt := if getL L k = getL M k then none else some ((getL M k).getD [])
structure Difs (L M C : Kvs) : Prop where
  srt : SrtL C
  get : ∀ k, getL C k = dif L M k
theorem mem_chgA {L S : Kvs} (hs : SrtL S) {x : Bt × Bt} : x ∈ chgA L S ↔ getL S x.1 = some x.2 ∧ getL L x.1 ≠ some x.2 := by
  unfold chgA
  rw [List.mem_filter]
  constructor
  · rintro ⟨a, b⟩
    exact ⟨getL_some hs a, by simpa using b⟩
  · rintro ⟨a, b⟩
    exact ⟨getL_mem a, by simpa using b⟩
theorem mem_chgB {L D : Kvs} (hs : SrtL D) {x : Bt × Bt} : x ∈ chgB L D ↔ x.2 = [] ∧ (getL D x.1).isSome ∧ (getL L x.1).isSome := by
  unfold chgB
  rw [List.mem_map]
  constructor
  · rintro ⟨y, hy, rfl⟩
    rw [List.mem_filter] at hy
    exact ⟨rfl, by rw [getL_some hs hy.1]; rfl, hy.2⟩
  · rintro ⟨a, b, c⟩
    obtain ⟨v, hv⟩ := Option.isSome_iff_exists.1 b
    exact ⟨(x.1, v), List.mem_filter.2 ⟨getL_mem hv, c⟩, by rw [← a]⟩
/-- The changes, sorted, are what the store and what is shown differ in. -/
theorem difs_of {L S D M C : Kvs} (h : Shows L S D M) (hS : SrtL S) (hD : SrtL D) (hp : C.Perm (chgA L S ++ chgB L D)) (hc : C.Pairwise fun x y => ¬ klt y.1 x.1) : Difs L M C := by
  have hkd : (chgA L S ++ chgB L D).Pairwise fun x y => x.1 ≠ y.1 := by
    rw [List.pairwise_append]
    refine ⟨(List.Pairwise.filter _ hS).imp fun e => klt_ne e, ?_, fun x hx y hy e => ?_⟩
    · unfold chgB
      rw [List.pairwise_map]
      exact (List.Pairwise.filter _ hD).imp fun e => klt_ne e
    · have h1 := ((mem_chgA hS).1 hx).1
      have h2 := ((mem_chgB hD).1 hy).2.1
      rw [← e, h.ap x.1 (by rw [h1]; rfl)] at h2
      cases h2
  have hkd2 : C.Pairwise fun x y => x.1 ≠ y.1 := (hp.pairwise_iff (fun e => Ne.symm e)).2 hkd
  have hs : SrtL C := by
    have := hkd2.and hc
    refine this.imp fun ⟨a, b⟩ => ?_
    rcases klt_tot _ _ a with x | x
    · exact x
    · exact absurd x b
  refine ⟨hs, fun k => ?_⟩
  have hM := h.get k
  unfold dif
  have key : ∀ v, (k, v) ∈ C ↔ (getL S k = some v ∧ getL L k ≠ some v) ∨ (v = [] ∧ (getL D k).isSome ∧ (getL L k).isSome) := fun v => by
    rw [hp.mem_iff, List.mem_append, mem_chgA hS, mem_chgB hD]
  cases hd : getL D k with
  | some u =>
    have hsn : getL S k = none := by
      cases e : getL S k with
      | none => rfl
      | some v => have := h.ap k (by rw [e]; rfl); rw [hd] at this; cases this
    have hm : getL M k = none := by rw [hM, loadL, hd]; rfl
    rw [hm]
    cases hl : getL L k with
    | none =>
      rw [if_pos rfl]
      refine getL_none fun x hx e => ?_
      subst e
      have := (key x.2).1 hx
      rw [hsn, hl] at this
      simp at this
    | some v =>
      rw [if_neg (by simp)]
      exact getL_some hs ((key []).2 (.inr ⟨rfl, by rw [hd]; rfl, by rw [hl]; rfl⟩))
  | none =>
    cases hsv : getL S k with
    | none =>
      have hm : getL M k = getL L k := by rw [hM, loadL, hd, hsv]; rfl
      rw [if_pos hm.symm]
      refine getL_none fun x hx e => ?_
      subst e
      have := (key x.2).1 hx
      rw [hsv, hd] at this
      simp at this
    | some v =>
      have hm : getL M k = some v := by rw [hM, loadL, hd, hsv]; rfl
      rw [hm]
      by_cases e : getL L k = some v
      · rw [if_pos e]
        refine getL_none fun x hx e2 => ?_
        subst e2
        have := (key x.2).1 hx
        rw [hsv, hd] at this
        simp at this
        exact this.2 (by rw [← this.1]; exact e)
      · rw [if_neg e]
        exact getL_some hs ((key v).2 (.inl ⟨hsv, e⟩))
/-- One change is done. -/
def ap1 (D L : Kvs) (x : Bt × Bt) : Kvs := if (getL D x.1).isSome then delL L x.1 else putL L x.1 x.2
def apL (D : Kvs) : Kvs → Kvs → Kvs
  | L, [] => L
  | L, x :: C => apL D (ap1 D L x) C
theorem ap1_srt {D L : Kvs} (h : SrtL L) (x : Bt × Bt) : SrtL (ap1 D L x) := by
  unfold ap1
  split
  · exact delL_srt h _
  · exact putL_srt h _ _
theorem apL_srt {D : Kvs} : ∀ {C L : Kvs}, SrtL L → SrtL (apL D L C)
  | [], _, h => h
  | x :: C, L, h => apL_srt (C := C) (L := ap1 D L x) (ap1_srt h x)
theorem apL_app (D : Kvs) : ∀ (L A : Kvs) (x : Bt × Bt), apL D L (A ++ [x]) = ap1 D (apL D L A) x
  | _, [], _ => rfl
  | L, y :: A, x => apL_app D (ap1 D L y) A x
theorem getL_ap1 {D L : Kvs} (x : Bt × Bt) (q : Bt) : getL (ap1 D L x) q = if x.1 = q then (if (getL D q).isSome then none else some x.2) else getL L q := by
  unfold ap1
  by_cases e : x.1 = q
  · subst e
    rw [if_pos rfl]
    split
    · rw [getL_delL, if_pos rfl]
    · rw [getL_putL, if_pos rfl]
  · rw [if_neg e]
    split
    · rw [getL_delL, if_neg e]
    · rw [getL_putL, if_neg e]
theorem getL_apL {D : Kvs} : ∀ {C L : Kvs}, SrtL C → ∀ q, getL (apL D L C) q = match getL C q with
    | none => getL L q
    | some v => if (getL D q).isSome then none else some v
  | [], L, _, q => rfl
  | x :: C, L, h, q => by
    obtain ⟨h1, h2⟩ := srt_cons h
    obtain ⟨a, b⟩ := x
    rw [apL, getL_apL h1, getL_ap1, getL]
    by_cases e : a = q
    · subst e
      rw [getL_lt h2, if_pos rfl, if_pos rfl]
    · rw [if_neg e, if_neg e]
/-- All changes are done: what was shown is there. -/
theorem apL_shown {L S D M C : Kvs} (h : Shows L S D M) (hL : SrtL L) (hC : Difs L M C) : apL D L C = M := by
  refine kvs_ext (apL_srt hL) h.srt fun k => ?_
  rw [getL_apL hC.srt, hC.get]
  unfold dif
  have hM := h.get k
  by_cases e : getL L k = getL M k
  · rw [if_pos e]
    exact e
  · rw [if_neg e]
    show (if (getL D k).isSome then none else some ((getL M k).getD [])) = getL M k
    cases hd : getL D k with
    | some u =>
      rw [hM, loadL, hd]
      rfl
    | none =>
      simp only [Option.isSome_none, Bool.false_eq_true, if_false]
      cases hm : getL M k with
      | some v => rfl
      | none =>
        exfalso
        rw [loadL, hd] at hM
        simp only [Option.isSome_none, Bool.false_eq_true, if_false] at hM
        cases hs : getL S k with
        | some v => rw [hs, hm] at hM; cases hM
        | none => rw [hs] at hM; exact e hM.symm
/-- By how many keys more. -/
def gr1 (L D : Kvs) (x : Bt × Bt) : Int := if (getL D x.1).isSome then -1 else if (getL L x.1).isSome then 0 else 1
def grN (L D : Kvs) : Kvs → Int
  | [] => 0
  | x :: C => gr1 L D x + grN L D C
theorem grN_app (L D : Kvs) : ∀ (A : Kvs) (x : Bt × Bt), grN L D (A ++ [x]) = grN L D A + gr1 L D x
  | [], x => by simp [grN]
  | y :: A, x => by rw [List.cons_append, grN, grN_app L D A x, grN]; omega
theorem gr1_bd (L D : Kvs) (x : Bt × Bt) : -1 ≤ gr1 L D x ∧ gr1 L D x ≤ 1 := by
  unfold gr1
  split
  · omega
  · split <;> omega
theorem grN_bd (L D : Kvs) : ∀ C : Kvs, -(C.length : Int) ≤ grN L D C ∧ grN L D C ≤ C.length
  | [] => by simp [grN]
  | x :: C => by
    have h1 := grN_bd L D C
    have h2 := gr1_bd L D x
    rw [grN, List.length_cons]
    omega
theorem grN_same {L L' D : Kvs} : ∀ {C : Kvs}, (∀ x ∈ C, getL L' x.1 = getL L x.1) → grN L' D C = grN L D C
  | [], _ => rfl
  | x :: C, h => by
    rw [grN, grN, grN_same fun y hy => h y (by simp [hy])]
    unfold gr1
    rw [h x (by simp)]
theorem apL_len {D : Kvs} : ∀ {C L : Kvs}, SrtL C → SrtL L → (∀ x ∈ C, (getL D x.1).isSome → (getL L x.1).isSome) → ((apL D L C).length : Int) = L.length + grN L D C
  | [], L, _, _, _ => by simp [apL, grN]
  | x :: C, L, hC, hL, hw => by
    obtain ⟨h1, h2⟩ := srt_cons hC
    have hsame : ∀ y ∈ C, getL (ap1 D L x) y.1 = getL L y.1 := fun y hy => by rw [getL_ap1, if_neg (klt_ne (h2 y hy))]
    rw [apL, apL_len h1 (ap1_srt hL x) fun y hy hd => by rw [hsame y hy]; exact hw y (by simp [hy]) hd, grN, grN_same hsame]
    have : ((ap1 D L x).length : Int) = L.length + gr1 L D x := by
      unfold ap1 gr1
      by_cases e : (getL D x.1).isSome
      · have hl := hw x (by simp) e
        have := delL_len hL x.1
        rw [if_neg (by intro h; rw [h] at hl; cases hl)] at this
        rw [if_pos e, if_pos e]
        omega
      · rw [if_neg e, if_neg e, putL_len hL]
        cases hg : getL L x.1 <;> simp
    omega
theorem difs_wiped {L S D M C : Kvs} (h : Shows L S D M) (hC : Difs L M C) : ∀ x ∈ C, (getL D x.1).isSome → (getL L x.1).isSome := by
  intro x hx hd
  have h1 := getL_some hC.srt hx
  rw [hC.get, dif] at h1
  have hm : getL M x.1 = none := by rw [h.get, loadL, if_pos hd]
  rw [hm] at h1
  cases e : getL L x.1 with
  | some v => rfl
  | none => rw [e, if_pos rfl] at h1; cases h1
theorem grow_shown {L S D M C : Kvs} (h : Shows L S D M) (hL : SrtL L) (hC : Difs L M C) : (M.length : Int) = L.length + grN L D C := by
  rw [← apL_len hC.srt hL (difs_wiped h hC), apL_shown h hL hC]
end Go.Proofs.Ytcjakgogdbfagaa
