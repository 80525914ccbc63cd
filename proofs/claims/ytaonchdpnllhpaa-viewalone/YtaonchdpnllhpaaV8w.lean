/- Layer 18: a replica's Step of a PrepareOk, where it leads. -/
import Derived.Test.YtaonchdpnllhpaaV8v
namespace Go.Proofs.Ytaonchdpnllhpaa
open Go.RowKit
theorem RA.turn2 {R : RC} {x : Pt} {mt : List Nat} {la : Option Addr} {ln lc tb wb : Nat} {L : List Ent} {W : World} (h : RA R x mt la ln lc L W) (hx : TnAt tb R.pb (.slice none 0 0) (.slice none 0 0) W) (hw : wb ≤ tb) (hz : wb ≤ W.heap.size) (hb : R.base ≤ wb) : TS (R.tc tb wb (Value.slice la ln lc).ownBlock) W x mt la ln lc L none 0 0 [] none 0 0 W :=
  ⟨hx, h.p, World.ownsRow_nil _ _ _ _, ⟨[], World.ownsRow_nil _ _ _ _⟩, h.l, h.k, Chg.refl _ _, .inl rfl, hw, hz, hb⟩
theorem RA.after2 {R : RC} {x y : Pt} {mt mt' : List Nat} {la la' : Option Addr} {ln lc ln' lc' : Nat} {L L' : List Ent} {w W : World} {tb wb m ac dk dc : Nat} {a0 d0 : Option Addr} {xs : List Value} (h : RA R x mt la ln lc L w) (hr : R.rb < wb) (t : TS (R.tc tb wb (Value.slice la ln lc).ownBlock) w y mt' la' ln' lc' L' a0 m ac xs d0 dk dc W) : RA R y mt' la' ln' lc' L' W := by
  refine ⟨?_, t.p, t.l, t.k, Nat.le_trans h.z t.f.size⟩
  rw [t.f.block _ (lt_of_block h.b)]
  · exact h.b
  · rintro (e | e | e | e)
    · exact absurd hr (Nat.not_lt.2 e)
    · have h1 := h.b
      have h2 := h.p
      unfold PtAt at h2
      have e' : R.rb = R.pb := e
      rw [e', h2] at h1
      injection h1 with h1
      injection h1 with h1
      exact absurd (congrArg Array.size h1) (by decide : (13 : Nat) ≠ 1)
    · exact row_apart18 h.l h.b (by decide) e
    · exact row_apart18 h.k h.b (by decide) (by rw [show R.rb = R.mb from e]; rfl)
/-- A replica stays what it is when a message's box is written. -/
theorem RA.msg {R : RC} {x : Pt} {mt : List Nat} {la : Option Addr} {ln lc : Nat} {L : List Ent} {W : World} (h : RA R x mt la ln lc L W) {X o : Nat} {cs : Array Value} (hx : W.heap[X]? = some (.cells cs 41 (0, 0))) (hc : cs.size = 8) (u : Value) : RA R x mt la ln lc L (W.setCell ⟨X, o, none⟩ u) := by
  refine ⟨?_, ?_, row_keep18 h.l (row_apart18 h.l hx (by decide)) _, row_keep18 h.k (row_apart18 h.k hx (by decide)) _, by simpa [World.setCell] using h.z⟩
  · refine (heap_setCell_other _ _ _ _ fun e => ?_).trans h.b
    have h1 := h.b
    rw [e, hx] at h1
    injection h1 with h1
    injection h1 with h1
    rw [h1] at hc
    exact absurd hc (by decide : ¬ (1 : Nat) = 8)
  · refine (heap_setCell_other _ _ _ _ fun e => ?_).trans h.p
    have h1 := h.p
    unfold PtAt at h1
    rw [e, hx] at h1
    injection h1 with h1
    injection h1 with h1
    rw [h1] at hc
    exact absurd hc (by decide : ¬ (13 : Nat) = 8)
theorem ok_msg18 (i id v op : Nat) (hi : i ≤ 7) (hid : id ≤ 7) (hv : v ≤ 1099511627776) (ho : op ≤ 1099511627776) : (Msg.mk 2 i id v op 0 0 []).ok = true := by
  unfold Msg.ok logOk inB
  simp
  omega
theorem ret_bt18 {P : Program} {fn : Func} {R : Ending → World → Prop} {a : Act} {t u : Tmp} {T : TypeId} {W : World} {b : Nat} {v z : Value} (h : fn.results = #[.cell t T, .tmp u]) (ha : a.tmps[t]?.getD undef = .pointer (some ⟨b, 0, none⟩)) (hd : a.defers = []) (hu : a.tmps[u]?.getD undef = z) (hl : (loadVar T ⟨b, 0, none⟩).run P W = .ok v W) (hR : R (.returned (.tuple #[v, z])) W) : bodyPost P fn R .ret a W :=
  bodyPost_ret (by simp [results, h, ha, asAddr, hl, hu]) hd hR
/-- How Step of a PrepareOk ends, where the replica leads. -/
def RStep (R : RC) (x : Pt) (mt : List Nat) (la : Option Addr) (ln lc : Nat) (L : List Ent) (i op : Nat) (w : World) (e : Ending) (w' : World) : Prop := ∃ a ac, e = .returned (.tuple #[.agg #[.slice a (0 + comN x.cm (okC x mt i op ln)) ac, .slice none 0 0], .int .i64 0]) ∧ Hid (RA R (x.rises (okC x mt i op ln)) (okM mt i op ln) la ln lc L w' ∧ Chg w w' (fun k => k = R.pb ∨ (Value.slice la ln lc).ownBlock = some k ∨ k = R.mb) ∧ w'.ownsRow w.heap.size 85 5 (.slice a (0 + comN x.cm (okC x mt i op ln)) ac) (0 + comN x.cm (okC x mt i op ln)) ([] ++ comX x.cm (okC x mt i op ln)))
theorem OkEnd.told {R : RC} {x : Pt} {mt : List Nat} {la : Option Addr} {ln lc kB tb i op : Nat} {L : List Ent} {w W7 W8 : World} (h : RA R x mt la ln lc L w) (b7 : Below w.heap.size w W7) (hk : W7.heap[kB]? = some (.cells #[.slice none 0 0, .slice none 0 0] 35 (0, 0))) (h7 : RA R x mt la ln lc L W7) (hkw : w.heap.size ≤ kB) (hkt : kB < tb) (h8 : OkEnd (R.tc tb tb (Value.slice la ln lc).ownBlock) W7 x mt la ln lc L 0 [] none 0 0 i op W8) : ∃ a m ac, W8.cell? ⟨tb, 1, none⟩ = some (.slice a m ac) ∧ W8.cell? ⟨tb, 2, none⟩ = some (.slice none 0 0) ∧ W8.cell? ⟨kB, 0, none⟩ = some (.slice none 0 0) ∧ W8.cell? ⟨kB, 1, none⟩ = some (.slice none 0 0) ∧ W8.frozen? ⟨kB, 0, none⟩ = false ∧ W8.frozen? ⟨kB, 1, none⟩ = false ∧ (tb < W8.heap.size ∧ kB < W8.heap.size) ∧ Hid (∀ W, W = ((W8.setCell ⟨kB, 0, none⟩ (.slice a m ac)).setCell ⟨kB, 1, none⟩ (.slice none 0 0)) → W.heap[kB]? = some (.cells #[.slice a m ac, .slice none 0 0] 35 (0, 0)) ∧ RStep R x mt la ln lc L i op w (.returned (.tuple #[.agg #[.slice a m ac, .slice none 0 0], .int .i64 0])) W) := by
  obtain ⟨a, ac, t8⟩ := h8
  have t8 := t8.out
  have hrb := lt_of_block h.b
  have hpb := h.p.rd.2.2.1
  have hlo := fun e he => (World.ownsRow.lt h.l e he).2
  have hmb := (World.ownsRow.lt h.k R.mb rfl).2
  have r8 := h7.after2 (by omega) t8
  have k8 : W8.heap[kB]? = some (.cells #[.slice none 0 0, .slice none 0 0] 35 (0, 0)) := by
    rw [t8.f.block _ (lt_of_block hk)]
    · exact hk
    · rintro (e | e | e | e)
      · exact absurd hkt (Nat.not_lt.2 e)
      · have e' : kB = R.pb := e
        omega
      · have := hlo _ e
        omega
      · have e' : kB = R.mb := e
        omega
  obtain ⟨⟨-, t1, t2⟩, tl, -⟩ := t8.t.rd
  refine ⟨a, _, ac, t1, t2, Lib.cell_of_heap k8 0, Lib.cell_of_heap k8 1, Lib.frozen_of_heap k8 0, Lib.frozen_of_heap k8 1, ⟨tl, lt_of_block k8⟩, hid fun W hW => ⟨by rw [hW]; exact heap_setCell_same _ _ _ _ _ _ (heap_setCell_same _ _ _ _ _ _ k8), a, ac, rfl, ?_⟩⟩
  have hx7 := fun u : Value => heap_setCell_same W8 kB 0 _ _ u k8
  have r9 := fun u : Value => r8.work (o := 0) k8 rfl (by decide) (by decide) u
  rw [hW]
  refine hid ⟨(r9 _).work (o := 1) (hx7 _) rfl (by decide) (by decide) _, ?_, ?_⟩
  · have q : Chg w W8 (fun k => k = R.pb ∨ (Value.slice la ln lc).ownBlock = some k ∨ k = R.mb) := (Chg.of_below b7).trans t8.f fun k hk hs => by
      rcases hs with e | e | e | e
      · have e' : tb ≤ k := e
        omega
      · exact .inl e
      · exact .inr (.inl e)
      · exact .inr (.inr e)
    refine (q.trans (T := fun k => k = kB) (Chg.setCell _ _ _) fun i hi e => ?_).trans (T := fun k => k = kB) (Chg.setCell _ _ _) fun i hi e => ?_
    · omega
    · omega
  · exact row_base18 (row_keep18 (row_keep18 t8.r (row_apart18 t8.r k8 (by decide)) _) (row_apart18 t8.r k8 (by decide)) _) (by show w.heap.size ≤ tb; omega)
set_option maxRecDepth 100000 in
set_option maxHeartbeats 1000000 in
theorem rstepOk18 {R : RC} {x : Pt} {mt : List Nat} {la : Option Addr} {ln lc : Nat} {L : List Ent} (v : Nat) (w : World) (h : RA R x mt la ln lc L w) (hn1 : 1 ≤ x.n) (hn : x.n ≤ 7) (hid' : x.id < x.n) (hv : x.vw = v) (hv2 : v ≤ 1099511627776) (hld : x.leads v = true) (i op : Nat) (hi : i < x.n) (hin : i ≠ x.id) (hop : op ≤ 1099511627776) : Calls Try.prog 9 #[.pointer (some ⟨R.rb, 0, none⟩), .agg #[.int .i64 2, .int .i64 i, .int .i64 x.id, .int .i64 v, .int .i64 op, .int .i64 0, .int .i64 0, .slice none 0 0]] w (RStep R x mt la ln lc L i op w) := by
  have HA : Hid (∀ W, Below w.heap.size w W → RA R x mt la ln lc L W) := hid fun W hW => h.below hW
  have HM : Hid (∀ W, Below w.heap.size w W → Calls Try.prog 20 #[.pointer (some ⟨R.rb, 0, none⟩)] W fun e w' => e = .returned (.bool true) ∧ w' = W) := hid fun W hW => made_any18 W (h.below hW)
  have HH : Hid (∀ W, Below w.heap.size w W → Calls Try.prog 24 #[.pointer (some ⟨R.pb, 0, none⟩), .agg #[.int .i64 2, .int .i64 i, .int .i64 x.id, .int .i64 v, .int .i64 op, .int .i64 0, .int .i64 0, .slice none 0 0]] W fun e w' => e = .returned (.bool true) ∧ Below W.heap.size W w') := hid fun W hW => hears_yes18 ⟨2, i, x.id, v, op, 0, 0, []⟩ none 0 0 W (h.below hW).p rfl (.inl rfl) (ok_msg18 i x.id v op (by omega) (by omega) hv2 hop) rfl (by simp; omega) (by simp; omega)
  obtain ⟨kB, hkB⟩ : ∃ kB, kB = w.heap.size + 1 := ⟨_, rfl⟩
  obtain ⟨W1, hW1⟩ : ∃ W1, W1 = w.alloc (.cells #[.int .i64 2, .int .i64 i, .int .i64 x.id, .int .i64 v, .int .i64 op, .int .i64 0, .int .i64 0, .slice none 0 0] 41) := ⟨_, rfl⟩
  obtain ⟨W2, hW2⟩ : ∃ W2, W2 = W1.alloc (.cells #[.slice none 0 0, .slice none 0 0] 35) := ⟨_, rfl⟩
  have B1 : Below w.heap.size w W1 := by rw [hW1]; exact (Below.refl _ w).alloc (Nat.le_refl _) _
  have B2 : Below w.heap.size w W2 := by rw [hW2]; exact B1.alloc B1.size _
  have S1 : W1.heap.size = kB := by rw [hW1, hkB]; exact Array.size_push _
  have X1 : W1.heap[w.heap.size]? = some (.cells #[.int .i64 2, .int .i64 i, .int .i64 x.id, .int .i64 v, .int .i64 op, .int .i64 0, .int .i64 0, .slice none 0 0] 41 (0, 0)) := by rw [hW1]; exact heap_alloc_new _ _
  have X2 : W2.heap[w.heap.size]? = some (.cells #[.int .i64 2, .int .i64 i, .int .i64 x.id, .int .i64 v, .int .i64 op, .int .i64 0, .int .i64 0, .slice none 0 0] 41 (0, 0)) := by rw [hW2]; exact (heap_alloc_old _ _ (lt_of_block X1)).trans X1
  have K2 : W2.heap[kB]? = some (.cells #[.slice none 0 0, .slice none 0 0] 35 (0, 0)) := by rw [hW2, ← S1]; exact heap_alloc_new _ _
  have HS : Hid (∀ W, Below W2.heap.size W2 W → W.cell? ⟨R.rb, 0, none⟩ = some (.pointer (some ⟨R.pb, 0, none⟩)) ∧ W.cell? ⟨w.heap.size, 0, none⟩ = some (.int .i64 2) ∧ W.cell? ⟨w.heap.size, 1, none⟩ = some (.int .i64 i) ∧ W.cell? ⟨w.heap.size, 2, none⟩ = some (.int .i64 x.id) ∧ W.cell? ⟨w.heap.size, 3, none⟩ = some (.int .i64 v) ∧ W.cell? ⟨w.heap.size, 4, none⟩ = some (.int .i64 op) ∧ W.cell? ⟨w.heap.size, 5, none⟩ = some (.int .i64 0) ∧ W.cell? ⟨w.heap.size, 6, none⟩ = some (.int .i64 0) ∧ W.cell? ⟨w.heap.size, 7, none⟩ = some (.slice none 0 0)) := hid fun W hW => by
    have hx := (hW.block _ (lt_of_block X2)).trans X2
    exact ⟨by rw [Lib.cell_of_heap (HA.out W (B2.trans (hW.mono B2.size))).b]; rfl, by rw [Lib.cell_of_heap hx]; rfl, by rw [Lib.cell_of_heap hx]; rfl, by rw [Lib.cell_of_heap hx]; rfl, by rw [Lib.cell_of_heap hx]; rfl, by rw [Lib.cell_of_heap hx]; rfl, by rw [Lib.cell_of_heap hx]; rfl, by rw [Lib.cell_of_heap hx]; rfl, by rw [Lib.cell_of_heap hx]; rfl⟩
  obtain ⟨c0, m0, m1, m2, m3, m4, m5, m6, m7⟩ := HS.out W2 (Below.refl _ W2)
  have l0 := lt_of_block (HA.out W2 B2).b
  have l1 := (HA.out W2 B2).p.rd.2.2.1
  have l2 := lt_of_block X2
  rw [hW1] at hW2
  have lk : w.heap.size < kB := by omega
  have h0 := hid h
  clear h X1 hW1 S1 B1
  go_enter Try.func9, Try.ntmps9
  go_wp2_with fail
  rw [← hW2, ← hkB]
  clear hW2 hkB
  go_region_held3 (fun W => W.cell? ⟨R.rb, 0, none⟩ = some (.pointer (some ⟨R.pb, 0, none⟩)) ∧ W.cell? ⟨w.heap.size, 0, none⟩ = some (.int .i64 2) ∧ W.cell? ⟨w.heap.size, 1, none⟩ = some (.int .i64 i) ∧ W.cell? ⟨w.heap.size, 2, none⟩ = some (.int .i64 x.id) ∧ W.cell? ⟨w.heap.size, 3, none⟩ = some (.int .i64 v) ∧ W.cell? ⟨w.heap.size, 4, none⟩ = some (.int .i64 op) ∧ W.cell? ⟨w.heap.size, 5, none⟩ = some (.int .i64 0) ∧ W.cell? ⟨w.heap.size, 6, none⟩ = some (.int .i64 0) ∧ W.cell? ⟨w.heap.size, 7, none⟩ = some (.slice none 0 0)) (first | go_keep | exact HS.out _ (Below.refl _ W2).drew | exact HS.out _ b3) (first
    | (go_at_call 20; refine (HM.out _ B2.drew).mono ?_; clear HM; rintro e V ⟨rfl, rfl⟩)
    | (go_at_call 24; refine (HH.out _ B2.drew).mono ?_; clear HH; rintro e W3 ⟨rfl, b3'⟩; have b3 := (Below.refl _ W2).drew.trans b3'; have B3 := B2.trans (b3.mono B2.size); clear b3'))
  clear c0 m0 m1 m2 m3 m4 m5 m6 m7 l0 l1 l2
  obtain ⟨c0, -⟩ := HS.out W3 b3
  have h3 := HA.out W3 B3
  have l0 := lt_of_block h3.b
  obtain ⟨W4, hW4⟩ : ∃ W4, W4 = W3.alloc (.cells #[.pointer (some ⟨R.pb, 0, none⟩), .slice none 0 0, .slice none 0 0] 74) := ⟨_, rfl⟩
  have B4 : Below W3.heap.size W3 W4 := by rw [hW4]; exact (Below.refl _ W3).alloc (Nat.le_refl _) _
  have T4 : TnAt W3.heap.size R.pb (.slice none 0 0) (.slice none 0 0) W4 := by rw [hW4]; exact heap_alloc_new _ _
  have HF : Hid (∀ W, Below W4.heap.size W4 W → W.cell? ⟨W3.heap.size, 0, none⟩ = some (.pointer (some ⟨R.pb, 0, none⟩)) ∧ W.cell? ⟨R.pb, 0, none⟩ = some (.int .i64 v) ∧ W.cell? ⟨w.heap.size, 3, none⟩ = some (.int .i64 v) ∧ W.cell? ⟨w.heap.size, 7, none⟩ = some (.slice none 0 0)) := hid fun W hW => by
    have b34 := B4.trans (hW.mono B4.size)
    obtain ⟨-, -, -, -, m3, -, -, -, m7⟩ := HS.out W (b3.trans (b34.mono b3.size))
    have hp := (HA.out W (B3.trans (b34.mono B3.size))).p.rd.1.1
    rw [hv] at hp
    exact ⟨(T4.below hW).rd.1.1, hp, m3, m7⟩
  have l3 := lt_of_block h3.b
  clear h3
  go_upto_region 4 with fail
  rw [← hW4]
  clear hW4 HS
  have l4 := T4.rd.2.1
  have l5 := (HA.out W4 (B3.trans (B4.mono B3.size))).p.rd.2.2.1
  have l6 : w.heap.size < W4.heap.size := by
    have := B3.size
    have := (b3.block _ (lt_of_block X2)).trans X2
    have := lt_of_block this
    have := B4.size
    omega
  obtain ⟨t0, p0, m3, m7⟩ := HF.out W4 (Below.refl _ _)
  go_quiet (fail)
  have hb5 : Below W4.heap.size W4 (W4.drewN nq) := below_drewN (Below.refl _ _) nq
  generalize W4.drewN nq = W5 at *
  clear t0 p0 m3 m7
  obtain ⟨t0, p0, m3, m7⟩ := HF.out W5 hb5
  have HO := hid (own_any18 none 0 0 [] W5 rfl (by omega) (.inl rfl) (by simp))
  have HE : Hid (∀ W6 oa oc, Below W5.heap.size W5 W6 → ∃ W7, W7 = W6.setCell ⟨w.heap.size, 7, none⟩ (.slice oa 0 oc) ∧ (W6.cell? ⟨w.heap.size, 0, none⟩ = some (.int .i64 2) ∧ W6.cell? ⟨w.heap.size, 1, none⟩ = some (.int .i64 i) ∧ W6.cell? ⟨w.heap.size, 2, none⟩ = some (.int .i64 x.id) ∧ W6.cell? ⟨w.heap.size, 3, none⟩ = some (.int .i64 v) ∧ W6.cell? ⟨w.heap.size, 4, none⟩ = some (.int .i64 op) ∧ W6.cell? ⟨w.heap.size, 5, none⟩ = some (.int .i64 0) ∧ W6.cell? ⟨w.heap.size, 6, none⟩ = some (.int .i64 0) ∧ W6.cell? ⟨w.heap.size, 7, none⟩ = some (.slice none 0 0) ∧ W6.frozen? ⟨w.heap.size, 7, none⟩ = false ∧ w.heap.size < W6.heap.size ∧ W3.heap.size < W6.heap.size) ∧ Hid (Calls Try.prog 25 #[.pointer (some ⟨W3.heap.size, 0, none⟩), .agg #[.int .i64 2, .int .i64 i, .int .i64 x.id, .int .i64 v, .int .i64 op, .int .i64 0, .int .i64 0, .slice oa 0 oc]] W7 fun e W8 => e = .returned (.tuple #[]) ∧ ∃ a m ac, W8.cell? ⟨W3.heap.size, 1, none⟩ = some (.slice a m ac) ∧ W8.cell? ⟨W3.heap.size, 2, none⟩ = some (.slice none 0 0) ∧ W8.cell? ⟨kB, 0, none⟩ = some (.slice none 0 0) ∧ W8.cell? ⟨kB, 1, none⟩ = some (.slice none 0 0) ∧ W8.frozen? ⟨kB, 0, none⟩ = false ∧ W8.frozen? ⟨kB, 1, none⟩ = false ∧ (W3.heap.size < W8.heap.size ∧ kB < W8.heap.size) ∧ Hid (∀ W, W = ((W8.setCell ⟨kB, 0, none⟩ (.slice a m ac)).setCell ⟨kB, 1, none⟩ (.slice none 0 0)) → W.heap[kB]? = some (.cells #[.slice a m ac, .slice none 0 0] 35 (0, 0)) ∧ RStep R x mt la ln lc L i op w (.returned (.tuple #[.agg #[.slice a m ac, .slice none 0 0], .int .i64 0])) W))) := hid fun W6 oa oc b6 => by
    have b46 := hb5.trans (b6.mono hb5.size)
    have b36 := B4.trans (b46.mono B4.size)
    have b26 := b3.trans (b36.mono b3.size)
    have bw6 := B2.trans (b26.mono B2.size)
    have x6 := (b26.block _ (lt_of_block X2)).trans X2
    have k6 := (b26.block _ (lt_of_block K2)).trans K2
    have t6 := T4.below b46
    have s3 : kB < W3.heap.size := lt_of_block ((b3.block _ (lt_of_block K2)).trans K2)
    have s6 := lt_of_block t6
    refine ⟨_, rfl, ⟨by rw [Lib.cell_of_heap x6]; rfl, by rw [Lib.cell_of_heap x6]; rfl, by rw [Lib.cell_of_heap x6]; rfl, by rw [Lib.cell_of_heap x6]; rfl, by rw [Lib.cell_of_heap x6]; rfl, by rw [Lib.cell_of_heap x6]; rfl, by rw [Lib.cell_of_heap x6]; rfl, by rw [Lib.cell_of_heap x6]; rfl, Lib.frozen_of_heap x6 7, lt_of_block x6, s6⟩, hid ?_⟩
    have r7 := (HA.out W6 bw6).msg (o := 7) x6 rfl (.slice oa 0 oc)
    have t7 : TnAt W3.heap.size R.pb (.slice none 0 0) (.slice none 0 0) (W6.setCell ⟨w.heap.size, 7, none⟩ (.slice oa 0 oc)) := (heap_setCell_other _ _ _ _ fun e => by have e' : W3.heap.size = w.heap.size := e; omega).trans t6
    have k7 : (W6.setCell ⟨w.heap.size, 7, none⟩ (.slice oa 0 oc)).heap[kB]? = some (.cells #[.slice none 0 0, .slice none 0 0] 35 (0, 0)) := (heap_setCell_other _ _ _ _ fun e => by have e' : kB = w.heap.size := e; omega).trans k6
    have z7 : W3.heap.size ≤ (W6.setCell ⟨w.heap.size, 7, none⟩ (.slice oa 0 oc)).heap.size := by simp [World.setCell]; omega
    have hz := h0.out.z
    have hw3 := B3.size
    refine (stepOk18 _ (r7.turn2 t7 (Nat.le_refl _) z7 (by omega)) v hv (by omega) hn1 hn hid' hld i op hi hin (by omega) x.id 0 0 oa 0 oc).mono ?_
    rintro e W8 ⟨rfl, h8⟩
    exact ⟨rfl, OkEnd.told h0.out (bw6.setCell (Nat.le_refl _) _) k7 r7 (Nat.le_of_lt lk) s3 h8⟩
  clear HF HA T4 B4 l4 l5 l6 hb5 X2 K2 b3 B3 B2 l0 l3
  go_wp2_with (first
    | (go_at_call 18; refine HO.out.mono ?_; clear HO; rintro e W6 ⟨v6, rfl, r6, b6⟩; obtain ⟨oa, oc, rfl, -⟩ := row_form r6; obtain ⟨W7, hW7, ⟨m0, m1, m2, m3, m4, m5, m6, m7, f7, l6, l7⟩, HStep⟩ := HE.out W6 oa oc b6)
    | (rw [← hW7]; go_at_call 25; refine HStep.out.mono ?_; clear HStep; rintro e W8 ⟨rfl, a, m, ac, c1, c2, c3, c4, f3, f4, ⟨l8, l9⟩, HEnd⟩)
    | fail)
  exact ret_bt18 rfl rfl rfl rfl (load_work18 (HEnd.out _ rfl).1) (HEnd.out _ rfl).2
end Go.Proofs.Ytaonchdpnllhpaa
