/- Layer 11: a store's Delete; a list of nodes copied. Layer 11: a transaction's Wipe. Layer 11: a transaction's Next. -/
import Derived.Test.YtcjakgogdbfagaaDoorKF
import Derived.Test.YtcjakgogdbfagaaDoorRI
import Derived.Test.YtcjakgogdbfagaaDoorQZ
namespace Go.Proofs.YtcjakgogdbfagaaDoor
open Go.RowKit
set_option maxRecDepth 100000 in
theorem sdel_any (sb tb g : Nat) (L : Kvs) (w : World) (k : Bt) (h : StAt sb tb g L w) :
    Calls Tryd.prog 17 #[.pointer (some ⟨sb, 0, none⟩), sv k] w (SEnd sb tb g (delL L k) (.bool (getL L k).isSome) w) := by
  have c := h.c
  have HM := hidb (stmade_any sb w tb c)
  have HR : Hid (Calls Tryd.prog 37 #[.pointer (some ⟨tb, 0, none⟩), sv k] w fun e w' => e = .returned (.bool (getL L k).isSome) ∧ Hid (SEnd sb tb g (delL L k) (.bool (getL L k).isSome) w (.returned (.bool (getL L k).isSome)) w')) := hidb ((remove_any tb g L w k h.t).mono fun e w' ⟨e1, H⟩ => ⟨e1, by
    obtain ⟨t, y⟩ := H.out
    exact hidb ⟨rfl, hidb ⟨g, ⟨(y.block sb h.lts.1 (by rintro (e | e); exact h.n1 e; exact h.n2 e)).trans h.box, t, h.n1, h.n2⟩, .inl rfl, y⟩⟩⟩)
  clear h
  generalize (getL L k).isSome = b at *
  go_enter Tryd.func17, Tryd.ntmps17
  go_wp2_with (first
    | (go_at_call 28; refine HM.out.mono ?_; clear HM; rintro e w1 ⟨rfl, rfl⟩)
    | (go_at_call 37; refine HR.out.mono ?_; clear HR; rintro e w2 ⟨rfl, K2⟩)
    | fail)
  go_ret
  exact K2.out
/-- append onto a slice of no room, whatever it points to: a new row. -/
theorem run_app00 {P : Program} (w : World) {t ty e : TypeId} {size bytes : Nat} (E : ElemN P t e size bytes) (g : Nat) (ad : Addr) (m c : Nat) (news : List Value) (hn : ∀ j u, news[j]? = some u → w.cell? (ad.add j) = some u) (hl : news.length = m * size) (h1 : ∀ u ∈ news, u.oneCell' = true) (hm : 0 < m)
    (h63 : m ≤ maxLen) (hbytes : m * bytes ≤ 140737488355328) :
    ∃ v' w', (Builtin.append_ #[t, t] ty #[.slice (some ⟨g, 0, none⟩) 0 0, .slice (some ad) m c]).run P w = .ok v' w' ∧ w'.ownsRow w.heap.size e size v' m news ∧ Below w.heap.size w w' := by
  obtain ⟨ht, ⟨i, z, hi, hz, hsize, hby, hzs⟩, hpos⟩ := E
  have hs : Src P i.size t (.slice (some ad) m c) m news w := Src.ofSlice w ht ad m c news (by rw [hsize]; exact hl) hn h1
  have hsmall : m ≤ 9223372036854775807 := by simp only [maxLen] at h63; omega
  have hr := run_append_grow_src (P := P) w t t ty e i z ht hi hz (some ⟨g, 0, none⟩) 0 0 [] (run_firstCells_some w.drew i.size 0 ⟨g, 0, none⟩ 0 0 [] (by simp) (fun j u h => by simp at h)) (.slice (some ad) m c) m news hs (by omega) (by omega) (growslice_fits (by omega) (by rw [hby]; simpa using hbytes))
  simp only [Nat.zero_add, List.nil_append] at hr
  have hge := grownCap_ge w m 0 e
  have hcm : grownCap w m 0 e ≤ maxLen := grownCap_le_maxLen w m 0 e h63
  refine ⟨_, _, hr, ⟨hl, .inr ⟨w.heap.size, _, _, rfl, Nat.le_refl _, heap_alloc_new w.drew _, hge, hcm, ?_, ?_⟩⟩, (Below.refl _ w).drew.alloc (Nat.le_refl _) _⟩
  · simp only [Array.size_append, List.size_toArray, size_zeroCells, hzs, hl]
    rw [← Nat.add_mul]
    congr 1
    omega
  · rw [Array.toList_append]
    simp only [← hl]
    exact List.take_left
theorem slice_00_run (W : World) (g n cap : Nat) : (Go.Instr.sliceAt 55 (.slice (some ⟨g, 0, none⟩) n cap) none (some (.int .i64 0)) (some (.int .i64 0))).run Tryd.prog W = .ok (.slice (some ⟨g, 0, none⟩) 0 0) W := by
  have hu := Tryd.underlying55
  have he : Tryd.prog.elem 55 = 88 := by simp [Program.elem, hu]
  have ht : Tryd.prog.underlying 55 = some (.slice (Tryd.prog.elem 55)) := by rw [he]; exact hu
  rw [run_sliceAt_slice _ _ _ _ _ _ ht]
  simp [go_sem, Go.Instr.slice]
end Go.Proofs.YtcjakgogdbfagaaDoor
namespace Go.Proofs.YtcjakgogdbfagaaDoor
open Go.RowKit
theorem TxAt.wipePut {b : TxB} {L S D D' : Kvs} {more : Int} {w w' : World} {wg' : Nat} (h : TxAt b L S D more w) (t : TreeAt b.wb wg' D' w') (hs : wg' = b.wg ∨ w.heap.size ≤ wg') (k : Kt (fun i => i = b.wb ∨ i = b.wg) w w') : TxAt { b with wg := wg' } L S D' more w' :=
  ⟨(k.block _ (heap_ltb h.box) (fun e => e.elim (fun e => h.nd.xw e) (fun e => h.nd.xv e))).trans h.box, (k.block _ (heap_ltb h.cbx) (fun e => e.elim (fun e => h.nd.cw e) (fun e => h.nd.cv e))).trans h.cbx, h.t.kt k (fun e => e.elim (fun e => h.nd.tw e) (fun e => h.nd.tv e)) (fun e => e.elim (fun e => h.nd.gw e) (fun e => h.nd.gv e)), h.s.kt k (fun e => e.elim (fun e => h.nd.sw e) (fun e => h.nd.sv e)) (fun e => e.elim (fun e => h.nd.hw e) (fun e => h.nd.hv e)), t,
    ⟨h.nd.xc, h.nd.xt, h.nd.xg, h.nd.xs, h.nd.xh, h.nd.xw, ne_new (heap_ltb h.box) h.nd.xv hs, h.nd.ct, h.nd.cg, h.nd.cs, h.nd.ch, h.nd.cw, ne_new (heap_ltb h.cbx) h.nd.cv hs, h.nd.tg, h.nd.ts, h.nd.th, h.nd.tw, ne_new (h.t.lts.1) h.nd.tv hs, h.nd.gs, h.nd.gh, h.nd.gw, ne_new (h.t.lts.2.1) h.nd.gv hs, h.nd.sh, h.nd.sw, ne_new (h.s.lts.1) h.nd.sv hs, h.nd.hw, ne_new (h.s.lts.2.1) h.nd.hv hs, ne_new (h.d.lts.1) h.nd.wv hs⟩⟩
/-- What Wipe leaves. -/
def WpEnd (b : TxB) (L S' D' : Kvs) (m' : Int) (v : Value) (w : World) (e : Ending) (w' : World) : Prop := e = .returned v ∧ Hid (∃ wg', TxAt { b with wg := wg' } L S' D' m' w' ∧ (wg' = b.wg ∨ w.heap.size ≤ wg') ∧ Kt (fun i => i = b.cb ∨ i = b.sb ∨ i = b.sg ∨ i = b.wb ∨ i = b.wg) w w')
theorem wipe_ok_of {b : TxB} {L S D : Kvs} {more : Int} {w W : World} {k : Bt} (h : TxAt b L S D more W) (hk0 : Kt (fun i => i = b.cb ∨ i = b.sb ∨ i = b.sg ∨ i = b.wb ∨ i = b.wg) w W) (hw : w.heap.size = W.heap.size) (hk : k.length ≤ 281474976710656) (hD : (D.length + 2) * 56 ≤ 140737488355328) :
    Calls Tryd.prog 37 #[.pointer (some ⟨b.sb, 0, none⟩), sv k] W fun e w2 => ∃ r, e = .returned (.bool r) ∧ (w2.cell? ⟨b.xb, 1, none⟩ = some (.pointer (some ⟨b.cb, 0, none⟩)) ∧ w2.cell? ⟨b.cb, 1, none⟩ = some (.pointer (some ⟨b.wb, 0, none⟩))) ∧
      Hid (Calls Tryd.prog 32 #[.pointer (some ⟨b.wb, 0, none⟩), sv k, sv []] w2 fun e w3 => e = .returned (.tuple #[]) ∧ Hid (WpEnd b L (delL S k) (putL D k []) more (.int .i64 0) w (.returned (.int .i64 0)) w3)) := by
  refine (remove_any b.sb b.sg S W k h.s).mono fun e w2 ⟨e1, H⟩ => ⟨_, e1, ?_⟩
  obtain ⟨t2, k2⟩ := H.out
  have h2 : TxAt b L (delL S k) D more w2 := h.save t2 (.inl rfl) k2
  refine ⟨⟨h2.x1, h2.y1⟩, hidb ((put_any b.wb b.wg D w2 k [] h2.d hk (by decide) hD).mono fun e w3 ⟨e2, H3⟩ => ⟨e2, ?_⟩)⟩
  obtain ⟨g', t3, x3, k3⟩ := H3.out
  have h3 := h2.wipePut t3 x3 k3
  have hsz := k2.size
  refine hidb ⟨rfl, hidb ⟨g', h3, x3.imp id fun x => by omega, ?_⟩⟩
  exact (hk0.trans (k2.mono (R := fun i => i = b.cb ∨ i = b.sb ∨ i = b.sg ∨ i = b.wb ∨ i = b.wg) fun i _ e => by rcases e with e | e <;> simp [e]) fun _ _ e => e).trans (k3.mono (R := fun i => i = b.cb ∨ i = b.sb ∨ i = b.sg ∨ i = b.wb ∨ i = b.wg) fun i _ e => by rcases e with e | e <;> simp [e]) fun _ _ e => e
theorem WpEnd.same {b : TxB} {L S D : Kvs} {more : Int} {w : World} (h : TxAt b L S D more w) (m : Nat) (v : Value) : WpEnd b L S D more v w (.returned v) (w.drewN m) := ⟨rfl, hidb ⟨b.wg, h.drewN m, .inl rfl, (Kt.refl _ w).drewN m⟩⟩
theorem SX.of_w {sx : Nat} {b : TxB} {L M M' S' D' : Kvs} {d d' : Nat} {m' : Int} {v : Value} {w w' : World} {e : Ending} (h : SX sx b L M d w) (hx : WpEnd b L S' D' m' v w e w') (hm : m' = (M'.length : Int) - L.length) (hs : Shows L S' D' M') (hd : D'.length ≤ d') : SXEnd sx b L M' d' v w e w' := by
  obtain ⟨e1, H⟩ := hx
  obtain ⟨wg', h1, h2, h3⟩ := H.out
  subst hm
  refine ⟨e1, hidb ⟨{ b with wg := wg' }, ⟨⟨S', D', h1, hs, hd⟩, (h3.block sx (heap_ltb h.box) ?_).trans h.box, ?_⟩, rfl, rfl, ?_, h3.mono ?_⟩⟩
  · rintro (x | x | x | x | x) <;> exact h.nb _ (by simp [TxB.l]) x
  · have hl := heap_ltb h.box
    intro i hi
    simp only [TxB.l, List.mem_cons, List.not_mem_nil, or_false] at hi
    rcases hi with rfl | rfl | rfl | rfl | rfl | rfl | rfl | rfl
    · exact h.nb _ (by simp [TxB.l])
    · exact h.nb _ (by simp [TxB.l])
    · exact h.nb _ (by simp [TxB.l])
    · exact h.nb _ (by simp [TxB.l])
    · exact h.nb _ (by simp [TxB.l])
    · exact h.nb _ (by simp [TxB.l])
    · exact h.nb _ (by simp [TxB.l])
    · exact ne_new hl (h.nb b.wg (by simp [TxB.l])) h2
  · intro i hi
    simp only [TxB.l, List.mem_cons, List.not_mem_nil, or_false] at hi ⊢
    rcases hi with rfl | rfl | rfl | rfl | rfl | rfl | rfl | rfl
    · simp
    · simp
    · simp
    · simp
    · simp
    · simp
    · simp
    · rcases h2 with x | x
      · simp [x]
      · exact .inr x
  · rintro i _ (x | x | x | x | x) <;> simp [TxB.l, x]
/-- What Wipe answers, and what is shown then. -/
def wipeE (k : Bt) : Int := if longB k [] then 41 else 0
def wipeS (M : Kvs) (k : Bt) : Kvs := if longB k [] then M else delL M k
end Go.Proofs.YtcjakgogdbfagaaDoor
namespace Go.Proofs.YtcjakgogdbfagaaDoor
open Go.RowKit
theorem nextL_no {L : Kvs} {k : Bt} : nextL L k = none → ∀ x ∈ L, ¬ klt k x.1 := by
  induction L with
  | nil => intro _ x hx; cases hx
  | cons y L ih =>
    obtain ⟨a, b⟩ := y
    unfold nextL
    split
    · intro h; cases h
    · rename_i hn
      intro h x hx
      rcases List.mem_cons.1 hx with e | e
      · rw [e]; exact hn
      · exact ih h x e
theorem nextL_yes {L : Kvs} (s : SrtL L) {k q : Bt} : nextL L k = some q → (getL L q).isSome ∧ klt k q ∧ ∀ x ∈ L, klt k x.1 → ¬ klt x.1 q := by
  induction L with
  | nil => intro h; cases h
  | cons y L ih =>
    obtain ⟨a, b⟩ := y
    obtain ⟨s1, s2⟩ := srt_cons s
    unfold nextL
    split
    · rename_i hk
      intro h
      injection h with h
      subst h
      refine ⟨by rw [getL, if_pos rfl]; rfl, hk, fun x hx _ => ?_⟩
      rcases List.mem_cons.1 hx with e | e
      · rw [e]; exact klt_irr a
      · exact klt_asymm (s2 x e)
    · rename_i hn
      intro h
      obtain ⟨h1, h2, h3⟩ := ih s1 h
      refine ⟨?_, h2, fun x hx hkx => ?_⟩
      · rw [getL]
        split
        · rfl
        · exact h1
      · rcases List.mem_cons.1 hx with e | e
        · rw [e] at hkx; exact absurd hkx hn
        · exact h3 x e hkx
theorem mem_get {L : Kvs} {x : Bt × Bt} (s : SrtL L) (h : x ∈ L) : (getL L x.1).isSome := by rw [getL_some s (k := x.1) (v := x.2) h]; rfl
theorem get_mem {L : Kvs} {k : Bt} (h : (getL L k).isSome) : ∃ x ∈ L, x.1 = k := by
  obtain ⟨v, hv⟩ := Option.isSome_iff_exists.1 h
  exact ⟨(k, v), getL_mem hv, rfl⟩
/-- The least key above, by what it is. -/
theorem next_is {M : Kvs} (s : SrtL M) {k q : Bt} (h1 : (getL M q).isSome) (h2 : klt k q) (h3 : ∀ x ∈ M, klt k x.1 → ¬ klt x.1 q) : nextL M k = some q := by
  cases e : nextL M k with
  | none =>
    obtain ⟨x, hx, rfl⟩ := get_mem h1
    exact absurd h2 (nextL_no e x hx)
  | some p =>
    obtain ⟨p1, p2, p3⟩ := nextL_yes s e
    by_cases hpq : p = q
    · rw [hpq]
    · obtain ⟨x, hx, ex⟩ := get_mem h1
      obtain ⟨y, hy, ey⟩ := get_mem p1
      rcases klt_tot p q hpq with c | c
      · exact absurd (by rw [ey]; exact c) (h3 y hy (by rw [ey]; exact p2))
      · exact absurd (by rw [ex]; exact c) (p3 x hx (by rw [ex]; exact h2))
theorem next_not {M : Kvs} (s : SrtL M) {k : Bt} (h : ∀ x ∈ M, ¬ klt k x.1) : nextL M k = none := by
  cases e : nextL M k with
  | none => rfl
  | some p =>
    obtain ⟨p1, p2, _⟩ := nextL_yes s e
    obtain ⟨y, hy, ey⟩ := get_mem p1
    exact absurd (by rw [ey]; exact p2) (h y hy)
/-- While wiped keys are passed by: all that lies between is wiped. -/
def Pass (L D : Kvs) (k : Bt) : Option Bt → Prop
  | none => ∀ x ∈ L, klt k x.1 → (getL D x.1).isSome
  | some q => (getL L q).isSome ∧ klt k q ∧ ∀ x ∈ L, klt k x.1 → klt x.1 q → (getL D x.1).isSome
theorem pass_start {L D : Kvs} (s : SrtL L) (k : Bt) : Pass L D k (nextL L k) := by
  cases e : nextL L k with
  | none => exact fun x hx h => absurd h (nextL_no e x hx)
  | some q =>
    obtain ⟨h1, h2, h3⟩ := nextL_yes s e
    exact ⟨h1, h2, fun x hx hk hq => absurd hq (h3 x hx hk)⟩
theorem pass_step {L D : Kvs} (s : SrtL L) {k q : Bt} (h : Pass L D k (some q)) (hd : (getL D q).isSome) : Pass L D k (nextL L q) := by
  obtain ⟨h1, h2, h3⟩ := h
  have key : ∀ x ∈ L, klt k x.1 → ¬ klt q x.1 → (getL D x.1).isSome := fun x hx hk hq => by
    by_cases e : x.1 = q
    · rw [e]; exact hd
    · rcases klt_tot _ _ e with c | c
      · exact h3 x hx hk c
      · exact absurd c hq
  cases e : nextL L q with
  | none => exact fun x hx hk => key x hx hk (nextL_no e x hx)
  | some p =>
    obtain ⟨p1, p2, p3⟩ := nextL_yes s e
    exact ⟨p1, klt_trans _ _ _ h2 p2, fun x hx hk hp => key x hx hk fun hq => p3 x hx hq hp⟩
theorem shows_some {L S D M : Kvs} (h : Shows L S D M) (k : Bt) : (getL M k).isSome ↔ (getL S k).isSome ∨ ((getL L k).isSome ∧ getL D k = none) := by
  rw [h.get, loadL]
  constructor
  · intro e
    split at e
    · cases e
    · rename_i hd
      have hd2 : getL D k = none := by cases x : getL D k; rfl; rw [x] at hd; exact absurd rfl hd
      split at e
      · rename_i v hv; left; rw [hv]; rfl
      · exact .inr ⟨e, hd2⟩
  · rintro (e | ⟨e, e2⟩)
    · rw [h.ap k e]
      simp only [Option.isSome_none, Bool.false_eq_true, if_false]
      obtain ⟨v, hv⟩ := Option.isSome_iff_exists.1 e
      rw [hv]; rfl
    · rw [e2]
      simp only [Option.isSome_none, Bool.false_eq_true, if_false]
      split
      · rfl
      · exact e
/-- What Next answers. -/
def pickN (r1 r2 : Option Bt) : Option Bt := match r2 with
  | none => r1
  | some s => match r1 with
    | none => some s
    | some a => if klt a s then some a else some s
theorem next_shown {L S D M : Kvs} (h : Shows L S D M) (sS : SrtL S) {k : Bt} {r1 : Option Bt} (hp : Pass L D k r1) (hx : ∀ q, r1 = some q → getL D q = none) : pickN r1 (nextL S k) = nextL M k := by
  have hm := shows_some h
  have mem : ∀ x ∈ M, klt k x.1 → (∃ y ∈ S, y.1 = x.1) ∨ (∃ y ∈ L, y.1 = x.1 ∧ getL D x.1 = none) := fun x hxm _ => by
    rcases (hm x.1).1 (mem_get h.srt hxm) with e | ⟨e, e2⟩
    · exact .inl (get_mem e)
    · obtain ⟨y, hy, ey⟩ := get_mem e
      exact .inr ⟨y, hy, ey, e2⟩
  have nolow : ∀ q, r1 = some q → ∀ x ∈ L, klt k x.1 → getL D x.1 = none → ¬ klt x.1 q := fun q e x hx2 hk hd hq => by
    rw [e] at hp
    have := hp.2.2 x hx2 hk hq
    rw [hd] at this
    cases this
  have nolow0 : r1 = none → ∀ x ∈ L, klt k x.1 → getL D x.1 = none → False := fun e x hx2 hk hd => by
    rw [e] at hp
    have := hp x hx2 hk
    rw [hd] at this
    cases this
  unfold pickN
  cases es : nextL S k with
  | none =>
    have hS := nextL_no es
    cases e1 : r1 with
    | none =>
      refine (next_not h.srt fun x hxm hk => ?_).symm
      rcases mem x hxm hk with ⟨y, hy, ey⟩ | ⟨y, hy, ey, hd⟩
      · exact hS y hy (by rw [ey]; exact hk)
      · exact nolow0 e1 y hy (by rw [ey]; exact hk) (by rw [ey]; exact hd)
    | some q =>
      have hp2 := hp
      rw [e1] at hp2
      refine (next_is h.srt ((hm q).2 (.inr ⟨hp2.1, hx q e1⟩)) hp2.2.1 fun x hxm hk hq => ?_).symm
      rcases mem x hxm hk with ⟨y, hy, ey⟩ | ⟨y, hy, ey, hd⟩
      · exact hS y hy (by rw [ey]; exact hk)
      · exact nolow q e1 y hy (by rw [ey]; exact hk) (by rw [ey]; exact hd) (by rw [ey]; exact hq)
  | some t =>
    obtain ⟨t1, t2, t3⟩ := nextL_yes sS es
    cases e1 : r1 with
    | none =>
      refine (next_is h.srt ((hm t).2 (.inl t1)) t2 fun x hxm hk hq => ?_).symm
      rcases mem x hxm hk with ⟨y, hy, ey⟩ | ⟨y, hy, ey, hd⟩
      · exact t3 y hy (by rw [ey]; exact hk) (by rw [ey]; exact hq)
      · exact nolow0 e1 y hy (by rw [ey]; exact hk) (by rw [ey]; exact hd)
    | some q =>
      have hp2 := hp
      rw [e1] at hp2
      simp only
      split
      · rename_i hlt
        refine (next_is h.srt ((hm q).2 (.inr ⟨hp2.1, hx q e1⟩)) hp2.2.1 fun x hxm hk hq => ?_).symm
        rcases mem x hxm hk with ⟨y, hy, ey⟩ | ⟨y, hy, ey, hd⟩
        · exact t3 y hy (by rw [ey]; exact hk) (by rw [ey]; exact klt_trans _ _ _ hq hlt)
        · exact nolow q e1 y hy (by rw [ey]; exact hk) (by rw [ey]; exact hd) (by rw [ey]; exact hq)
      · rename_i hlt
        refine (next_is h.srt ((hm t).2 (.inl t1)) t2 fun x hxm hk hq => ?_).symm
        rcases mem x hxm hk with ⟨y, hy, ey⟩ | ⟨y, hy, ey, hd⟩
        · exact t3 y hy (by rw [ey]; exact hk) (by rw [ey]; exact hq)
        · refine nolow q e1 y hy (by rw [ey]; exact hk) (by rw [ey]; exact hd) ?_
          rw [ey]
          by_cases e : q = t
          · rw [e]; exact hq
          · rcases klt_tot _ _ e with c | c
            · exact absurd c hlt
            · exact klt_trans _ _ _ hq c
def strOf : Value → Bt
  | .string s => s.data.toList
  | _ => []
def boolOf : Value → Bool
  | .bool b => b
  | _ => false
/-- How many keys are above. -/
def upN (L : Kvs) (k : Bt) : Nat := (L.filter fun x => decide (klt k x.1)).length
theorem up_less {L : Kvs} (s : SrtL L) {k q : Bt} (h : nextL L k = some q) : upN L q < upN L k := by
  obtain ⟨h1, h2, h3⟩ := nextL_yes s h
  obtain ⟨x, hx, ex⟩ := get_mem h1
  have := filter_less (p := fun x : Bt × Bt => decide (klt q x.1)) (q := fun x : Bt × Bt => decide (klt k x.1)) L (fun y _ hy => decide_eq_true (klt_trans _ _ _ h2 (of_decide_eq_true hy))) ⟨x, hx, decide_eq_true (by rw [ex]; exact h2), decide_eq_false (by rw [ex]; exact klt_irr q)⟩
  unfold upN
  omega
def upV (L : Kvs) (kv bv : Value) : Nat := if boolOf bv then upN L (strOf kv) + 1 else 0
theorem upV_some (L : Kvs) (q : Bt) : upV L (sv q) (.bool true) = upN L q + 1 := rfl
theorem upV_next {L : Kvs} (s : SrtL L) (q : Bt) : upV L (sv ((nextL L q).getD [])) (.bool (nextL L q).isSome) < upV L (sv q) (.bool true) := by
  cases e : nextL L q with
  | none => rw [upV_some]; show 0 < _; omega
  | some p =>
    have := up_less s e
    rw [upV_some]
    show upN L p + 1 < _
    omega
end Go.Proofs.YtcjakgogdbfagaaDoor
