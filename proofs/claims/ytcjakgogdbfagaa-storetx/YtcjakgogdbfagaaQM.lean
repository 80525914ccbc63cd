/- Layer 11: the tree's without: a node is taken out. Layer 11: the tree's free: the last node moves to a place that is free. -/
import Derived.Test.YtcjakgogdbfagaaQL
namespace Go.Proofs.Ytcjakgogdbfagaa
open Go.RowKit
theorem RPre.right' {f : Nat → Nd} {l r : Tr} {p gone : Nat} (h : RPre f (.n l p r) gone) (hr : r.top ≠ 0) : RPre f r r.lst :=
  ⟨(nd_n h.nd).2.1, h.lk.2.1, h.z, (srt_n h.srt).2.1, by
    cases r with
    | e => exact absurd rfl hr
    | n a c b => obtain ⟨B, eB⟩ := lst_pl a c b; rw [eB]; simp⟩
/-- What without leaves. -/
def REnd (tb g n cap root : Nat) (f : Nat → Nd) (w : World) (T : Tr) (gone : Nat) (e : Ending) (w' : World) : Prop :=
  ∃ q : Nat, e = .returned (.int .i64 q) ∧ Hid (∃ f' T', Rem f f' T T' gone ∧ T'.top = q ∧ TS tb g n cap root f' w' ∧ Kg g w w')
set_option maxRecDepth 100000 in
set_option maxHeartbeats 1000000 in
theorem without_leaf (tb g n cap root : Nat) (f : Nat → Nd) (w : World) (l : Tr) (p : Nat) (h : TS tb g n cap root f w) (hR : RPre f (.n l p .e) p) (hp : p < n) :
    Calls Try.prog 55 #[.pointer (some ⟨tb, 0, none⟩), .int .i64 p, .int .i64 p] w (REnd tb g n cap root f w (.n l p .e) p) := by
  have c0 := h.c0
  have cl := h.l hp
  have cr := h.r hp
  have hlt := h.lt
  rw [hR.lk.2.2.1] at cl
  rw [hR.lk.2.2.2.1] at cr
  have HE : Hid (REnd tb g n cap root f w (.n l p .e) p (.returned (.int .i64 (l.top : Nat))) w) := hidb ⟨l.top, rfl, hidb ⟨f, l, rem_top hR, rfl, h, Kg.refl _ _⟩⟩
  replace cr : w.cell? ⟨g, p * 5 + 3, none⟩ = some (.int .i64 0) := cr
  clear h hR
  generalize l.top = lt at *
  go_enter Try.func55, Try.ntmps55
  go_wp2_with fail
  go_ret
  exact HE.out
set_option maxRecDepth 100000 in
set_option maxHeartbeats 1000000 in
theorem without_left (tb g n cap root : Nat) (f : Nat → Nd) (w : World) (l : Tr) (p : Nat) (r : Tr) (gone : Nat) (h : TS tb g n cap root f w) (hW : RPre f (.n l p r) gone) (hne : p ≠ gone) (hn : 0 < n) (hm : ∀ q ∈ (Tr.n l p r).pl, q < n) (hlen : (Tr.n l p r).pl.length ≤ 4398046511104) (hs : klt (f gone).k (f p).k)
    (ih : ∀ W, TS tb g n cap root f W → Calls Try.prog 55 #[.pointer (some ⟨tb, 0, none⟩), .int .i64 (l.top : Nat), .int .i64 gone] W (REnd tb g n cap root f W l gone)) :
    Calls Try.prog 55 #[.pointer (some ⟨tb, 0, none⟩), .int .i64 p, .int .i64 gone] w (REnd tb g n cap root f w (.n l p r) gone) := by
  have hp := hm p (by simp [Tr.pl])
  have hgn := hm gone hW.mem
  have hpg : ((p : Int) == (gone : Int)) = false := by simpa using fun e => hne (Int.ofNat.inj e)
  have c0 := h.c0
  have ck := h.k hgn
  have cl := h.l hp
  rw [hW.lk.2.2.1] at cl
  have hlt := h.lt
  have HS0 : Hid (Calls Try.prog 70 #[.pointer (some ⟨tb, 0, none⟩), .int .i64 p, sv (f gone).k] w fun e w' => e = .returned (.int .i64 0) ∧ w' = w) := hidb (by
    have := side_any tb g n cap root f w p (f gone).k h hp
    rw [sideN_lt hs] at this
    exact this)
  have HW : Hid (∀ M, Calls Try.prog 55 #[.pointer (some ⟨tb, 0, none⟩), .int .i64 (l.top : Nat), .int .i64 gone] (w.drewN M) fun e w' => ∃ q : Nat, e = .returned (.int .i64 q) ∧ Hid (∃ f' T', Rem f f' l T' gone ∧ T'.top = q ∧ TS tb g n cap root f' w' ∧ Kg g w w')) := hidb fun M =>
    (ih (w.drewN M) (h.drewN M)).mono fun e w' ⟨q, e1, H⟩ => ⟨q, e1, by obtain ⟨f', T', a, b, c, d⟩ := H.out; exact hidb ⟨f', T', a, b, c, ((Kg.refl g w).drewN M).trans d⟩⟩
  have HB : Hid (∀ (q : Nat) (w3 : World), (∃ f' T', Rem f f' l T' gone ∧ T'.top = q ∧ TS tb g n cap root f' w3 ∧ Kg g w w3) → (w3.frozen? ⟨g, p * 5 + 2, none⟩ = false ∧ ∃ v, w3.cell? ⟨g, p * 5 + 2, none⟩ = some (.int .i64 v)) ∧
      Calls Try.prog 71 #[.pointer (some ⟨tb, 0, none⟩), .int .i64 p] (w3.setCell ⟨g, p * 5 + 2, none⟩ (.int .i64 q)) (REnd tb g n cap root f w (.n l p r) gone)) := hidb fun q w3 ⟨f1, c', i, e1, t, k⟩ => by
    refine ⟨⟨t.fr _, _, t.l hp⟩, ?_⟩
    obtain ⟨j1, j2, j3, _⟩ := rem_left hW i
    subst e1
    obtain ⟨A, B, x1, x2⟩ := i.ex
    refine (balanced_any tb g n cap root _ _ c' p r (t.setL hp) j1 j2 j3 hn (fun x hx => ?_) ?_).mono fun e w' ⟨q2, f', y1, y2, y3, y4⟩ => ?_
    · simp only [Tr.pl, List.mem_append, List.mem_cons] at hx
      rcases hx with hx | hx | hx
      · exact hm x (by simp [Tr.pl, i.sub x hx])
      · exact hx ▸ hp
      · exact hm x (by simp [Tr.pl, hx])
    · simp only [Tr.pl, List.length_append, List.length_cons] at hlen ⊢
      rw [x2, List.length_append]
      rw [x1, List.length_append, List.length_cons] at hlen
      omega
    · obtain ⟨T', z1, z2⟩ := rem_bal_left (r := r) i y2
      exact ⟨q2, y1, hidb ⟨f', T', z1, z2, y3, (k.set _ _).trans y4⟩⟩
  clear h hW hm hlen hs ih hne
  generalize (f gone).k = kk at *
  generalize l.top = ct at *
  go_enter Try.func55, Try.ntmps55
  go_wp2_with (go_at_call 70; refine HS0.out.mono ?_; clear HS0; rintro e w1 ⟨rfl, rfl⟩)
  go_region_with (go_at_call 55; refine (HW.out _).mono ?_; clear HW; rintro e w3 ⟨q3, rfl, K3⟩; obtain ⟨⟨cf3, v3, cc3⟩, hB⟩ := HB.out q3 w3 K3.out; replace HB := hidb hB; clear hB)
  all_goals
    go_wp2_with (go_at_call 71; refine HB.out.mono ?_; clear HB; rintro e w4 ⟨q4, rfl, K4⟩)
    go_ret
    exact ⟨q4, rfl, K4⟩
set_option maxRecDepth 100000 in
set_option maxHeartbeats 1000000 in
theorem without_right (tb g n cap root : Nat) (f : Nat → Nd) (w : World) (l : Tr) (p : Nat) (r : Tr) (gone : Nat) (h : TS tb g n cap root f w) (hW : RPre f (.n l p r) gone) (hne : p ≠ gone) (hn : 0 < n) (hm : ∀ q ∈ (Tr.n l p r).pl, q < n) (hlen : (Tr.n l p r).pl.length ≤ 4398046511104) (hs : ¬ klt (f gone).k (f p).k)
    (ih : ∀ W, TS tb g n cap root f W → Calls Try.prog 55 #[.pointer (some ⟨tb, 0, none⟩), .int .i64 (r.top : Nat), .int .i64 gone] W (REnd tb g n cap root f W r gone)) :
    Calls Try.prog 55 #[.pointer (some ⟨tb, 0, none⟩), .int .i64 p, .int .i64 gone] w (REnd tb g n cap root f w (.n l p r) gone) := by
  have hp := hm p (by simp [Tr.pl])
  have hgn := hm gone hW.mem
  have hpg : ((p : Int) == (gone : Int)) = false := by simpa using fun e => hne (Int.ofNat.inj e)
  have c0 := h.c0
  have ck := h.k hgn
  have cl := h.r hp
  rw [hW.lk.2.2.2.1] at cl
  have hlt := h.lt
  have HS0 : Hid (Calls Try.prog 70 #[.pointer (some ⟨tb, 0, none⟩), .int .i64 p, sv (f gone).k] w fun e w' => e = .returned (.int .i64 1) ∧ w' = w) := hidb (by
    have := side_any tb g n cap root f w p (f gone).k h hp
    rw [sideN_ge hs] at this
    exact this)
  have HW : Hid (∀ M, Calls Try.prog 55 #[.pointer (some ⟨tb, 0, none⟩), .int .i64 (r.top : Nat), .int .i64 gone] (w.drewN M) fun e w' => ∃ q : Nat, e = .returned (.int .i64 q) ∧ Hid (∃ f' T', Rem f f' r T' gone ∧ T'.top = q ∧ TS tb g n cap root f' w' ∧ Kg g w w')) := hidb fun M =>
    (ih (w.drewN M) (h.drewN M)).mono fun e w' ⟨q, e1, H⟩ => ⟨q, e1, by obtain ⟨f', T', a, b, c, d⟩ := H.out; exact hidb ⟨f', T', a, b, c, ((Kg.refl g w).drewN M).trans d⟩⟩
  have HB : Hid (∀ (q : Nat) (w3 : World), (∃ f' T', Rem f f' r T' gone ∧ T'.top = q ∧ TS tb g n cap root f' w3 ∧ Kg g w w3) → (w3.frozen? ⟨g, p * 5 + 3, none⟩ = false ∧ ∃ v, w3.cell? ⟨g, p * 5 + 3, none⟩ = some (.int .i64 v)) ∧
      Calls Try.prog 71 #[.pointer (some ⟨tb, 0, none⟩), .int .i64 p] (w3.setCell ⟨g, p * 5 + 3, none⟩ (.int .i64 q)) (REnd tb g n cap root f w (.n l p r) gone)) := hidb fun q w3 ⟨f1, c', i, e1, t, k⟩ => by
    refine ⟨⟨t.fr _, _, t.r hp⟩, ?_⟩
    obtain ⟨j1, j2, j3, _⟩ := rem_right hW i
    subst e1
    obtain ⟨A, B, x1, x2⟩ := i.ex
    refine (balanced_any tb g n cap root _ _ l p c' (t.setR hp) j1 j2 j3 hn (fun x hx => ?_) ?_).mono fun e w' ⟨q2, f', y1, y2, y3, y4⟩ => ?_
    · simp only [Tr.pl, List.mem_append, List.mem_cons] at hx
      rcases hx with hx | hx | hx
      · exact hm x (by simp [Tr.pl, hx])
      · exact hx ▸ hp
      · exact hm x (by simp [Tr.pl, i.sub x hx])
    · simp only [Tr.pl, List.length_append, List.length_cons] at hlen ⊢
      rw [x2, List.length_append]
      rw [x1, List.length_append, List.length_cons] at hlen
      omega
    · obtain ⟨T', z1, z2⟩ := rem_bal_right (l := l) i y2
      exact ⟨q2, y1, hidb ⟨f', T', z1, z2, y3, (k.set _ _).trans y4⟩⟩
  clear h hW hm hlen hs ih hne
  generalize (f gone).k = kk at *
  generalize r.top = ct at *
  go_enter Try.func55, Try.ntmps55
  go_wp2_with (go_at_call 70; refine HS0.out.mono ?_; clear HS0; rintro e w1 ⟨rfl, rfl⟩)
  go_region_with (go_at_call 55; refine (HW.out _).mono ?_; clear HW; rintro e w3 ⟨q3, rfl, K3⟩; obtain ⟨⟨cf3, v3, cc3⟩, hB⟩ := HB.out q3 w3 K3.out; replace HB := hidb hB; clear hB)
  all_goals
    go_wp2_with (go_at_call 71; refine HB.out.mono ?_; clear HB; rintro e w4 ⟨q4, rfl, K4⟩)
    go_ret
    exact ⟨q4, rfl, K4⟩
set_option maxRecDepth 100000 in
set_option maxHeartbeats 1000000 in
theorem without_mid (tb g n cap root : Nat) (f : Nat → Nd) (w : World) (l : Tr) (p : Nat) (r : Tr) (h : TS tb g n cap root f w) (hW : RPre f (.n l p r) p) (hr : r.top ≠ 0) (hn : 0 < n) (hm : ∀ q ∈ (Tr.n l p r).pl, q < n) (hlen : (Tr.n l p r).pl.length ≤ 4398046511104)
    (ih : ∀ W, TS tb g n cap root f W → Calls Try.prog 55 #[.pointer (some ⟨tb, 0, none⟩), .int .i64 (r.top : Nat), .int .i64 (r.lst : Nat)] W (REnd tb g n cap root f W r r.lst)) :
    Calls Try.prog 55 #[.pointer (some ⟨tb, 0, none⟩), .int .i64 p, .int .i64 p] w (REnd tb g n cap root f w (.n l p r) p) := by
  have hp := hm p (by simp [Tr.pl])
  have mr : ∀ q ∈ r.pl, q < n := fun q hq => hm q (by simp [Tr.pl, hq])
  obtain ⟨a, c, b, er⟩ : ∃ a c b, r = .n a c b := by
    cases r with
    | e => exact absurd rfl hr
    | n a c b => exact ⟨a, c, b, rfl⟩
  have hqn : r.lst < n := by
    obtain ⟨B, eB⟩ := lst_pl a c b
    exact mr _ (by rw [er, eB]; simp)
  have c0 := h.c0
  have cl := h.l hp
  have cr := h.r hp
  rw [hW.lk.2.2.1] at cl
  rw [hW.lk.2.2.2.1] at cr
  have hlt := h.lt
  have hrz : ((r.top : Int) == 0) = false := by simpa using hr
  have HL : Hid (Calls Try.prog 72 #[.pointer (some ⟨tb, 0, none⟩), .int .i64 (r.top : Nat)] w fun e w' => e = .returned (.int .i64 (r.lst : Nat)) ∧ w' = w) := hidb (least_any tb g n cap root f r w h hW.lk.2.1 hr mr)
  have HW : Hid (Calls Try.prog 55 #[.pointer (some ⟨tb, 0, none⟩), .int .i64 (r.top : Nat), .int .i64 (r.lst : Nat)] w fun e w' => ∃ q : Nat, e = .returned (.int .i64 q) ∧ Hid (∃ f' T', Rem f f' r T' r.lst ∧ T'.top = q ∧ TS tb g n cap root f' w' ∧ Kg g w w')) := hidb (ih w h)
  clear ih
  have HB : Hid (∀ (q : Nat) (w3 : World), (∃ f' T', Rem f f' r T' r.lst ∧ T'.top = q ∧ TS tb g n cap root f' w3 ∧ Kg g w w3) → (w3.cell? ⟨tb, 0, none⟩ = some (.slice (some ⟨g, 0, none⟩) n cap) ∧ w3.cell? ⟨g, p * 5 + 2, none⟩ = some (.int .i64 (l.top : Nat)) ∧ w3.frozen? ⟨g, r.lst * 5 + 2, none⟩ = false ∧ w3.frozen? ⟨g, r.lst * 5 + 2 + 1, none⟩ = false ∧ (∃ v, w3.cell? ⟨g, r.lst * 5 + 2, none⟩ = some (.int .i64 v)) ∧ ∃ v, w3.cell? ⟨g, r.lst * 5 + 2 + 1, none⟩ = some (.int .i64 v)) ∧
      Calls Try.prog 71 #[.pointer (some ⟨tb, 0, none⟩), .int .i64 (r.lst : Nat)] ((w3.setCell ⟨g, r.lst * 5 + 2, none⟩ (.int .i64 (l.top : Nat))).setCell ⟨g, r.lst * 5 + 2 + 1, none⟩ (.int .i64 q)).drew (REnd tb g n cap root f w (.n l p r) p)) := hidb fun q w3 ⟨f1, c', i, e1, t, k⟩ => by
    have hf1 : (f1 p).l = l.top := (rem_mid hW hr rfl i _ rfl).2.2.2.1
    refine ⟨⟨t.c0, by rw [t.l hp, hf1], t.fr _, t.fr _, ⟨_, t.l hqn⟩, ⟨_, t.r hqn⟩⟩, ?_⟩
    subst e1
    obtain ⟨A, B, x1, x2⟩ := i.ex
    have t2 := ((t.setL (y := l.top) hqn).setR (y := c'.top) hqn).drewN 1
    have ef : upd (upd f1 r.lst { f1 r.lst with l := l.top }) r.lst { (upd f1 r.lst { f1 r.lst with l := l.top } r.lst) with r := c'.top } = upd f1 r.lst { f1 r.lst with l := l.top, r := c'.top } := by
      funext x
      unfold upd
      by_cases e : x = r.lst
      · subst e; simp
      · simp [e]
    rw [ef] at t2
    obtain ⟨j1, j2, j3, _, j5⟩ := rem_mid hW hr rfl i _ rfl
    refine (balanced_any tb g n cap root _ _ l r.lst c' t2 j1 j2 j3 hn (fun x hx => ?_) ?_).mono fun e w' ⟨q2, f', y1, y2, y3, y4⟩ => ?_
    · simp only [Tr.pl, List.mem_append, List.mem_cons] at hx
      rcases hx with hx | hx | hx
      · exact hm x (by simp [Tr.pl, hx])
      · exact hx ▸ hqn
      · exact mr x (i.sub x hx)
    · simp only [Tr.pl, List.length_append, List.length_cons] at hlen ⊢
      rw [x2, List.length_append]
      rw [x1, List.length_append, List.length_cons] at hlen
      omega
    · obtain ⟨T', z1, z2⟩ := j5 f' q2 y2
      exact ⟨q2, y1, hidb ⟨f', T', z1, z2, y3, (((k.set _ _).set _ _).drewN 1).trans y4⟩⟩
  clear h hW hm hlen mr er
  generalize r.lst = least at *
  generalize r.top = rt at *
  generalize l.top = lt at *
  go_enter Try.func55, Try.ntmps55
  go_wp2_with (first
    | (go_at_call 72; refine HL.out.mono ?_; clear HL; rintro e w1 ⟨rfl, rfl⟩)
    | (go_at_call 55; refine HW.out.mono ?_; clear HW; rintro e w3 ⟨q3, rfl, K3⟩; obtain ⟨⟨c3, cl3, z3, z4, ⟨v3, y3⟩, v4, y4⟩, hB⟩ := HB.out q3 w3 K3.out; replace HB := hidb hB; clear hB)
    | fail)
  go_region
  go_wp2_with (go_at_call 71; refine HB.out.mono ?_; clear HB; rintro e w4 ⟨q4, rfl, K4⟩)
  go_ret
  exact ⟨q4, rfl, K4⟩
theorem without_any (tb g n cap root : Nat) (f : Nat → Nd) (hn : 0 < n) : ∀ (T : Tr) (gone : Nat) (w : World), TS tb g n cap root f w → RPre f T gone → (∀ q ∈ T.pl, q < n) → T.pl.length ≤ 4398046511104 →
    Calls Try.prog 55 #[.pointer (some ⟨tb, 0, none⟩), .int .i64 (T.top : Nat), .int .i64 gone] w (REnd tb g n cap root f w T gone)
  | .e, _, _, _, hW, _, _ => by have := hW.mem; cases this
  | .n l p r, gone, w, h, hW, hm, hlen => by
    have hll : l.pl.length ≤ 4398046511104 ∧ r.pl.length ≤ 4398046511104 := by simp only [Tr.pl, List.length_append, List.length_cons] at hlen; omega
    have ml : ∀ q ∈ l.pl, q < n := fun q hq => hm q (by simp [Tr.pl, hq])
    have mr : ∀ q ∈ r.pl, q < n := fun q hq => hm q (by simp [Tr.pl, hq])
    by_cases e : p = gone
    · subst e
      by_cases hr : r.top = 0
      · have er := hW.lk.2.1.nil hr
        subst er
        exact without_leaf tb g n cap root f w l p h hW (hm p (by simp [Tr.pl]))
      · refine without_mid tb g n cap root f w l p r h hW hr hn hm hlen fun W hT => without_any tb g n cap root f hn r r.lst W hT (hW.right' hr) mr hll.2
    · rcases hW.side e with ⟨c, m⟩ | ⟨c, m⟩
      · exact without_left tb g n cap root f w l p r gone h hW e hn hm hlen c fun W hT => without_any tb g n cap root f hn l gone W hT (hW.left m) ml hll.1
      · exact without_right tb g n cap root f w l p r gone h hW e hn hm hlen c fun W hT => without_any tb g n cap root f hn r gone W hT (hW.right m) mr hll.2
end Go.Proofs.Ytcjakgogdbfagaa
namespace Go.Proofs.Ytcjakgogdbfagaa
open Go.RowKit
theorem upd_upd (f : Nat → Nd) (p : Nat) (x y : Nd) : upd (upd f p x) p y = upd f p y := by
  funext q
  unfold upd
  split <;> rfl
/-- A whole node is written. -/
def set5 (w : World) (g p : Nat) (x : Nd) : World :=
  ((((w.setCell ⟨g, p * 5, none⟩ (sv x.k)).setCell ⟨g, p * 5 + 1, none⟩ (sv x.v)).setCell ⟨g, p * 5 + 2, none⟩ (.int .i64 x.l)).setCell ⟨g, p * 5 + 3, none⟩ (.int .i64 x.r)).setCell ⟨g, p * 5 + 4, none⟩ (.int .i64 x.h)
section
variable {tb g n cap root : Nat} {f : Nat → Nd} {w : World}
theorem TS.setK (h : TS tb g n cap root f w) {p : Nat} {y : Bt} (hp : p < n) : TS tb g n cap root (upd f p { f p with k := y }) (w.setCell ⟨g, p * 5, none⟩ (sv y)) :=
  h.set (j := 0) hp (by omega) fun k hk => by rcases cases5 hk with rfl | rfl | rfl | rfl | rfl <;> rfl
theorem TS.set5 (h : TS tb g n cap root f w) {p : Nat} (hp : p < n) (x : Nd) : TS tb g n cap root (upd f p x) (set5 w g p x) := by
  have h1 := h.setK (y := x.k) hp
  have h2 := h1.setV (y := x.v) hp
  have h3 := h2.setL (y := x.l) hp
  have h4 := h3.setR (y := x.r) hp
  have h5 := h4.setH (y := x.h) hp
  refine h5.congr fun q _ => ?_
  by_cases e : q = p
  · subst e
    simp only [upd_same]
  · simp only [upd_other _ _ e]
theorem Kt.set5 {S : Nat → Prop} {a b : World} (h : Kt S a b) {p : Nat} {x : Nd} (hs : S g) : Kt S a (set5 b g p x) :=
  ((((h.set fun _ => hs).set fun _ => hs).set fun _ => hs).set fun _ => hs).set fun _ => hs
theorem TS.shrink (h : TS tb g (n + 1) cap root f w) : TS tb g n cap root f (w.setCell ⟨tb, 0, none⟩ (.slice (some ⟨g, 0, none⟩) n cap)) := by
  obtain ⟨cur, h1, h2, h3, h4⟩ := h.nb
  exact ⟨by rw [heap_setCell_same _ _ _ _ _ _ h.box]; rfl, ⟨cur, (Below.heap_setCell _ _ _ _ (Ne.symm h.ne)).trans h1, h2, by omega, fun p hp => h4 p (by omega)⟩, h.ne, h.cm, by have := h.lt; omega⟩
end
/-- What free leaves. -/
def FEnd (tb g n cap : Nat) (q : Nat) (f' : Nat → Nd) (w : World) (e : Ending) (w' : World) : Prop := e = .returned (.tuple #[]) ∧ TS tb g n cap q f' w' ∧ Kt (fun i => i = tb ∨ i = g) w w'
set_option maxRecDepth 100000 in
set_option maxHeartbeats 1000000 in
theorem free_last (tb g n cap root : Nat) (f : Nat → Nd) (w : World) (h : TS tb g (n + 1) cap root f w) :
    Calls Try.prog 56 #[.pointer (some ⟨tb, 0, none⟩), .int .i64 n] w (FEnd tb g n cap root (upd f n Nd.zero) w) := by
  have c0 := h.c0
  have z0 := h.fr (n * 5)
  have z1 := h.fr (n * 5 + 1)
  have z2 := h.fr (n * 5 + 2)
  have z3 := h.fr (n * 5 + 3)
  have z4 := h.fr (n * 5 + 4)
  have y0 := h.k (p := n) (by omega)
  have y1 := h.v (p := n) (by omega)
  have y2 := h.l (p := n) (by omega)
  have y3 := h.r (p := n) (by omega)
  have y4 := h.h (p := n) (by omega)
  have b0 := h.frb 0
  have hlt := h.lt
  have hcap : n + 1 ≤ cap := by obtain ⟨_, _, _, h3, _⟩ := h.nb; exact h3
  have HC := hidb (count_any tb g (n + 1) cap root f w h (by omega))
  simp only [Nat.add_sub_cancel] at HC
  have hne : ¬ tb = g := h.ne
  have hne2 : ¬ g = tb := Ne.symm h.ne
  have HE : Hid (FEnd tb g n cap root (upd f n Nd.zero) w (.returned (.tuple #[])) ((set5 w g n Nd.zero).setCell ⟨tb, 0, none⟩ (.slice (some ⟨g, 0, none⟩) n cap))) := hidb ⟨rfl, (h.set5 (by omega) _).shrink, ((Kt.refl _ w).set5 (.inr rfl)).set fun _ => .inl rfl⟩
  unfold set5 Nd.zero at HE
  clear h
  generalize (f n).k = k0 at *
  generalize (f n).v = k1 at *
  generalize (f n).l = k2 at *
  generalize (f n).r = k3 at *
  generalize (f n).h = k4 at *
  go_enter Try.func56, Try.ntmps56
  go_wp2_with (go_at_call 34; refine HC.out.mono ?_; clear HC; rintro e w1 ⟨rfl, rfl⟩)
  go_end0
  exact HE.out
/-- Where a link lies. -/
def lkA (tb g : Nat) : Option (Nat × Nat) → Addr
  | none => ⟨tb, 1, none⟩
  | some (q, s) => ⟨g, q * 5 + 2 + s, none⟩
/-- A link is turned to a place. -/
def movL (f : Nat → Nd) (c : Option (Nat × Nat)) (at_ : Nat) : Nat → Nd := match c with
  | none => f
  | some (q, s) => upd f q ((f q).setLink s at_)
def rootL (root : Nat) (c : Option (Nat × Nat)) (at_ : Nat) : Nat := match c with
  | none => at_
  | some _ => root
theorem movF_eq (f : Nat → Nd) (c : Option (Nat × Nat)) (last at_ : Nat) : movF f c last at_ = upd (movL f c at_) at_ (movL f c at_ last) := by
  unfold movF movL; rfl
/-- What the link that was come to holds. -/
def LkC (n root : Nat) (f : Nat → Nd) (t : Nat) : Option (Nat × Nat) → Prop
  | none => root = t
  | some (q, s) => q < n ∧ s ≤ 1 ∧ (f q).link s = t
def FSt (tb g n cap root : Nat) (f : Nat → Nd) (w : World) (last : Nat) (C : Option (Nat × Nat)) (B O t k : Nat) (wr : World) : Prop :=
  ∃ c S, lkA tb g c = ⟨B, O, none⟩ ∧ RPre f S last ∧ (∀ q ∈ S.pl, q < n) ∧ S.pl.length = k ∧ S.top = t ∧ C = S.hang f last c ∧ LkC n root f t c ∧ TS tb g n cap root f wr ∧ ∃ m, wr = w.drewN m
theorem FSt.cell {tb g n cap root : Nat} {f : Nat → Nd} {w : World} {last : Nat} {C : Option (Nat × Nat)} {B O t k : Nat} {wr : World} (h : FSt tb g n cap root f w last C B O t k wr) : wr.cell? ⟨B, O, none⟩ = some (.int .i64 t) ∧ wr.frozen? ⟨B, O, none⟩ = false := by
  obtain ⟨c, S, e, _, _, _, _, _, l, T, _⟩ := h
  cases c with
  | none => rw [← e]; unfold LkC at l; subst l; exact ⟨T.c1, T.frb 1⟩
  | some qs =>
    obtain ⟨q, s⟩ := qs
    rw [← e]
    unfold LkC at l
    obtain ⟨l1, l2, l3⟩ := l
    refine ⟨?_, T.fr _⟩
    rcases (by omega : s = 0 ∨ s = 1) with rfl | rfl
    · have := T.l l1; rw [show (f q).l = t from l3] at this; exact this
    · have := T.r l1; rw [show (f q).r = t from l3] at this; exact this
theorem FSt.store {tb g n cap root : Nat} {f : Nat → Nd} {w : World} {last : Nat} {C : Option (Nat × Nat)} {B O k : Nat} {wr : World} (h : FSt tb g n cap root f w last C B O last k wr) (at_ : Nat) :
    TS tb g n cap (rootL root C at_) (movL f C at_) (wr.setCell ⟨B, O, none⟩ (.int .i64 at_)) ∧ Kt (fun i => i = tb ∨ i = g) w (wr.setCell ⟨B, O, none⟩ (.int .i64 at_)) := by
  obtain ⟨c, S, e, hp, _, _, et, hc, l, T, m, hm⟩ := h
  obtain ⟨a, b, eS⟩ := hp.lk.form (by rw [et]; exact hp.lk.ne _ hp.mem)
  rw [et] at eS
  have e1 : C = c := by rw [hc, eS, Tr.hang, if_pos rfl]
  subst e1
  have k0 : Kt (fun i => i = tb ∨ i = g) w wr := by rw [hm]; exact (Kt.refl _ w).drewN m
  cases C with
  | none =>
    rw [← e]
    exact ⟨T.setRoot _, k0.set fun _ => .inl rfl⟩
  | some qs =>
    obtain ⟨q, s⟩ := qs
    rw [← e]
    unfold LkC at l
    obtain ⟨l1, l2, l3⟩ := l
    refine ⟨?_, k0.set fun _ => .inr rfl⟩
    rcases (by omega : s = 0 ∨ s = 1) with rfl | rfl
    · exact T.setL l1
    · exact T.setR l1
theorem FSt.next {tb g n cap root : Nat} {f : Nat → Nd} {w : World} {last : Nat} {C : Option (Nat × Nat)} {B O t k : Nat} {wr : World} (h : FSt tb g n cap root f w last C B O t k wr) (hne : t ≠ last) :
    t < n ∧ ∃ s t' k', s = sideN (f last).k (f t).k ∧ (s = 0 ∨ s = 1) ∧ k' < k ∧ ∀ M, FSt tb g n cap root f w last C g (t * 5 + 2 + s) t' k' (wr.drewN M) := by
  obtain ⟨c, S, e, hp, hm, hk, et, hc, l, T, m, hw⟩ := h
  cases S with
  | e => have := hp.mem; cases this
  | n a p b =>
    have et : p = t := et
    subst et
    have hpn := hm p (by simp [Tr.pl])
    refine ⟨hpn, ?_⟩
    rw [Tr.hang, if_neg hne] at hc
    rcases hp.side hne with ⟨x, y⟩ | ⟨x, y⟩
    · rw [if_pos x] at hc
      refine ⟨0, a.top, a.pl.length, (sideN_lt x).symm, .inl rfl, by rw [← hk]; simp [Tr.pl], fun M => ⟨some (p, 0), a, rfl, hp.left y, fun q hq => hm q (by simp [Tr.pl, hq]), rfl, rfl, hc, ⟨hpn, by omega, hp.lk.2.2.1⟩, T.drewN M, m + M, by rw [hw, World.drewN_drewN]⟩⟩
    · rw [if_neg x] at hc
      refine ⟨1, b.top, b.pl.length, (sideN_ge x).symm, .inr rfl, by rw [← hk]; simp [Tr.pl]; omega, fun M => ⟨some (p, 1), b, rfl, hp.right y, fun q hq => hm q (by simp [Tr.pl, hq]), rfl, rfl, hc, ⟨hpn, by omega, hp.lk.2.2.2.1⟩, T.drewN M, m + M, by rw [hw, World.drewN_drewN]⟩⟩
set_option maxRecDepth 100000 in
set_option maxHeartbeats 1000000 in
theorem free_move (tb g n cap root : Nat) (f : Nat → Nd) (w : World) (at_ : Nat) (T : Tr) (h : TS tb g (n + 1) cap root f w) (ha : at_ < n) (hT : RPre f T n) (hr : root = T.top) (hm : ∀ q ∈ T.pl, q < n + 1) :
    Calls Try.prog 56 #[.pointer (some ⟨tb, 0, none⟩), .int .i64 at_] w (FEnd tb g n cap (rootL root (T.hang f n none) at_) (upd (movF f (T.hang f n none) n at_) n Nd.zero) w) := by
  have hlt := h.lt
  have han : ((at_ : Int) == (n : Int)) = false := by simp; omega
  have HC := hidb (count_any tb g (n + 1) cap root f w h (by omega))
  simp only [Nat.add_sub_cancel] at HC
  obtain ⟨C, hC⟩ : ∃ C, C = T.hang f n none := ⟨_, rfl⟩
  rw [← hC]
  have H0 : Hid (FSt tb g (n + 1) cap root f w n C tb 1 root T.pl.length w) := hidb ⟨none, T, rfl, hT, hm, rfl, hr.symm, hC, rfl, h, 0, rfl⟩
  have HS : Hid (∀ t W, t < n + 1 → TS tb g (n + 1) cap root f W → Calls Try.prog 70 #[.pointer (some ⟨tb, 0, none⟩), .int .i64 (t : Nat), sv (f n).k] W fun e w' => e = .returned (.int .i64 (sideN (f n).k (f t).k)) ∧ w' = W) := hidb fun t W ht hW => side_any tb g (n + 1) cap root f W t (f n).k hW ht
  have HK : Hid (∀ {B O t k wr}, FSt tb g (n + 1) cap root f w n C B O t k wr → wr.cell? ⟨tb, 0, none⟩ = some (.slice (some ⟨g, 0, none⟩) (n + 1) cap) ∧ wr.cell? ⟨g, n * 5, none⟩ = some (sv (f n).k) ∧ TS tb g (n + 1) cap root f wr) := hidb fun ⟨_, _, _, _, _, _, _, _, _, x, _⟩ => ⟨x.c0, x.k (by omega), x⟩
  obtain ⟨f1, hf1⟩ : ∃ f1, f1 = movL f C at_ := ⟨_, rfl⟩
  have hne : ¬ tb = g := h.ne
  have hne2 : ¬ g = tb := Ne.symm h.ne
  have hcap : n + 1 ≤ cap := by obtain ⟨_, _, _, h3, _⟩ := h.nb; exact h3
  have HE : Hid (∀ W, TS tb g (n + 1) cap (rootL root C at_) (upd f1 at_ (f1 n)) W → Kt (fun i => i = tb ∨ i = g) w W → FEnd tb g n cap (rootL root C at_) (upd (movF f C n at_) n Nd.zero) w (.returned (.tuple #[])) ((set5 W g n Nd.zero).setCell ⟨tb, 0, none⟩ (.slice (some ⟨g, 0, none⟩) n cap))) := hidb fun W t k => ⟨rfl, by rw [movF_eq, ← hf1]; exact (t.set5 (by omega) _).shrink, (k.set5 (.inr rfl)).set fun _ => .inl rfl⟩
  have HF1 := hidb hf1
  clear h hT hm hC hr hf1
  obtain ⟨root2, hr2⟩ : ∃ root2, rootL root C at_ = root2 := ⟨_, rfl⟩
  rw [hr2] at HE ⊢
  have HR := hidb hr2
  clear hr2
  generalize hkk : (f n).k = kk at *
  have HKK := hidb hkk
  clear hkk
  go_enter Try.func56, Try.ntmps56
  go_wp2_with (go_at_call 34; refine HC.out.mono ?_; clear HC; rintro e w1 ⟨rfl, rfl⟩)
  go_loopg [5] T.pl.length (fun k v wr => ∃ B O t : Nat, v = .pointer (some ⟨B, O, none⟩) ∧ Hid (FSt tb g (n + 1) cap root f w1 n C B O t k wr))
  case atStart => exact ⟨tb, 1, root, rfl, H0⟩
  case round =>
    obtain ⟨B, O, t, rfl, HF⟩ := hrel
    obtain ⟨cc, cz⟩ := HF.out.cell
    obtain ⟨c0, ck, _⟩ := HK.out HF.out
    clear H0
    by_cases et : t = n
    · rw [et] at HF cc
      have H5 := hidb (HF.out.store at_)
      rw [HR.out, ← HF1.out] at H5
      clear HS HK HF ck c0 HKK
      go_wp2_with fail
      revert H5
      generalize wr.setCell ⟨B, O, none⟩ (.int .i64 (at_ : Nat)) = W5
      intro H5
      have hT5 := H5.out.1
      have c0 := hT5.c0
      have x0 := hT5.k (p := n) (by omega)
      have x1 := hT5.v (p := n) (by omega)
      have x2 := hT5.l (p := n) (by omega)
      have x3 := hT5.r (p := n) (by omega)
      have x4 := hT5.h (p := n) (by omega)
      have y0 := hT5.k (p := at_) (by omega)
      have y1 := hT5.v (p := at_) (by omega)
      have y2 := hT5.l (p := at_) (by omega)
      have y3 := hT5.r (p := at_) (by omega)
      have y4 := hT5.h (p := at_) (by omega)
      have z0 := hT5.fr (at_ * 5)
      have z1 := hT5.fr (at_ * 5 + 1)
      have z2 := hT5.fr (at_ * 5 + 2)
      have z3 := hT5.fr (at_ * 5 + 3)
      have z4 := hT5.fr (at_ * 5 + 4)
      have H6 : Hid (TS tb g (n + 1) cap root2 (upd f1 at_ (f1 n)) (set5 W5 g at_ (f1 n)).drew ∧ Kt (fun i => i = tb ∨ i = g) w1 (set5 W5 g at_ (f1 n)).drew) := hidb ⟨(hT5.set5 (by omega) _).drewN 1, (H5.out.2.set5 (.inr rfl)).drewN 1⟩
      unfold set5 at H6
      clear hT5 H5
      generalize (f1 n).k = k0 at *
      generalize (f1 n).v = k1 at *
      generalize (f1 n).l = k2 at *
      generalize (f1 n).r = k3 at *
      generalize (f1 n).h = k4 at *
      go_region
      revert H6
      generalize (((((W5.setCell ⟨g, at_ * 5, none⟩ (sv k0)).setCell ⟨g, at_ * 5 + 1, none⟩ (sv k1)).setCell ⟨g, at_ * 5 + 2, none⟩ (.int .i64 (k2 : Nat))).setCell ⟨g, at_ * 5 + 3, none⟩ (.int .i64 (k3 : Nat))).setCell ⟨g, at_ * 5 + 4, none⟩ (.int .i64 (k4 : Nat))).drew = W6
      intro H6
      clear c0 x0 x1 x2 x3 x4 y0 y1 y2 y3 y4 z0 z1 z2 z3 z4
      have HE2 := hidb (HE.out W6 H6.out.1 H6.out.2)
      unfold set5 Nd.zero at HE2
      have hT6 := H6.out.1
      have c0 := hT6.c0
      have z0 := hT6.fr (n * 5)
      have z1 := hT6.fr (n * 5 + 1)
      have z2 := hT6.fr (n * 5 + 2)
      have z3 := hT6.fr (n * 5 + 3)
      have z4 := hT6.fr (n * 5 + 4)
      have y0 := hT6.k (p := n) (by omega)
      have y1 := hT6.v (p := n) (by omega)
      have y2 := hT6.l (p := n) (by omega)
      have y3 := hT6.r (p := n) (by omega)
      have y4 := hT6.h (p := n) (by omega)
      have b0 := hT6.frb 0
      clear hT6 H6 HE
      generalize (upd f1 at_ (f1 n) n).k = j0 at *
      generalize (upd f1 at_ (f1 n) n).v = j1 at *
      generalize (upd f1 at_ (f1 n) n).l = j2 at *
      generalize (upd f1 at_ (f1 n) n).r = j3 at *
      generalize (upd f1 at_ (f1 n) n).h = j4 at *
      go_wp2_with fail
      go_end0
      exact HE2.out
    · obtain ⟨htn, s, t', k', es, hs, hk', HN0⟩ := HF.out.next et
      have HN := hidb HN0
      have HL := hidb hk'
      have tn : ((t : Int) == (n : Int)) = false := by simpa using fun e => et (Int.ofNat.inj e)
      have HS2 : Hid (∀ M, Calls Try.prog 70 #[.pointer (some ⟨tb, 0, none⟩), .int .i64 (t : Nat), sv kk] (wr.drewN M) fun e w' => e = .returned (.int .i64 s) ∧ w' = wr.drewN M) := hidb fun M => by rw [es, HKK.out]; exact HS.out t (wr.drewN M) htn ((HK.out HF.out).2.2.drewN M)
      clear HS HE HK HF es hk' HN0 et
      rcases hs with rfl | rfl <;>
      · go_wp2_with fail
        go_quiet ((go_at_call 70; exact Calls.quiet_of_same (HS2.out _)))
        go_wp2_with fail
        go_roundg k'
        case measure => exact HL.out
        case rel => exact ⟨g, _, t', rfl, HN.out _⟩
end Go.Proofs.Ytcjakgogdbfagaa
