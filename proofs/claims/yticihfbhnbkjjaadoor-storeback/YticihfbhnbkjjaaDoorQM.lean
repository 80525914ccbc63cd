/- Layer 11: the tree's without: a node is taken out. -/
import Derived.Test.YticihfbhnbkjjaaDoorQL
namespace Go.Proofs.YticihfbhnbkjjaaDoor
open Go.RowKit
theorem RPre.right' {f : Nat → Nd} {l r : Tr} {p gone : Nat} (h : RPre f (.n l p r) gone) (hr : r.top ≠ 0) : RPre f r r.lst :=
  ⟨(nd_n h.nd).2.1, h.lk.2.1, h.z, (srt_n h.srt).2.1, by
    cases r with
    | e => exact absurd rfl hr
    | n a c b => obtain ⟨B, eB⟩ := lst_pl a c b; rw [eB]; simp⟩
/-- What without leaves. -/
def REnd (tb g n cap root : Nat) (f : Nat → Nd) (w : World) (T : Tr) (gone : Nat) (e : Ending) (w' : World) : Prop :=
  ∃ q : Nat, e = .returned (.int .i64 q) ∧ Hid (∃ f' T', Rem f f' T T' gone ∧ T'.top = q ∧ TS tb g n cap root f' w' ∧ Kg g w w')
set_option maxRecDepth 100000 in
set_option maxHeartbeats 1000000 in
theorem without_leaf (tb g n cap root : Nat) (f : Nat → Nd) (w : World) (l : Tr) (p : Nat) (h : TS tb g n cap root f w) (hR : RPre f (.n l p .e) p) (hp : p < n) :
    Calls Tryd.prog 70 #[.pointer (some ⟨tb, 0, none⟩), .int .i64 p, .int .i64 p] w (REnd tb g n cap root f w (.n l p .e) p) := by
  have c0 := h.c0
  have cl := h.l hp
  have cr := h.r hp
  have hlt := h.lt
  rw [hR.lk.2.2.1] at cl
  rw [hR.lk.2.2.2.1] at cr
  have HE : Hid (REnd tb g n cap root f w (.n l p .e) p (.returned (.int .i64 (l.top : Nat))) w) := hidb ⟨l.top, rfl, hidb ⟨f, l, rem_top hR, rfl, h, Kg.refl _ _⟩⟩
  replace cr : w.cell? ⟨g, p * 5 + 3, none⟩ = some (.int .i64 0) := cr
  clear h hR
  generalize l.top = lt at *
  go_enter Tryd.func70, Tryd.ntmps70
  go_wp2_with fail
  go_ret
  exact HE.out
set_option maxRecDepth 100000 in
set_option maxHeartbeats 1000000 in
theorem without_left (tb g n cap root : Nat) (f : Nat → Nd) (w : World) (l : Tr) (p : Nat) (r : Tr) (gone : Nat) (h : TS tb g n cap root f w) (hW : RPre f (.n l p r) gone) (hne : p ≠ gone) (hn : 0 < n) (hm : ∀ q ∈ (Tr.n l p r).pl, q < n) (hlen : (Tr.n l p r).pl.length ≤ 4398046511104) (hs : klt (f gone).k (f p).k)
    (ih : ∀ W, TS tb g n cap root f W → Calls Tryd.prog 70 #[.pointer (some ⟨tb, 0, none⟩), .int .i64 (l.top : Nat), .int .i64 gone] W (REnd tb g n cap root f W l gone)) :
    Calls Tryd.prog 70 #[.pointer (some ⟨tb, 0, none⟩), .int .i64 p, .int .i64 gone] w (REnd tb g n cap root f w (.n l p r) gone) := by
  have hp := hm p (by simp [Tr.pl])
  have hgn := hm gone hW.mem
  have hpg : ((p : Int) == (gone : Int)) = false := by simpa using fun e => hne (Int.ofNat.inj e)
  have c0 := h.c0
  have ck := h.k hgn
  have cl := h.l hp
  rw [hW.lk.2.2.1] at cl
  have hlt := h.lt
  have HS0 : Hid (Calls Tryd.prog 88 #[.pointer (some ⟨tb, 0, none⟩), .int .i64 p, sv (f gone).k] w fun e w' => e = .returned (.int .i64 0) ∧ w' = w) := hidb (by
    have := side_any tb g n cap root f w p (f gone).k h hp
    rw [sideN_lt hs] at this
    exact this)
  have HW : Hid (∀ M, Calls Tryd.prog 70 #[.pointer (some ⟨tb, 0, none⟩), .int .i64 (l.top : Nat), .int .i64 gone] (w.drewN M) fun e w' => ∃ q : Nat, e = .returned (.int .i64 q) ∧ Hid (∃ f' T', Rem f f' l T' gone ∧ T'.top = q ∧ TS tb g n cap root f' w' ∧ Kg g w w')) := hidb fun M =>
    (ih (w.drewN M) (h.drewN M)).mono fun e w' ⟨q, e1, H⟩ => ⟨q, e1, by obtain ⟨f', T', a, b, c, d⟩ := H.out; exact hidb ⟨f', T', a, b, c, ((Kg.refl g w).drewN M).trans d⟩⟩
  have HB : Hid (∀ (q : Nat) (w3 : World), (∃ f' T', Rem f f' l T' gone ∧ T'.top = q ∧ TS tb g n cap root f' w3 ∧ Kg g w w3) → (w3.frozen? ⟨g, p * 5 + 2, none⟩ = false ∧ ∃ v, w3.cell? ⟨g, p * 5 + 2, none⟩ = some (.int .i64 v)) ∧
      Calls Tryd.prog 90 #[.pointer (some ⟨tb, 0, none⟩), .int .i64 p] (w3.setCell ⟨g, p * 5 + 2, none⟩ (.int .i64 q)) (REnd tb g n cap root f w (.n l p r) gone)) := hidb fun q w3 ⟨f1, c', i, e1, t, k⟩ => by
    refine ⟨⟨t.fr _, _, t.l hp⟩, ?_⟩
    obtain ⟨j1, j2, j3, _⟩ := rem_left hW i
    subst e1
    obtain ⟨A, B, x1, x2⟩ := i.ex
    refine (balanced_any tb g n cap root _ _ c' p r (t.setL hp) j1 j2 j3 hn (fun x hx => ?_) ?_).mono fun e w' ⟨q2, f', y1, y2, y3, y4⟩ => ?_
    · simp only [Tr.pl, List.mem_append, List.mem_cons] at hx
      rcases hx with hx | hx | hx
      · exact hm x (by simp [Tr.pl, i.sub x hx])
      · exact hx ▸ hp
      · exact hm x (by simp [Tr.pl, hx])
    · simp only [Tr.pl, List.length_append, List.length_cons] at hlen ⊢
      rw [x2, List.length_append]
      rw [x1, List.length_append, List.length_cons] at hlen
      omega
    · obtain ⟨T', z1, z2⟩ := rem_bal_left (r := r) i y2
      exact ⟨q2, y1, hidb ⟨f', T', z1, z2, y3, (k.set _ _).trans y4⟩⟩
  clear h hW hm hlen hs ih hne
  generalize (f gone).k = kk at *
  generalize l.top = ct at *
  go_enter Tryd.func70, Tryd.ntmps70
  go_wp2_with (go_at_call 88; refine HS0.out.mono ?_; clear HS0; rintro e w1 ⟨rfl, rfl⟩)
  go_region_with (go_at_call 70; refine (HW.out _).mono ?_; clear HW; rintro e w3 ⟨q3, rfl, K3⟩; obtain ⟨⟨cf3, v3, cc3⟩, hB⟩ := HB.out q3 w3 K3.out; replace HB := hidb hB; clear hB)
  all_goals
    go_wp2_with (go_at_call 90; refine HB.out.mono ?_; clear HB; rintro e w4 ⟨q4, rfl, K4⟩)
    go_ret
    exact ⟨q4, rfl, K4⟩
set_option maxRecDepth 100000 in
set_option maxHeartbeats 1000000 in
theorem without_right (tb g n cap root : Nat) (f : Nat → Nd) (w : World) (l : Tr) (p : Nat) (r : Tr) (gone : Nat) (h : TS tb g n cap root f w) (hW : RPre f (.n l p r) gone) (hne : p ≠ gone) (hn : 0 < n) (hm : ∀ q ∈ (Tr.n l p r).pl, q < n) (hlen : (Tr.n l p r).pl.length ≤ 4398046511104) (hs : ¬ klt (f gone).k (f p).k)
    (ih : ∀ W, TS tb g n cap root f W → Calls Tryd.prog 70 #[.pointer (some ⟨tb, 0, none⟩), .int .i64 (r.top : Nat), .int .i64 gone] W (REnd tb g n cap root f W r gone)) :
    Calls Tryd.prog 70 #[.pointer (some ⟨tb, 0, none⟩), .int .i64 p, .int .i64 gone] w (REnd tb g n cap root f w (.n l p r) gone) := by
  have hp := hm p (by simp [Tr.pl])
  have hgn := hm gone hW.mem
  have hpg : ((p : Int) == (gone : Int)) = false := by simpa using fun e => hne (Int.ofNat.inj e)
  have c0 := h.c0
  have ck := h.k hgn
  have cl := h.r hp
  rw [hW.lk.2.2.2.1] at cl
  have hlt := h.lt
  have HS0 : Hid (Calls Tryd.prog 88 #[.pointer (some ⟨tb, 0, none⟩), .int .i64 p, sv (f gone).k] w fun e w' => e = .returned (.int .i64 1) ∧ w' = w) := hidb (by
    have := side_any tb g n cap root f w p (f gone).k h hp
    rw [sideN_ge hs] at this
    exact this)
  have HW : Hid (∀ M, Calls Tryd.prog 70 #[.pointer (some ⟨tb, 0, none⟩), .int .i64 (r.top : Nat), .int .i64 gone] (w.drewN M) fun e w' => ∃ q : Nat, e = .returned (.int .i64 q) ∧ Hid (∃ f' T', Rem f f' r T' gone ∧ T'.top = q ∧ TS tb g n cap root f' w' ∧ Kg g w w')) := hidb fun M =>
    (ih (w.drewN M) (h.drewN M)).mono fun e w' ⟨q, e1, H⟩ => ⟨q, e1, by obtain ⟨f', T', a, b, c, d⟩ := H.out; exact hidb ⟨f', T', a, b, c, ((Kg.refl g w).drewN M).trans d⟩⟩
  have HB : Hid (∀ (q : Nat) (w3 : World), (∃ f' T', Rem f f' r T' gone ∧ T'.top = q ∧ TS tb g n cap root f' w3 ∧ Kg g w w3) → (w3.frozen? ⟨g, p * 5 + 3, none⟩ = false ∧ ∃ v, w3.cell? ⟨g, p * 5 + 3, none⟩ = some (.int .i64 v)) ∧
      Calls Tryd.prog 90 #[.pointer (some ⟨tb, 0, none⟩), .int .i64 p] (w3.setCell ⟨g, p * 5 + 3, none⟩ (.int .i64 q)) (REnd tb g n cap root f w (.n l p r) gone)) := hidb fun q w3 ⟨f1, c', i, e1, t, k⟩ => by
    refine ⟨⟨t.fr _, _, t.r hp⟩, ?_⟩
    obtain ⟨j1, j2, j3, _⟩ := rem_right hW i
    subst e1
    obtain ⟨A, B, x1, x2⟩ := i.ex
    refine (balanced_any tb g n cap root _ _ l p c' (t.setR hp) j1 j2 j3 hn (fun x hx => ?_) ?_).mono fun e w' ⟨q2, f', y1, y2, y3, y4⟩ => ?_
    · simp only [Tr.pl, List.mem_append, List.mem_cons] at hx
      rcases hx with hx | hx | hx
      · exact hm x (by simp [Tr.pl, hx])
      · exact hx ▸ hp
      · exact hm x (by simp [Tr.pl, i.sub x hx])
    · simp only [Tr.pl, List.length_append, List.length_cons] at hlen ⊢
      rw [x2, List.length_append]
      rw [x1, List.length_append, List.length_cons] at hlen
      omega
    · obtain ⟨T', z1, z2⟩ := rem_bal_right (l := l) i y2
      exact ⟨q2, y1, hidb ⟨f', T', z1, z2, y3, (k.set _ _).trans y4⟩⟩
  clear h hW hm hlen hs ih hne
  generalize (f gone).k = kk at *
  generalize r.top = ct at *
  go_enter Tryd.func70, Tryd.ntmps70
  go_wp2_with (go_at_call 88; refine HS0.out.mono ?_; clear HS0; rintro e w1 ⟨rfl, rfl⟩)
  go_region_with (go_at_call 70; refine (HW.out _).mono ?_; clear HW; rintro e w3 ⟨q3, rfl, K3⟩; obtain ⟨⟨cf3, v3, cc3⟩, hB⟩ := HB.out q3 w3 K3.out; replace HB := hidb hB; clear hB)
  all_goals
    go_wp2_with (go_at_call 90; refine HB.out.mono ?_; clear HB; rintro e w4 ⟨q4, rfl, K4⟩)
    go_ret
    exact ⟨q4, rfl, K4⟩
set_option maxRecDepth 100000 in
set_option maxHeartbeats 1000000 in
theorem without_mid (tb g n cap root : Nat) (f : Nat → Nd) (w : World) (l : Tr) (p : Nat) (r : Tr) (h : TS tb g n cap root f w) (hW : RPre f (.n l p r) p) (hr : r.top ≠ 0) (hn : 0 < n) (hm : ∀ q ∈ (Tr.n l p r).pl, q < n) (hlen : (Tr.n l p r).pl.length ≤ 4398046511104)
    (ih : ∀ W, TS tb g n cap root f W → Calls Tryd.prog 70 #[.pointer (some ⟨tb, 0, none⟩), .int .i64 (r.top : Nat), .int .i64 (r.lst : Nat)] W (REnd tb g n cap root f W r r.lst)) :
    Calls Tryd.prog 70 #[.pointer (some ⟨tb, 0, none⟩), .int .i64 p, .int .i64 p] w (REnd tb g n cap root f w (.n l p r) p) := by
  have hp := hm p (by simp [Tr.pl])
  have mr : ∀ q ∈ r.pl, q < n := fun q hq => hm q (by simp [Tr.pl, hq])
  obtain ⟨a, c, b, er⟩ : ∃ a c b, r = .n a c b := by
    cases r with
    | e => exact absurd rfl hr
    | n a c b => exact ⟨a, c, b, rfl⟩
  have hqn : r.lst < n := by
    obtain ⟨B, eB⟩ := lst_pl a c b
    exact mr _ (by rw [er, eB]; simp)
  have c0 := h.c0
  have cl := h.l hp
  have cr := h.r hp
  rw [hW.lk.2.2.1] at cl
  rw [hW.lk.2.2.2.1] at cr
  have hlt := h.lt
  have hrz : ((r.top : Int) == 0) = false := by simpa using hr
  have HL : Hid (Calls Tryd.prog 91 #[.pointer (some ⟨tb, 0, none⟩), .int .i64 (r.top : Nat)] w fun e w' => e = .returned (.int .i64 (r.lst : Nat)) ∧ w' = w) := hidb (least_any tb g n cap root f r w h hW.lk.2.1 hr mr)
  have HW : Hid (Calls Tryd.prog 70 #[.pointer (some ⟨tb, 0, none⟩), .int .i64 (r.top : Nat), .int .i64 (r.lst : Nat)] w fun e w' => ∃ q : Nat, e = .returned (.int .i64 q) ∧ Hid (∃ f' T', Rem f f' r T' r.lst ∧ T'.top = q ∧ TS tb g n cap root f' w' ∧ Kg g w w')) := hidb (ih w h)
  clear ih
  have HB : Hid (∀ (q : Nat) (w3 : World), (∃ f' T', Rem f f' r T' r.lst ∧ T'.top = q ∧ TS tb g n cap root f' w3 ∧ Kg g w w3) → (w3.cell? ⟨tb, 0, none⟩ = some (.slice (some ⟨g, 0, none⟩) n cap) ∧ w3.cell? ⟨g, p * 5 + 2, none⟩ = some (.int .i64 (l.top : Nat)) ∧ w3.frozen? ⟨g, r.lst * 5 + 2, none⟩ = false ∧ w3.frozen? ⟨g, r.lst * 5 + 2 + 1, none⟩ = false ∧ (∃ v, w3.cell? ⟨g, r.lst * 5 + 2, none⟩ = some (.int .i64 v)) ∧ ∃ v, w3.cell? ⟨g, r.lst * 5 + 2 + 1, none⟩ = some (.int .i64 v)) ∧
      Calls Tryd.prog 90 #[.pointer (some ⟨tb, 0, none⟩), .int .i64 (r.lst : Nat)] ((w3.setCell ⟨g, r.lst * 5 + 2, none⟩ (.int .i64 (l.top : Nat))).setCell ⟨g, r.lst * 5 + 2 + 1, none⟩ (.int .i64 q)).drew (REnd tb g n cap root f w (.n l p r) p)) := hidb fun q w3 ⟨f1, c', i, e1, t, k⟩ => by
    have hf1 : (f1 p).l = l.top := (rem_mid hW hr rfl i _ rfl).2.2.2.1
    refine ⟨⟨t.c0, by rw [t.l hp, hf1], t.fr _, t.fr _, ⟨_, t.l hqn⟩, ⟨_, t.r hqn⟩⟩, ?_⟩
    subst e1
    obtain ⟨A, B, x1, x2⟩ := i.ex
    have t2 := ((t.setL (y := l.top) hqn).setR (y := c'.top) hqn).drewN 1
    have ef : upd (upd f1 r.lst { f1 r.lst with l := l.top }) r.lst { (upd f1 r.lst { f1 r.lst with l := l.top } r.lst) with r := c'.top } = upd f1 r.lst { f1 r.lst with l := l.top, r := c'.top } := by
      funext x
      unfold upd
      by_cases e : x = r.lst
      · subst e; simp
      · simp [e]
    rw [ef] at t2
    obtain ⟨j1, j2, j3, _, j5⟩ := rem_mid hW hr rfl i _ rfl
    refine (balanced_any tb g n cap root _ _ l r.lst c' t2 j1 j2 j3 hn (fun x hx => ?_) ?_).mono fun e w' ⟨q2, f', y1, y2, y3, y4⟩ => ?_
    · simp only [Tr.pl, List.mem_append, List.mem_cons] at hx
      rcases hx with hx | hx | hx
      · exact hm x (by simp [Tr.pl, hx])
      · exact hx ▸ hqn
      · exact mr x (i.sub x hx)
    · simp only [Tr.pl, List.length_append, List.length_cons] at hlen ⊢
      rw [x2, List.length_append]
      rw [x1, List.length_append, List.length_cons] at hlen
      omega
    · obtain ⟨T', z1, z2⟩ := j5 f' q2 y2
      exact ⟨q2, y1, hidb ⟨f', T', z1, z2, y3, (((k.set _ _).set _ _).drewN 1).trans y4⟩⟩
  clear h hW hm hlen mr er
  generalize r.lst = least at *
  generalize r.top = rt at *
  generalize l.top = lt at *
  go_enter Tryd.func70, Tryd.ntmps70
  go_wp2_with (first
    | (go_at_call 91; refine HL.out.mono ?_; clear HL; rintro e w1 ⟨rfl, rfl⟩)
    | (go_at_call 70; refine HW.out.mono ?_; clear HW; rintro e w3 ⟨q3, rfl, K3⟩; obtain ⟨⟨c3, cl3, z3, z4, ⟨v3, y3⟩, v4, y4⟩, hB⟩ := HB.out q3 w3 K3.out; replace HB := hidb hB; clear hB)
    | fail)
  go_region
  go_wp2_with (go_at_call 90; refine HB.out.mono ?_; clear HB; rintro e w4 ⟨q4, rfl, K4⟩)
  go_ret
  exact ⟨q4, rfl, K4⟩
theorem without_any (tb g n cap root : Nat) (f : Nat → Nd) (hn : 0 < n) : ∀ (T : Tr) (gone : Nat) (w : World), TS tb g n cap root f w → RPre f T gone → (∀ q ∈ T.pl, q < n) → T.pl.length ≤ 4398046511104 →
    Calls Tryd.prog 70 #[.pointer (some ⟨tb, 0, none⟩), .int .i64 (T.top : Nat), .int .i64 gone] w (REnd tb g n cap root f w T gone)
  | .e, _, _, _, hW, _, _ => by have := hW.mem; cases this
  | .n l p r, gone, w, h, hW, hm, hlen => by
    have hll : l.pl.length ≤ 4398046511104 ∧ r.pl.length ≤ 4398046511104 := by simp only [Tr.pl, List.length_append, List.length_cons] at hlen; omega
    have ml : ∀ q ∈ l.pl, q < n := fun q hq => hm q (by simp [Tr.pl, hq])
    have mr : ∀ q ∈ r.pl, q < n := fun q hq => hm q (by simp [Tr.pl, hq])
    by_cases e : p = gone
    · subst e
      by_cases hr : r.top = 0
      · have er := hW.lk.2.1.nil hr
        subst er
        exact without_leaf tb g n cap root f w l p h hW (hm p (by simp [Tr.pl]))
      · refine without_mid tb g n cap root f w l p r h hW hr hn hm hlen fun W hT => without_any tb g n cap root f hn r r.lst W hT (hW.right' hr) mr hll.2
    · rcases hW.side e with ⟨c, m⟩ | ⟨c, m⟩
      · exact without_left tb g n cap root f w l p r gone h hW e hn hm hlen c fun W hT => without_any tb g n cap root f hn l gone W hT (hW.left m) ml hll.1
      · exact without_right tb g n cap root f w l p r gone h hW e hn hm hlen c fun W hT => without_any tb g n cap root f hn r gone W hT (hW.right m) mr hll.2
end Go.Proofs.YticihfbhnbkjjaaDoor
