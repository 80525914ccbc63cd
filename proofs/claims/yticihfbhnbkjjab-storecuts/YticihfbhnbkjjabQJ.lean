/- Layer 11: the tree's with: a new node is linked in. -/
import Derived.Test.YticihfbhnbkjjabQI
namespace Go.Proofs.Yticihfbhnbkjjab
open Go.RowKit
/-- What with leaves. -/
def WEnd (tb g n cap root : Nat) (f : Nat → Nd) (w : World) (T : Tr) (new : Nat) (e : Ending) (w' : World) : Prop :=
  ∃ q : Nat, e = .returned (.int .i64 q) ∧ Hid (∃ f' T', Ins f f' T T' new ∧ T'.top = q ∧ TS tb g n cap root f' w' ∧ Kg g w w')
theorem with_e (tb g n cap root : Nat) (f : Nat → Nd) (w : World) (new : Nat) (h : TS tb g n cap root f w) (hp : WPre f .e new) :
    Calls Try.prog 56 #[.pointer (some ⟨tb, 0, none⟩), .int .i64 0, .int .i64 new] w (WEnd tb g n cap root f w .e new) := by
  have HE : Hid (WEnd tb g n cap root f w .e new (.returned (.int .i64 new)) w) := hidb ⟨new, rfl, hidb ⟨f, _, ins_e hp, rfl, h, Kg.refl _ _⟩⟩
  clear h hp
  go_enter Try.func56, Try.ntmps56
  go_wp2_with fail
  go_ret
  exact HE.out
set_option maxRecDepth 100000 in
set_option maxHeartbeats 1000000 in
theorem with_left (tb g n cap root : Nat) (f : Nat → Nd) (w : World) (l : Tr) (p : Nat) (r : Tr) (new : Nat) (h : TS tb g n cap root f w) (hW : WPre f (.n l p r) new) (hn : 0 < n) (hnew : new < n) (hm : ∀ q ∈ (Tr.n l p r).pl, q < n) (hlen : (Tr.n l p r).pl.length + 1 ≤ 4398046511104) (hs : klt (f new).k (f p).k)
    (ih : ∀ W, TS tb g n cap root f W → Calls Try.prog 56 #[.pointer (some ⟨tb, 0, none⟩), .int .i64 (l.top : Nat), .int .i64 new] W (WEnd tb g n cap root f W l new)) :
    Calls Try.prog 56 #[.pointer (some ⟨tb, 0, none⟩), .int .i64 p, .int .i64 new] w (WEnd tb g n cap root f w (.n l p r) new) := by
  have hp := hm p (by simp [Tr.pl])
  have hp0 : ((p : Int) == 0) = false := by have := hW.lk.2.2.2.2.1; simpa using this
  have c0 := h.c0
  have ck := h.k hnew
  have cl := h.l hp
  rw [hW.lk.2.2.1] at cl
  have hlt := h.lt
  have HS : Hid (∀ M, Calls Try.prog 60 #[.pointer (some ⟨tb, 0, none⟩), .int .i64 p, sv (f new).k] (w.drewN M) fun e w' => e = .returned (.int .i64 0) ∧ w' = w.drewN M) := hidb fun M => by
    have := side_any tb g n cap root f (w.drewN M) p (f new).k (h.drewN M) hp
    rw [sideN_lt hs] at this
    exact this
  have HW : Hid (∀ M, Calls Try.prog 56 #[.pointer (some ⟨tb, 0, none⟩), .int .i64 (l.top : Nat), .int .i64 new] (w.drewN M) fun e w' => ∃ q : Nat, e = .returned (.int .i64 q) ∧ Hid (∃ f' T', Ins f f' l T' new ∧ T'.top = q ∧ TS tb g n cap root f' w' ∧ Kg g w w')) := hidb fun M =>
    (ih (w.drewN M) (h.drewN M)).mono fun e w' ⟨q, e1, H⟩ => ⟨q, e1, by obtain ⟨f', T', a, b, c, d⟩ := H.out; exact hidb ⟨f', T', a, b, c, ((Kg.refl g w).drewN M).trans d⟩⟩
  have HB : Hid (∀ (q : Nat) (w3 : World), (∃ f' T', Ins f f' l T' new ∧ T'.top = q ∧ TS tb g n cap root f' w3 ∧ Kg g w w3) → (w3.frozen? ⟨g, p * 5 + 2, none⟩ = false ∧ ∃ v, w3.cell? ⟨g, p * 5 + 2, none⟩ = some (.int .i64 v)) ∧
      Calls Try.prog 61 #[.pointer (some ⟨tb, 0, none⟩), .int .i64 p] (w3.setCell ⟨g, p * 5 + 2, none⟩ (.int .i64 q)) (WEnd tb g n cap root f w (.n l p r) new)) := hidb fun q w3 ⟨f1, c', i, e1, t, k⟩ => by
    refine ⟨⟨t.fr _, _, t.l hp⟩, ?_⟩
    obtain ⟨j1, j2, j3, _⟩ := ins_left hW i
    subst e1
    obtain ⟨A, B, x1, x2, _⟩ := i.ex
    refine (balanced_any tb g n cap root _ _ c' p r (t.setL hp) j1 j2 j3 hn (fun x hx => ?_) ?_).mono fun e w' ⟨q2, f', y1, y2, y3, y4⟩ => ?_
    · simp only [Tr.pl, List.mem_append, List.mem_cons] at hx
      rcases hx with hx | hx | hx
      · rw [x2] at hx; rcases mem_ins.1 hx with hx | hx; exact hx ▸ hnew; exact hm x (by rw [Tr.pl, x1]; exact List.mem_append_left _ hx)
      · exact hx ▸ hp
      · exact hm x (by simp [Tr.pl, hx])
    · simp only [Tr.pl, List.length_append, List.length_cons] at hlen ⊢
      rw [x2, List.length_append, List.length_cons]
      rw [x1, List.length_append] at hlen
      omega
    · obtain ⟨T', z1, z2⟩ := ins_bal_left hW hs i y2
      exact ⟨q2, y1, hidb ⟨f', T', z1, z2, y3, (k.set _ _).trans y4⟩⟩
  clear h hW hm hlen hs ih
  generalize (f new).k = kk at *
  generalize l.top = ct at *
  go_enter Try.func56, Try.ntmps56
  go_wp2_with fail
  go_quiet ((go_at_call 60; exact Calls.quiet_of_same (HS.out _)))
  go_wp2_with (first
    | (go_at_call 56; refine (HW.out _).mono ?_; clear HW; rintro e w3 ⟨q3, rfl, K3⟩; replace HB := hidb (HB.out q3 w3 K3.out); obtain ⟨⟨cf3, v3, cc3⟩, hB⟩ := HB.out; replace HB := hidb hB; clear hB)
    | (go_at_call 61; refine HB.out.mono ?_; clear HB; rintro e w4 ⟨q4, rfl, K4⟩)
    | fail)
  go_ret
  exact ⟨q4, rfl, K4⟩
set_option maxRecDepth 100000 in
set_option maxHeartbeats 1000000 in
theorem with_right (tb g n cap root : Nat) (f : Nat → Nd) (w : World) (l : Tr) (p : Nat) (r : Tr) (new : Nat) (h : TS tb g n cap root f w) (hW : WPre f (.n l p r) new) (hn : 0 < n) (hnew : new < n) (hm : ∀ q ∈ (Tr.n l p r).pl, q < n) (hlen : (Tr.n l p r).pl.length + 1 ≤ 4398046511104) (hs : klt (f p).k (f new).k)
    (ih : ∀ W, TS tb g n cap root f W → Calls Try.prog 56 #[.pointer (some ⟨tb, 0, none⟩), .int .i64 (r.top : Nat), .int .i64 new] W (WEnd tb g n cap root f W r new)) :
    Calls Try.prog 56 #[.pointer (some ⟨tb, 0, none⟩), .int .i64 p, .int .i64 new] w (WEnd tb g n cap root f w (.n l p r) new) := by
  have hp := hm p (by simp [Tr.pl])
  have hp0 : ((p : Int) == 0) = false := by have := hW.lk.2.2.2.2.1; simpa using this
  have c0 := h.c0
  have ck := h.k hnew
  have cl := h.r hp
  rw [hW.lk.2.2.2.1] at cl
  have hlt := h.lt
  have HS : Hid (∀ M, Calls Try.prog 60 #[.pointer (some ⟨tb, 0, none⟩), .int .i64 p, sv (f new).k] (w.drewN M) fun e w' => e = .returned (.int .i64 1) ∧ w' = w.drewN M) := hidb fun M => by
    have := side_any tb g n cap root f (w.drewN M) p (f new).k (h.drewN M) hp
    rw [sideN_ge (klt_asymm hs)] at this
    exact this
  have HW : Hid (∀ M, Calls Try.prog 56 #[.pointer (some ⟨tb, 0, none⟩), .int .i64 (r.top : Nat), .int .i64 new] (w.drewN M) fun e w' => ∃ q : Nat, e = .returned (.int .i64 q) ∧ Hid (∃ f' T', Ins f f' r T' new ∧ T'.top = q ∧ TS tb g n cap root f' w' ∧ Kg g w w')) := hidb fun M =>
    (ih (w.drewN M) (h.drewN M)).mono fun e w' ⟨q, e1, H⟩ => ⟨q, e1, by obtain ⟨f', T', a, b, c, d⟩ := H.out; exact hidb ⟨f', T', a, b, c, ((Kg.refl g w).drewN M).trans d⟩⟩
  have HB : Hid (∀ (q : Nat) (w3 : World), (∃ f' T', Ins f f' r T' new ∧ T'.top = q ∧ TS tb g n cap root f' w3 ∧ Kg g w w3) → (w3.frozen? ⟨g, p * 5 + 3, none⟩ = false ∧ ∃ v, w3.cell? ⟨g, p * 5 + 3, none⟩ = some (.int .i64 v)) ∧
      Calls Try.prog 61 #[.pointer (some ⟨tb, 0, none⟩), .int .i64 p] (w3.setCell ⟨g, p * 5 + 3, none⟩ (.int .i64 q)) (WEnd tb g n cap root f w (.n l p r) new)) := hidb fun q w3 ⟨f1, c', i, e1, t, k⟩ => by
    refine ⟨⟨t.fr _, _, t.r hp⟩, ?_⟩
    obtain ⟨j1, j2, j3, _⟩ := ins_right hW i
    subst e1
    obtain ⟨A, B, x1, x2, _⟩ := i.ex
    refine (balanced_any tb g n cap root _ _ l p c' (t.setR hp) j1 j2 j3 hn (fun x hx => ?_) ?_).mono fun e w' ⟨q2, f', y1, y2, y3, y4⟩ => ?_
    · simp only [Tr.pl, List.mem_append, List.mem_cons] at hx
      rcases hx with hx | hx | hx
      · exact hm x (by simp [Tr.pl, hx])
      · exact hx ▸ hp
      · rw [x2] at hx; rcases mem_ins.1 hx with hx | hx; exact hx ▸ hnew; exact hm x (by rw [Tr.pl, x1]; exact List.mem_append_right _ (List.mem_cons_of_mem _ hx))
    · simp only [Tr.pl, List.length_append, List.length_cons] at hlen ⊢
      rw [x2, List.length_append, List.length_cons]
      rw [x1, List.length_append] at hlen
      omega
    · obtain ⟨T', z1, z2⟩ := ins_bal_right hW hs i y2
      exact ⟨q2, y1, hidb ⟨f', T', z1, z2, y3, (k.set _ _).trans y4⟩⟩
  clear h hW hm hlen hs ih
  generalize (f new).k = kk at *
  generalize r.top = ct at *
  go_enter Try.func56, Try.ntmps56
  go_wp2_with fail
  go_quiet ((go_at_call 60; exact Calls.quiet_of_same (HS.out _)))
  go_wp2_with (first
    | (go_at_call 56; refine (HW.out _).mono ?_; clear HW; rintro e w3 ⟨q3, rfl, K3⟩; replace HB := hidb (HB.out q3 w3 K3.out); obtain ⟨⟨cf3, v3, cc3⟩, hB⟩ := HB.out; replace HB := hidb hB; clear hB)
    | (go_at_call 61; refine HB.out.mono ?_; clear HB; rintro e w4 ⟨q4, rfl, K4⟩)
    | fail)
  go_ret
  exact ⟨q4, rfl, K4⟩
theorem with_any (tb g n cap root : Nat) (f : Nat → Nd) (new : Nat) (hn : 0 < n) (hnew : new < n) : ∀ (T : Tr) (w : World), TS tb g n cap root f w → WPre f T new → (∀ q ∈ T.pl, q < n) → T.pl.length + 1 ≤ 4398046511104 →
    Calls Try.prog 56 #[.pointer (some ⟨tb, 0, none⟩), .int .i64 (T.top : Nat), .int .i64 new] w (WEnd tb g n cap root f w T new)
  | .e, w, h, hW, _, _ => with_e tb g n cap root f w new h hW
  | .n l p r, w, h, hW, hm, hlen => by
    have hne : (f p).k ≠ (f new).k := fun e => hW.ne (by rw [← e]; simp [keys, Tr.pl])
    have hll : l.pl.length + 1 ≤ 4398046511104 ∧ r.pl.length + 1 ≤ 4398046511104 := by simp only [Tr.pl, List.length_append, List.length_cons] at hlen; omega
    rcases klt_tot _ _ hne with c | c
    · exact with_right tb g n cap root f w l p r new h hW hn hnew hm hlen c fun W hT => with_any tb g n cap root f new hn hnew r W hT hW.right (fun q hq => hm q (by simp [Tr.pl, hq])) hll.2
    · exact with_left tb g n cap root f w l p r new h hW hn hnew hm hlen c fun W hT => with_any tb g n cap root f new hn hnew l W hT hW.left (fun q hq => hm q (by simp [Tr.pl, hq])) hll.1
end Go.Proofs.Yticihfbhnbkjjab
