/- Layer 11: the tree's balanced, whole. Layer 11: the tree's with: a new node is linked in. -/
import Derived.Test.YtcjakgogdbfagaaQG
namespace Go.Proofs.Ytcjakgogdbfagaa
open Go.RowKit
theorem inner_left {f : Nat → Nd} {a c d r : Tr} {p up m : Nat} (z : (f 0).h = 0) (h : Lk0 f (.n a up (.n c m d)) p r) (nd : (Tr.n (.n a up (.n c m d)) p r).pl.Nodup) (hi : (f ((f up).link 0)).h < (f ((f up).link (1 - 0))).h) :
    innerF f p 0 = upd (turnF f up 1) p { turnF f up 1 p with l := m } ∧ Lk0 (innerF f p 0) (.n (.n a up c) m d) p r ∧ (innerF f p 0 0).h = 0 ∧ (Tr.n (.n (.n a up c) m d) p r).pl.Nodup := by
  have eup : (f p).link 0 = up := by simpa [Nd.link, Tr.top] using h.2.2.1
  have hu := h.1
  obtain ⟨ndl, _, hpl, hpr, hd⟩ := nd_n nd
  obtain ⟨k1, em⟩ := turn_right z hu.lk0 ndl
  have o1 : Out (Tr.n a up (.n c m d)).pl f (turnF f up 1) := turnF_out f up 1 (by simp [Tr.pl]) (by rw [em]; simp [Tr.pl])
  have ei : innerF f p 0 = upd (turnF f up 1) p { turnF f up 1 p with l := m } := by
    unfold innerF
    simp only [eup]
    rw [if_pos hi, show 1 - 0 = 1 from rfl, em]
    rfl
  have z1 : (turnF f up 1 0).h = 0 := by rw [o1 0 fun e => h.1.ne 0 e rfl]; exact z
  have o2 : Out [p] (turnF f up 1) (innerF f p 0) := by rw [ei]; exact Out.upd (by simp)
  refine ⟨ei, ⟨o2.lk k1 fun q hq e => ?_, o2.lk (o1.lk h.2.1 fun q hq e => hd q e hq) fun q hq e => ?_, by rw [ei, upd_same]; rfl, ?_, h.2.2.2.2⟩, ?_, by simpa [Tr.pl] using nd⟩
  · simp at e; subst e
    exact hpl (by simpa [Tr.pl] using hq)
  · simp at e; subst e
    exact hpr hq
  · rw [ei, upd_same]
    show (turnF f up 1 p).r = _
    rw [o1 p hpl]
    exact h.2.2.2.1
  · rw [o2 0 (by simp; exact fun e => h.2.2.2.2 e.symm)]; exact z1
theorem inner_right {f : Nat → Nd} {l c d b : Tr} {p up m : Nat} (z : (f 0).h = 0) (h : Lk0 f l p (.n (.n c m d) up b)) (nd : (Tr.n l p (.n (.n c m d) up b)).pl.Nodup) (hi : (f ((f up).link 1)).h < (f ((f up).link (1 - 1))).h) :
    innerF f p 1 = upd (turnF f up 0) p { turnF f up 0 p with r := m } ∧ Lk0 (innerF f p 1) l p (.n c m (.n d up b)) ∧ (innerF f p 1 0).h = 0 ∧ (Tr.n l p (.n c m (.n d up b))).pl.Nodup := by
  have eup : (f p).link 1 = up := by simpa [Nd.link, Tr.top] using h.2.2.2.1
  have hu := h.2.1
  obtain ⟨_, ndr, hpl, hpr, hd⟩ := nd_n nd
  obtain ⟨k1, em⟩ := turn_left z hu.lk0 ndr
  have o1 : Out (Tr.n (.n c m d) up b).pl f (turnF f up 0) := turnF_out f up 0 (by simp [Tr.pl]) (by rw [em]; simp [Tr.pl])
  have ei : innerF f p 1 = upd (turnF f up 0) p { turnF f up 0 p with r := m } := by
    unfold innerF
    simp only [eup]
    rw [if_pos hi, show 1 - 1 = 0 from rfl, em]
    rfl
  have z1 : (turnF f up 0 0).h = 0 := by rw [o1 0 fun e => h.2.1.ne 0 e rfl]; exact z
  have o2 : Out [p] (turnF f up 0) (innerF f p 1) := by rw [ei]; exact Out.upd (by simp)
  refine ⟨ei, ⟨o2.lk (o1.lk h.1 fun q hq e => hd q hq e) fun q hq e => ?_, o2.lk k1 fun q hq e => ?_, ?_, by rw [ei, upd_same]; rfl, h.2.2.2.2⟩, ?_, by simpa [Tr.pl] using nd⟩
  · simp at e; subst e
    exact hpl hq
  · simp at e; subst e
    exact hpr (by simpa [Tr.pl] using hq)
  · rw [ei, upd_same]
    show (turnF f up 0 p).l = _
    rw [o1 p hpr]
    exact h.2.2.1
  · rw [o2 0 (by simp; exact fun e => h.2.2.2.2 e.symm)]; exact z1
theorem tend_hid {P : Program} {F : Nat} {A : Array Value} {tb g n cap root : Nat} {f' : Nat → Nd} {w W : World} {v : Value} (h : Kg g w W) (c : Calls P F A W (TEnd tb g n cap root f' W v)) : Calls P F A W (fun e w' => e = .returned v ∧ Hid (TS tb g n cap root f' w' ∧ Kg g w w')) :=
  c.mono fun _ _ ⟨x, y, z⟩ => ⟨x, hidb ⟨y, h.trans z⟩⟩
/-- What balanced leaves. -/
def BEnd (tb g n cap root : Nat) (f : Nat → Nd) (w : World) (l : Tr) (p : Nat) (r : Tr) (e : Ending) (w' : World) : Prop :=
  ∃ q f', e = .returned (.int .i64 (q : Nat)) ∧ Bal f f' l p r q ∧ TS tb g n cap root f' w' ∧ Kg g w w'
theorem balanced_any (tb g n cap root : Nat) (f : Nat → Nd) (w : World) (l : Tr) (p : Nat) (r : Tr) (h : TS tb g n cap root f w) (hk : Lk0 f l p r) (nd : (Tr.n l p r).pl.Nodup) (z : (f 0).h = 0) (hn : 0 < n) (hm : ∀ q ∈ (Tr.n l p r).pl, q < n) (hlen : (Tr.n l p r).pl.length ≤ 4398046511104) :
    Calls Try.prog 71 #[.pointer (some ⟨tb, 0, none⟩), .int .i64 p] w (BEnd tb g n cap root f w l p r) := by
  have hp := hm p (by simp [Tr.pl])
  have ml : ∀ q ∈ l.pl, q < n := fun q hq => hm q (by simp [Tr.pl, hq])
  have mr : ∀ q ∈ r.pl, q < n := fun q hq => hm q (by simp [Tr.pl, hq])
  have el := hk.2.2.1
  have er := hk.2.2.2.1
  have hl := Tr.top_lt hn ml
  have hr := Tr.top_lt hn mr
  have ll : l.pl.length ≤ 4398046511104 ∧ r.pl.length ≤ 4398046511104 := by simp only [Tr.pl, List.length_append, List.length_cons] at hlen; omega
  have bl : (f l.top).h ≤ 1125899906842624 := Nat.le_trans (hk.1.height z) (by omega)
  have br : (f r.top).h ≤ 1125899906842624 := Nat.le_trans (hk.2.1.height z) (by omega)
  obtain ⟨ndl, ndr, hpl, hpr, _⟩ := nd_n nd
  by_cases t0 : turnsAt f p 0
  · have t0' : (f r.top).h + 1 < (f l.top).h := by
      have := t0
      unfold turnsAt at this
      rw [show (f p).link 0 = l.top from el, show (f p).link (1 - 0) = r.top from er] at this
      exact this
    have hB := bal_left z hk nd t0
    obtain ⟨a, up, b, rfl⟩ := not_nil z hk.1 t0'
    have hu := ml up (by simp [Tr.pl])
    have ma : ∀ q ∈ a.pl, q < n := fun q hq => ml q (by simp [Tr.pl, hq])
    have mb : ∀ q ∈ b.pl, q < n := fun q hq => ml q (by simp [Tr.pl, hq])
    have eo := hk.1.2.2.1
    have ei := hk.1.2.2.2.1
    have ha := Tr.top_lt hn ma
    have hb := Tr.top_lt hn mb
    have la : a.pl.length ≤ 4398046511104 ∧ b.pl.length ≤ 4398046511104 := by have := ll.1; simp only [Tr.pl, List.length_append, List.length_cons] at this; omega
    have ba : (f a.top).h ≤ 1125899906842624 := Nat.le_trans (hk.1.1.height z) (by omega)
    have bb : (f b.top).h ≤ 1125899906842624 := Nat.le_trans (hk.1.2.1.height z) (by omega)
    have eup : (f p).link 0 = up := by simpa [Nd.link, Tr.top] using el
    have hup : up ≠ p := fun e => hpl (by simp [Tr.pl, e])
    have lo : (f up).link 0 = a.top := eo
    have li : (f up).link 1 = b.top := ei
    by_cases hin : (f a.top).h < (f b.top).h
    · obtain ⟨c, m, d, rfl⟩ := not_nil z hk.1.2.1 hin
      have hm2 := mb m (by simp [Tr.pl])
      obtain ⟨i1, i2, i3, i4⟩ := inner_left z hk nd (by rw [show 1 - 0 = 1 from rfl, lo, li]; exact hin)
      have mc : ∀ q ∈ c.pl, q < n := fun q hq => mb q (by simp [Tr.pl, hq])
      have md : ∀ q ∈ d.pl, q < n := fun q hq => mb q (by simp [Tr.pl, hq])
      have hmu : m ≠ up := fun e => by
        have := (nd_n ndl).2.2.2.1
        exact this (by simp [Tr.pl, e])
      have hmp : m ≠ p := fun e => hpl (by simp [Tr.pl, e])
      have lc : c.pl.length ≤ 4398046511104 ∧ d.pl.length ≤ 4398046511104 := by have := la.2; simp only [Tr.pl, List.length_append, List.length_cons] at this; omega
      have fm := hk.1.2.1
      have C1 := fun M => tend_hid ((Kg.refl g w).drewN M) (turned1_any tb g n cap root f (w.drewN M) up m (h.drewN M) hu (by rw [ei]; rfl) hm2 hmu (by rw [fm.2.2.1]; exact Tr.top_lt hn mc) (by rw [fm.2.2.2.1]; exact Tr.top_lt hn md) (by rw [eo]; exact ha) (by rw [fm.2.2.1]; exact Nat.le_trans (fm.1.height z) (by omega)) (by rw [fm.2.2.2.1]; exact Nat.le_trans (fm.2.1.height z) (by omega)) (by rw [eo]; exact ba))
      have lau : (Tr.n a up c).pl.length ≤ 4398046511104 := by simp only [Tr.pl, List.length_append, List.length_cons] at hlen ⊢; omega
      have C2 := fun W (h1 : TS tb g n cap root (innerF f p 0) W) (h2 : Kg g w W) => tend_hid h2 (turned0_any tb g n cap root (innerF f p 0) W p m h1 hp i2.2.2.1 hm2 hmp (by rw [i2.1.2.2.1]; exact hu) (by rw [i2.1.2.2.2.1]; exact Tr.top_lt hn md) (by rw [i2.2.2.2.1]; exact hr) (by rw [i2.1.2.2.1]; exact Nat.le_trans (i2.1.1.height i3) (by omega)) (by rw [i2.1.2.2.2.1]; exact Nat.le_trans (i2.1.2.1.height i3) (by omega)) (by rw [i2.2.2.2.1]; exact Nat.le_trans (i2.2.1.height i3) (by omega)))
      rw [show (innerF f p 0 p).link 0 = m from i2.2.2.1] at hB
      exact (balanced0_yes tb g n cap root f w p up r.top m a.top h hp el er hu hr br ei eo hm2 ha t0' hin (turnF f up 1) (turnF (innerF f p 0) p 0) (hidb C1) (hidb fun W h1 h2 => C2 W (by rw [i1]; exact h1) h2)).mono fun e w' ⟨x, y, u⟩ => ⟨m, _, x, hB, y, u⟩
    · have e0 : innerF f p 0 = f := by
        unfold innerF
        simp only [eup, show 1 - 0 = 1 from rfl, lo, li]
        rw [if_neg hin]
      rw [e0, eup] at hB
      have C := fun M => tend_hid ((Kg.refl g w).drewN M) (turned0_any tb g n cap root f (w.drewN M) p up (h.drewN M) hp el hu hup (by rw [eo]; exact ha) (by rw [ei]; exact hb) (by rw [er]; exact hr) (by rw [eo]; exact ba) (by rw [ei]; exact bb) (by rw [er]; exact br))
      exact (balanced0_no tb g n cap root f w p up r.top b.top a.top h hp el er hu hr br ei eo hb ha t0' hin (turnF f p 0) (hidb C)).mono fun e w' ⟨x, y, u⟩ => ⟨up, _, x, hB, y, u⟩
  · have t0' : ¬ (f r.top).h + 1 < (f l.top).h := by
      have := t0
      unfold turnsAt at this
      rw [show (f p).link 0 = l.top from el, show (f p).link (1 - 0) = r.top from er] at this
      exact this
    by_cases t1 : turnsAt f p 1
    · have t1' : (f l.top).h + 1 < (f r.top).h := by
        have := t1
        unfold turnsAt at this
        rw [show (f p).link 1 = r.top from er, show (f p).link (1 - 1) = l.top from el] at this
        exact this
      have hB := bal_right z hk nd t1
      obtain ⟨a, up, b, rfl⟩ := not_nil z hk.2.1 t1'
      have hu := mr up (by simp [Tr.pl])
      have ma : ∀ q ∈ a.pl, q < n := fun q hq => mr q (by simp [Tr.pl, hq])
      have mb : ∀ q ∈ b.pl, q < n := fun q hq => mr q (by simp [Tr.pl, hq])
      have ei := hk.2.1.2.2.1
      have eo := hk.2.1.2.2.2.1
      have ha := Tr.top_lt hn ma
      have hb := Tr.top_lt hn mb
      have la : a.pl.length ≤ 4398046511104 ∧ b.pl.length ≤ 4398046511104 := by have := ll.2; simp only [Tr.pl, List.length_append, List.length_cons] at this; omega
      have ba : (f a.top).h ≤ 1125899906842624 := Nat.le_trans (hk.2.1.1.height z) (by omega)
      have bb : (f b.top).h ≤ 1125899906842624 := Nat.le_trans (hk.2.1.2.1.height z) (by omega)
      have eup : (f p).link 1 = up := by simpa [Nd.link, Tr.top] using er
      have hup : up ≠ p := fun e => hpr (by simp [Tr.pl, e])
      have lo : (f up).link 1 = b.top := eo
      have li : (f up).link 0 = a.top := ei
      by_cases hin : (f b.top).h < (f a.top).h
      · obtain ⟨c, m, d, rfl⟩ := not_nil z hk.2.1.1 hin
        have hm2 := ma m (by simp [Tr.pl])
        obtain ⟨i1, i2, i3, i4⟩ := inner_right z hk nd (by rw [show 1 - 1 = 0 from rfl, lo, li]; exact hin)
        have mc : ∀ q ∈ c.pl, q < n := fun q hq => ma q (by simp [Tr.pl, hq])
        have md : ∀ q ∈ d.pl, q < n := fun q hq => ma q (by simp [Tr.pl, hq])
        have hmu : m ≠ up := fun e => by
          have := (nd_n ndr).2.2.1
          exact this (by simp [Tr.pl, e])
        have hmp : m ≠ p := fun e => hpr (by simp [Tr.pl, e])
        have lc : c.pl.length ≤ 4398046511104 ∧ d.pl.length ≤ 4398046511104 := by have := la.1; simp only [Tr.pl, List.length_append, List.length_cons] at this; omega
        have fm := hk.2.1.1
        have C1 := fun M => tend_hid ((Kg.refl g w).drewN M) (turned0_any tb g n cap root f (w.drewN M) up m (h.drewN M) hu (by rw [ei]; rfl) hm2 hmu (by rw [fm.2.2.1]; exact Tr.top_lt hn mc) (by rw [fm.2.2.2.1]; exact Tr.top_lt hn md) (by rw [eo]; exact hb) (by rw [fm.2.2.1]; exact Nat.le_trans (fm.1.height z) (by omega)) (by rw [fm.2.2.2.1]; exact Nat.le_trans (fm.2.1.height z) (by omega)) (by rw [eo]; exact bb))
        have lau : (Tr.n d up b).pl.length ≤ 4398046511104 := by simp only [Tr.pl, List.length_append, List.length_cons] at hlen ⊢; omega
        have C2 := fun W (h1 : TS tb g n cap root (innerF f p 1) W) (h2 : Kg g w W) => tend_hid h2 (turned1_any tb g n cap root (innerF f p 1) W p m h1 hp i2.2.2.2.1 hm2 hmp (by rw [i2.2.1.2.2.1]; exact Tr.top_lt hn mc) (by rw [i2.2.1.2.2.2.1]; exact hu) (by rw [i2.2.2.1]; exact hl) (by rw [i2.2.1.2.2.1]; exact Nat.le_trans (i2.2.1.1.height i3) (by omega)) (by rw [i2.2.1.2.2.2.1]; exact Nat.le_trans (i2.2.1.2.1.height i3) (by omega)) (by rw [i2.2.2.1]; exact Nat.le_trans (i2.1.height i3) (by omega)))
        rw [show (innerF f p 1 p).link 1 = m from i2.2.2.2.1] at hB
        exact (balanced1_yes tb g n cap root f w p l.top up m b.top h hp el er hl hu bl br ei eo hm2 hb t1' hin (turnF f up 0) (turnF (innerF f p 1) p 1) (hidb C1) (hidb fun W h1 h2 => C2 W (by rw [i1]; exact h1) h2)).mono fun e w' ⟨x, y, u⟩ => ⟨m, _, x, hB, y, u⟩
      · have e0 : innerF f p 1 = f := by
          unfold innerF
          simp only [eup, show 1 - 1 = 0 from rfl, lo, li]
          rw [if_neg hin]
        rw [e0, eup] at hB
        have C := fun M => tend_hid ((Kg.refl g w).drewN M) (turned1_any tb g n cap root f (w.drewN M) p up (h.drewN M) hp er hu hup (by rw [ei]; exact ha) (by rw [eo]; exact hb) (by rw [el]; exact hl) (by rw [ei]; exact ba) (by rw [eo]; exact bb) (by rw [el]; exact bl))
        exact (balanced1_no tb g n cap root f w p l.top up a.top b.top h hp el er hl hu bl br ei eo ha hb t1' hin (turnF f p 1) (hidb C)).mono fun e w' ⟨x, y, u⟩ => ⟨up, _, x, hB, y, u⟩
    · have t1' : ¬ (f l.top).h + 1 < (f r.top).h := by
        have := t1
        unfold turnsAt at this
        rw [show (f p).link 1 = r.top from er, show (f p).link (1 - 1) = l.top from el] at this
        exact this
      exact (balanced_none tb g n cap root f w p l.top r.top h hp el er hl hr bl br t0' t1').mono fun e w' ⟨x, y, u⟩ => ⟨p, _, x, bal_none z hk nd, y, u⟩
end Go.Proofs.Ytcjakgogdbfagaa
namespace Go.Proofs.Ytcjakgogdbfagaa
open Go.RowKit
/-- What with leaves. -/
def WEnd (tb g n cap root : Nat) (f : Nat → Nd) (w : World) (T : Tr) (new : Nat) (e : Ending) (w' : World) : Prop :=
  ∃ q : Nat, e = .returned (.int .i64 q) ∧ Hid (∃ f' T', Ins f f' T T' new ∧ T'.top = q ∧ TS tb g n cap root f' w' ∧ Kg g w w')
theorem with_e (tb g n cap root : Nat) (f : Nat → Nd) (w : World) (new : Nat) (h : TS tb g n cap root f w) (hp : WPre f .e new) :
    Calls Try.prog 58 #[.pointer (some ⟨tb, 0, none⟩), .int .i64 0, .int .i64 new] w (WEnd tb g n cap root f w .e new) := by
  have HE : Hid (WEnd tb g n cap root f w .e new (.returned (.int .i64 new)) w) := hidb ⟨new, rfl, hidb ⟨f, _, ins_e hp, rfl, h, Kg.refl _ _⟩⟩
  clear h hp
  go_enter Try.func58, Try.ntmps58
  go_wp2_with fail
  go_ret
  exact HE.out
set_option maxRecDepth 100000 in
set_option maxHeartbeats 1000000 in
theorem with_left (tb g n cap root : Nat) (f : Nat → Nd) (w : World) (l : Tr) (p : Nat) (r : Tr) (new : Nat) (h : TS tb g n cap root f w) (hW : WPre f (.n l p r) new) (hn : 0 < n) (hnew : new < n) (hm : ∀ q ∈ (Tr.n l p r).pl, q < n) (hlen : (Tr.n l p r).pl.length + 1 ≤ 4398046511104) (hs : klt (f new).k (f p).k)
    (ih : ∀ W, TS tb g n cap root f W → Calls Try.prog 58 #[.pointer (some ⟨tb, 0, none⟩), .int .i64 (l.top : Nat), .int .i64 new] W (WEnd tb g n cap root f W l new)) :
    Calls Try.prog 58 #[.pointer (some ⟨tb, 0, none⟩), .int .i64 p, .int .i64 new] w (WEnd tb g n cap root f w (.n l p r) new) := by
  have hp := hm p (by simp [Tr.pl])
  have hp0 : ((p : Int) == 0) = false := by have := hW.lk.2.2.2.2.1; simpa using this
  have c0 := h.c0
  have ck := h.k hnew
  have cl := h.l hp
  rw [hW.lk.2.2.1] at cl
  have hlt := h.lt
  have HS : Hid (∀ M, Calls Try.prog 70 #[.pointer (some ⟨tb, 0, none⟩), .int .i64 p, sv (f new).k] (w.drewN M) fun e w' => e = .returned (.int .i64 0) ∧ w' = w.drewN M) := hidb fun M => by
    have := side_any tb g n cap root f (w.drewN M) p (f new).k (h.drewN M) hp
    rw [sideN_lt hs] at this
    exact this
  have HW : Hid (∀ M, Calls Try.prog 58 #[.pointer (some ⟨tb, 0, none⟩), .int .i64 (l.top : Nat), .int .i64 new] (w.drewN M) fun e w' => ∃ q : Nat, e = .returned (.int .i64 q) ∧ Hid (∃ f' T', Ins f f' l T' new ∧ T'.top = q ∧ TS tb g n cap root f' w' ∧ Kg g w w')) := hidb fun M =>
    (ih (w.drewN M) (h.drewN M)).mono fun e w' ⟨q, e1, H⟩ => ⟨q, e1, by obtain ⟨f', T', a, b, c, d⟩ := H.out; exact hidb ⟨f', T', a, b, c, ((Kg.refl g w).drewN M).trans d⟩⟩
  have HB : Hid (∀ (q : Nat) (w3 : World), (∃ f' T', Ins f f' l T' new ∧ T'.top = q ∧ TS tb g n cap root f' w3 ∧ Kg g w w3) → (w3.frozen? ⟨g, p * 5 + 2, none⟩ = false ∧ ∃ v, w3.cell? ⟨g, p * 5 + 2, none⟩ = some (.int .i64 v)) ∧
      Calls Try.prog 71 #[.pointer (some ⟨tb, 0, none⟩), .int .i64 p] (w3.setCell ⟨g, p * 5 + 2, none⟩ (.int .i64 q)) (WEnd tb g n cap root f w (.n l p r) new)) := hidb fun q w3 ⟨f1, c', i, e1, t, k⟩ => by
    refine ⟨⟨t.fr _, _, t.l hp⟩, ?_⟩
    obtain ⟨j1, j2, j3, _⟩ := ins_left hW i
    subst e1
    obtain ⟨A, B, x1, x2, _⟩ := i.ex
    refine (balanced_any tb g n cap root _ _ c' p r (t.setL hp) j1 j2 j3 hn (fun x hx => ?_) ?_).mono fun e w' ⟨q2, f', y1, y2, y3, y4⟩ => ?_
    · simp only [Tr.pl, List.mem_append, List.mem_cons] at hx
      rcases hx with hx | hx | hx
      · rw [x2] at hx; rcases mem_ins.1 hx with hx | hx; exact hx ▸ hnew; exact hm x (by rw [Tr.pl, x1]; exact List.mem_append_left _ hx)
      · exact hx ▸ hp
      · exact hm x (by simp [Tr.pl, hx])
    · simp only [Tr.pl, List.length_append, List.length_cons] at hlen ⊢
      rw [x2, List.length_append, List.length_cons]
      rw [x1, List.length_append] at hlen
      omega
    · obtain ⟨T', z1, z2⟩ := ins_bal_left hW hs i y2
      exact ⟨q2, y1, hidb ⟨f', T', z1, z2, y3, (k.set _ _).trans y4⟩⟩
  clear h hW hm hlen hs ih
  generalize (f new).k = kk at *
  generalize l.top = ct at *
  go_enter Try.func58, Try.ntmps58
  go_wp2_with fail
  go_quiet ((go_at_call 70; exact Calls.quiet_of_same (HS.out _)))
  go_wp2_with (first
    | (go_at_call 58; refine (HW.out _).mono ?_; clear HW; rintro e w3 ⟨q3, rfl, K3⟩; replace HB := hidb (HB.out q3 w3 K3.out); obtain ⟨⟨cf3, v3, cc3⟩, hB⟩ := HB.out; replace HB := hidb hB; clear hB)
    | (go_at_call 71; refine HB.out.mono ?_; clear HB; rintro e w4 ⟨q4, rfl, K4⟩)
    | fail)
  go_ret
  exact ⟨q4, rfl, K4⟩
set_option maxRecDepth 100000 in
set_option maxHeartbeats 1000000 in
theorem with_right (tb g n cap root : Nat) (f : Nat → Nd) (w : World) (l : Tr) (p : Nat) (r : Tr) (new : Nat) (h : TS tb g n cap root f w) (hW : WPre f (.n l p r) new) (hn : 0 < n) (hnew : new < n) (hm : ∀ q ∈ (Tr.n l p r).pl, q < n) (hlen : (Tr.n l p r).pl.length + 1 ≤ 4398046511104) (hs : klt (f p).k (f new).k)
    (ih : ∀ W, TS tb g n cap root f W → Calls Try.prog 58 #[.pointer (some ⟨tb, 0, none⟩), .int .i64 (r.top : Nat), .int .i64 new] W (WEnd tb g n cap root f W r new)) :
    Calls Try.prog 58 #[.pointer (some ⟨tb, 0, none⟩), .int .i64 p, .int .i64 new] w (WEnd tb g n cap root f w (.n l p r) new) := by
  have hp := hm p (by simp [Tr.pl])
  have hp0 : ((p : Int) == 0) = false := by have := hW.lk.2.2.2.2.1; simpa using this
  have c0 := h.c0
  have ck := h.k hnew
  have cl := h.r hp
  rw [hW.lk.2.2.2.1] at cl
  have hlt := h.lt
  have HS : Hid (∀ M, Calls Try.prog 70 #[.pointer (some ⟨tb, 0, none⟩), .int .i64 p, sv (f new).k] (w.drewN M) fun e w' => e = .returned (.int .i64 1) ∧ w' = w.drewN M) := hidb fun M => by
    have := side_any tb g n cap root f (w.drewN M) p (f new).k (h.drewN M) hp
    rw [sideN_ge (klt_asymm hs)] at this
    exact this
  have HW : Hid (∀ M, Calls Try.prog 58 #[.pointer (some ⟨tb, 0, none⟩), .int .i64 (r.top : Nat), .int .i64 new] (w.drewN M) fun e w' => ∃ q : Nat, e = .returned (.int .i64 q) ∧ Hid (∃ f' T', Ins f f' r T' new ∧ T'.top = q ∧ TS tb g n cap root f' w' ∧ Kg g w w')) := hidb fun M =>
    (ih (w.drewN M) (h.drewN M)).mono fun e w' ⟨q, e1, H⟩ => ⟨q, e1, by obtain ⟨f', T', a, b, c, d⟩ := H.out; exact hidb ⟨f', T', a, b, c, ((Kg.refl g w).drewN M).trans d⟩⟩
  have HB : Hid (∀ (q : Nat) (w3 : World), (∃ f' T', Ins f f' r T' new ∧ T'.top = q ∧ TS tb g n cap root f' w3 ∧ Kg g w w3) → (w3.frozen? ⟨g, p * 5 + 3, none⟩ = false ∧ ∃ v, w3.cell? ⟨g, p * 5 + 3, none⟩ = some (.int .i64 v)) ∧
      Calls Try.prog 71 #[.pointer (some ⟨tb, 0, none⟩), .int .i64 p] (w3.setCell ⟨g, p * 5 + 3, none⟩ (.int .i64 q)) (WEnd tb g n cap root f w (.n l p r) new)) := hidb fun q w3 ⟨f1, c', i, e1, t, k⟩ => by
    refine ⟨⟨t.fr _, _, t.r hp⟩, ?_⟩
    obtain ⟨j1, j2, j3, _⟩ := ins_right hW i
    subst e1
    obtain ⟨A, B, x1, x2, _⟩ := i.ex
    refine (balanced_any tb g n cap root _ _ l p c' (t.setR hp) j1 j2 j3 hn (fun x hx => ?_) ?_).mono fun e w' ⟨q2, f', y1, y2, y3, y4⟩ => ?_
    · simp only [Tr.pl, List.mem_append, List.mem_cons] at hx
      rcases hx with hx | hx | hx
      · exact hm x (by simp [Tr.pl, hx])
      · exact hx ▸ hp
      · rw [x2] at hx; rcases mem_ins.1 hx with hx | hx; exact hx ▸ hnew; exact hm x (by rw [Tr.pl, x1]; exact List.mem_append_right _ (List.mem_cons_of_mem _ hx))
    · simp only [Tr.pl, List.length_append, List.length_cons] at hlen ⊢
      rw [x2, List.length_append, List.length_cons]
      rw [x1, List.length_append] at hlen
      omega
    · obtain ⟨T', z1, z2⟩ := ins_bal_right hW hs i y2
      exact ⟨q2, y1, hidb ⟨f', T', z1, z2, y3, (k.set _ _).trans y4⟩⟩
  clear h hW hm hlen hs ih
  generalize (f new).k = kk at *
  generalize r.top = ct at *
  go_enter Try.func58, Try.ntmps58
  go_wp2_with fail
  go_quiet ((go_at_call 70; exact Calls.quiet_of_same (HS.out _)))
  go_wp2_with (first
    | (go_at_call 58; refine (HW.out _).mono ?_; clear HW; rintro e w3 ⟨q3, rfl, K3⟩; replace HB := hidb (HB.out q3 w3 K3.out); obtain ⟨⟨cf3, v3, cc3⟩, hB⟩ := HB.out; replace HB := hidb hB; clear hB)
    | (go_at_call 71; refine HB.out.mono ?_; clear HB; rintro e w4 ⟨q4, rfl, K4⟩)
    | fail)
  go_ret
  exact ⟨q4, rfl, K4⟩
theorem with_any (tb g n cap root : Nat) (f : Nat → Nd) (new : Nat) (hn : 0 < n) (hnew : new < n) : ∀ (T : Tr) (w : World), TS tb g n cap root f w → WPre f T new → (∀ q ∈ T.pl, q < n) → T.pl.length + 1 ≤ 4398046511104 →
    Calls Try.prog 58 #[.pointer (some ⟨tb, 0, none⟩), .int .i64 (T.top : Nat), .int .i64 new] w (WEnd tb g n cap root f w T new)
  | .e, w, h, hW, _, _ => with_e tb g n cap root f w new h hW
  | .n l p r, w, h, hW, hm, hlen => by
    have hne : (f p).k ≠ (f new).k := fun e => hW.ne (by rw [← e]; simp [keys, Tr.pl])
    have hll : l.pl.length + 1 ≤ 4398046511104 ∧ r.pl.length + 1 ≤ 4398046511104 := by simp only [Tr.pl, List.length_append, List.length_cons] at hlen; omega
    rcases klt_tot _ _ hne with c | c
    · exact with_right tb g n cap root f w l p r new h hW hn hnew hm hlen c fun W hT => with_any tb g n cap root f new hn hnew r W hT hW.right (fun q hq => hm q (by simp [Tr.pl, hq])) hll.2
    · exact with_left tb g n cap root f w l p r new h hW hn hnew hm hlen c fun W hT => with_any tb g n cap root f new hn hnew l W hT hW.left (fun q hq => hm q (by simp [Tr.pl, hq])) hll.1
end Go.Proofs.Ytcjakgogdbfagaa
