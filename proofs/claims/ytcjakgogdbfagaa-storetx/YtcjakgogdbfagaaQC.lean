/- Layer 11: trees of nodes in a list, plainly: a node is taken out; the last one moves to its place. -/
import Derived.Test.YtcjakgogdbfagaaQB
namespace Go.Proofs.Ytcjakgogdbfagaa
open Go.RowKit
structure RPre (f : Nat → Nd) (T : Tr) (gone : Nat) : Prop where
  nd : T.pl.Nodup
  lk : Lk f T
  z : (f 0).h = 0
  srt : Srt (keys f T.pl)
  mem : gone ∈ T.pl
structure Rem (f f' : Nat → Nd) (T T' : Tr) (gone : Nat) : Prop where
  kv : KV f f'
  out : Out T.pl f f'
  lk : Lk f' T'
  ex : ∃ A B, T.pl = A ++ gone :: B ∧ T'.pl = A ++ B
theorem Rem.sub {f f' : Nat → Nd} {T T' : Tr} {gone : Nat} (h : Rem f f' T T' gone) : ∀ p ∈ T'.pl, p ∈ T.pl := by
  obtain ⟨A, B, e1, e2⟩ := h.ex
  intro p hp
  rw [e1]; rw [e2] at hp
  exact mem_ins.2 (.inr hp)
theorem Rem.nodup {f f' : Nat → Nd} {T T' : Tr} {gone : Nat} (h : Rem f f' T T' gone) (nd : T.pl.Nodup) : T'.pl.Nodup ∧ gone ∉ T'.pl := by
  obtain ⟨A, B, e1, e2⟩ := h.ex
  rw [e1, List.nodup_append, List.nodup_cons] at nd
  rw [e2, List.nodup_append]
  refine ⟨⟨nd.1, nd.2.1.2, fun a ha b hb => nd.2.2 a ha b (by simp [hb])⟩, fun e => ?_⟩
  rcases List.mem_append.1 e with e | e
  · exact nd.2.2 _ e gone (by simp) rfl
  · exact nd.2.1.1 e
theorem RPre.left {f : Nat → Nd} {l r : Tr} {p gone : Nat} (h : RPre f (.n l p r) gone) (m : gone ∈ l.pl) : RPre f l gone :=
  ⟨(nd_n h.nd).1, h.lk.1, h.z, (srt_n h.srt).1, m⟩
theorem RPre.right {f : Nat → Nd} {l r : Tr} {p gone : Nat} (h : RPre f (.n l p r) gone) (m : gone ∈ r.pl) : RPre f r gone :=
  ⟨(nd_n h.nd).2.1, h.lk.2.1, h.z, (srt_n h.srt).2.1, m⟩
/-- On which side it is. -/
theorem RPre.side {f : Nat → Nd} {l r : Tr} {p gone : Nat} (h : RPre f (.n l p r) gone) (hne : p ≠ gone) : (klt (f gone).k (f p).k ∧ gone ∈ l.pl) ∨ (¬ klt (f gone).k (f p).k ∧ gone ∈ r.pl) := by
  obtain ⟨_, _, s3, s4⟩ := srt_n h.srt
  have m := h.mem
  simp only [Tr.pl, List.mem_append, List.mem_cons] at m
  rcases m with m | m | m
  · exact .inl ⟨s3 _ m, m⟩
  · exact absurd m.symm hne
  · exact .inr ⟨klt_asymm (s4 _ m), m⟩
theorem rem_left {f f1 : Nat → Nd} {l r l' : Tr} {p gone : Nat} (h : RPre f (.n l p r) gone) (i : Rem f f1 l l' gone) :
    Lk0 (upd f1 p { f1 p with l := l'.top }) l' p r ∧ (Tr.n l' p r).pl.Nodup ∧ (upd f1 p { f1 p with l := l'.top } 0).h = 0 ∧ f1 p = f p := by
  obtain ⟨n1, n2, n3, n4, n5⟩ := nd_n h.nd
  have hpl : p ∉ l'.pl := fun e => n3 (i.sub p e)
  have hf1 : f1 p = f p := i.out p n3
  have o : Out [p] f1 (upd f1 p { f1 p with l := l'.top }) := Out.upd (by simp)
  have hr : Lk f1 r := i.out.lk h.lk.2.1 fun q hq e => n5 q e hq
  refine ⟨⟨o.lk i.lk fun q hq e => ?_, o.lk hr fun q hq e => ?_, by rw [upd_same], by rw [upd_same]; show (f1 p).r = _; rw [hf1]; exact h.lk.2.2.2.1, h.lk.2.2.2.2.1⟩, ?_, ?_, hf1⟩
  · simp at e; subst e; exact hpl hq
  · simp at e; subst e; exact n4 hq
  · simp only [Tr.pl]
    rw [List.nodup_append, List.nodup_cons]
    refine ⟨(i.nodup n1).1, ⟨n4, n2⟩, fun a ha b hb e => ?_⟩
    subst e
    rcases List.mem_cons.1 hb with rfl | hb
    · exact hpl ha
    · exact n5 a (i.sub a ha) hb
  · rw [upd_other _ _ (Ne.symm h.lk.2.2.2.2.1), i.out 0 fun e => h.lk.1.ne 0 e rfl]
    exact h.z
theorem rem_right {f f1 : Nat → Nd} {l r r' : Tr} {p gone : Nat} (h : RPre f (.n l p r) gone) (i : Rem f f1 r r' gone) :
    Lk0 (upd f1 p { f1 p with r := r'.top }) l p r' ∧ (Tr.n l p r').pl.Nodup ∧ (upd f1 p { f1 p with r := r'.top } 0).h = 0 ∧ f1 p = f p := by
  obtain ⟨n1, n2, n3, n4, n5⟩ := nd_n h.nd
  have hpr : p ∉ r'.pl := fun e => n4 (i.sub p e)
  have hf1 : f1 p = f p := i.out p n4
  have o : Out [p] f1 (upd f1 p { f1 p with r := r'.top }) := Out.upd (by simp)
  have hl : Lk f1 l := i.out.lk h.lk.1 fun q hq e => n5 q hq e
  refine ⟨⟨o.lk hl fun q hq e => ?_, o.lk i.lk fun q hq e => ?_, by rw [upd_same]; show (f1 p).l = _; rw [hf1]; exact h.lk.2.2.1, by rw [upd_same], h.lk.2.2.2.2.1⟩, ?_, ?_, hf1⟩
  · simp at e; subst e; exact n3 hq
  · simp at e; subst e; exact hpr hq
  · simp only [Tr.pl]
    rw [List.nodup_append, List.nodup_cons]
    refine ⟨n1, ⟨hpr, (i.nodup n2).1⟩, fun a ha b hb e => ?_⟩
    subst e
    rcases List.mem_cons.1 hb with rfl | hb
    · exact n3 ha
    · exact n5 a ha (i.sub a hb)
  · rw [upd_other _ _ (Ne.symm h.lk.2.2.2.2.1), i.out 0 fun e => h.lk.2.1.ne 0 e rfl]
    exact h.z
theorem rem_bal_left {f f1 f' : Nat → Nd} {l r l' : Tr} {p gone q : Nat} (i : Rem f f1 l l' gone) (b : Bal (upd f1 p { f1 p with l := l'.top }) f' l' p r q) : ∃ T', Rem f f' (.n l p r) T' gone ∧ T'.top = q := by
  obtain ⟨T', k1, k2, k3⟩ := b.ex
  obtain ⟨A, B, e1, e2⟩ := i.ex
  refine ⟨T', ⟨i.kv.trans ((KV.upd (f := f1) (p := p) (x := { f1 p with l := l'.top }) ⟨rfl, rfl⟩).trans b.kv), ?_, k1, A, B ++ p :: r.pl, by rw [Tr.pl, e1]; simp, by rw [k3, Tr.pl, e2]; simp⟩, k2⟩
  refine ((i.out.mono ?_).trans (Out.upd ?_)).trans (b.out.mono ?_)
  · intro x hx; simp [Tr.pl, hx]
  · simp [Tr.pl]
  · intro x hx; rw [Tr.pl, e2] at hx; rw [Tr.pl, e1]; simp at hx ⊢; rcases hx with h | h | h | h <;> simp [h]
theorem rem_bal_right {f f1 f' : Nat → Nd} {l r r' : Tr} {p gone q : Nat} (i : Rem f f1 r r' gone) (b : Bal (upd f1 p { f1 p with r := r'.top }) f' l p r' q) : ∃ T', Rem f f' (.n l p r) T' gone ∧ T'.top = q := by
  obtain ⟨T', k1, k2, k3⟩ := b.ex
  obtain ⟨A, B, e1, e2⟩ := i.ex
  refine ⟨T', ⟨i.kv.trans ((KV.upd (f := f1) (p := p) (x := { f1 p with r := r'.top }) ⟨rfl, rfl⟩).trans b.kv), ?_, k1, l.pl ++ p :: A, B, by rw [Tr.pl, e1]; simp, by rw [k3, Tr.pl, e2]; simp⟩, k2⟩
  refine ((i.out.mono ?_).trans (Out.upd ?_)).trans (b.out.mono ?_)
  · intro x hx; simp [Tr.pl, hx]
  · simp [Tr.pl]
  · intro x hx; rw [Tr.pl, e2] at hx; rw [Tr.pl, e1]; simp at hx ⊢; rcases hx with h | h | h | h <;> simp [h]
/-- It stands on top, and nothing on its right. -/
theorem rem_top {f : Nat → Nd} {l : Tr} {p : Nat} (h : RPre f (.n l p .e) p) : Rem f f (.n l p .e) l p :=
  ⟨KV.refl f, Out.refl _ _, h.lk.1, l.pl, [], by simp [Tr.pl], by simp⟩
/-- The least place of a tree. -/
def Tr.lst : Tr → Nat
  | .e => 0
  | .n .e p _ => p
  | .n (.n a q b) _ _ => (Tr.n a q b).lst
theorem lst_pl : ∀ (l : Tr) (p : Nat) (r : Tr), ∃ B, (Tr.n l p r).pl = (Tr.n l p r).lst :: B
  | .e, p, r => ⟨r.pl, by simp [Tr.pl, Tr.lst]⟩
  | .n a q b, p, r => by
    obtain ⟨B, h⟩ := lst_pl a q b
    exact ⟨B ++ p :: r.pl, by rw [show (Tr.n (.n a q b) p r).pl = (Tr.n a q b).pl ++ p :: r.pl from rfl, h]; rfl⟩
/-- It stands on top: the least one on its right takes its place. -/
theorem rem_mid {f f1 : Nat → Nd} {l r r' : Tr} {p q : Nat} (h : RPre f (.n l p r) p) (hr : r.top ≠ 0) (hq : r.lst = q) (i : Rem f f1 r r' q) (f2 : Nat → Nd) (hf2 : f2 = upd f1 q { f1 q with l := l.top, r := r'.top }) :
    Lk0 f2 l q r' ∧ (Tr.n l q r').pl.Nodup ∧ (f2 0).h = 0 ∧ (f1 p).l = l.top ∧ (∀ f' t, Bal f2 f' l q r' t → ∃ T', Rem f f' (.n l p r) T' p ∧ T'.top = t) := by
  obtain ⟨n1, n2, n3, n4, n5⟩ := nd_n h.nd
  obtain ⟨a, c, b, rfl⟩ : ∃ a c b, r = .n a c b := by
    cases r with
    | e => exact absurd rfl hr
    | n a c b => exact ⟨a, c, b, rfl⟩
  obtain ⟨B, eB⟩ := lst_pl a c b
  rw [hq] at eB
  obtain ⟨A', B', e1, e2⟩ := i.ex
  have nd2 := n2
  rw [eB, List.nodup_cons] at nd2
  have eA : A' = [] ∧ B' = B := by
    rw [eB] at e1
    cases A' with
    | nil => rw [List.nil_append] at e1; injection e1 with _ e1; exact ⟨rfl, e1.symm⟩
    | cons x A' =>
      rw [List.cons_append] at e1
      injection e1 with e3 e4
      exact absurd (by rw [e4]; simp) nd2.1
  obtain ⟨rfl, rfl⟩ := eA
  rw [List.nil_append] at e2
  have hqr : q ∈ (Tr.n a c b).pl := by rw [eB]; simp
  have hql : q ∉ l.pl := fun e => n5 _ e hqr
  have hqr' : q ∉ r'.pl := (i.nodup n2).2
  have hq0 : q ≠ 0 := h.lk.2.1.ne q hqr
  have o : Out [q] f1 f2 := by rw [hf2]; exact Out.upd (by simp)
  have hl1 : Lk f1 l := i.out.lk h.lk.1 fun x hx e => n5 x hx e
  have hp1 : f1 p = f p := i.out p n4
  have k0 : Lk0 f2 l q r' := ⟨o.lk hl1 fun x hx e => by simp at e; subst e; exact hql hx, o.lk i.lk fun x hx e => by simp at e; subst e; exact hqr' hx, by rw [hf2, upd_same], by rw [hf2, upd_same], hq0⟩
  refine ⟨k0, ?_, ?_, by rw [hp1]; exact h.lk.2.2.1, ?_⟩
  · simp only [Tr.pl]
    rw [List.nodup_append, List.nodup_cons]
    refine ⟨n1, ⟨hqr', (i.nodup n2).1⟩, fun x hx y hy e => ?_⟩
    subst e
    rcases List.mem_cons.1 hy with rfl | hy
    · exact hql hx
    · exact n5 x hx (i.sub x hy)
  · rw [hf2, upd_other _ _ (Ne.symm hq0), i.out 0 fun e => h.lk.2.1.ne 0 e rfl]
    exact h.z
  · subst hf2
    intro f' t bl
    obtain ⟨T', k1, k2, k3⟩ := bl.ex
    refine ⟨T', ⟨i.kv.trans ((KV.upd (f := f1) (p := q) (x := { f1 q with l := l.top, r := r'.top }) ⟨rfl, rfl⟩).trans bl.kv), ?_, k1, l.pl, (Tr.n a c b).pl, rfl, ?_⟩, k2⟩
    · refine ((i.out.mono ?_).trans (Out.upd ?_)).trans (bl.out.mono ?_)
      · intro x hx; simp [show (Tr.n l p (.n a c b)).pl = l.pl ++ p :: (Tr.n a c b).pl from rfl, hx]
      · simp [show (Tr.n l p (.n a c b)).pl = l.pl ++ p :: (Tr.n a c b).pl from rfl, hqr]
      · intro x hx
        rw [show (Tr.n l q r').pl = l.pl ++ q :: r'.pl from rfl, List.mem_append, List.mem_cons] at hx
        rw [show (Tr.n l p (.n a c b)).pl = l.pl ++ p :: (Tr.n a c b).pl from rfl, List.mem_append, List.mem_cons]
        rcases hx with hx | rfl | hx
        · exact .inl hx
        · exact .inr (.inr hqr)
        · exact .inr (.inr (i.sub x hx))
    · rw [k3, show (Tr.n l q r').pl = l.pl ++ q :: r'.pl from rfl, e2, eB]
/-- A place's other name. -/
def ren (a b q : Nat) : Nat := if q = a then b else q
theorem ren_same (a b : Nat) : ren a b a = b := if_pos rfl
theorem ren_other {a b q : Nat} (h : q ≠ a) : ren a b q = q := if_neg h
def Tr.ren (a b : Nat) : Tr → Tr
  | .e => .e
  | .n l p r => .n (l.ren a b) (Proofs.Ytcjakgogdbfagaa.ren a b p) (r.ren a b)
theorem ren_pl (a b : Nat) : ∀ T : Tr, (T.ren a b).pl = T.pl.map (ren a b)
  | .e => rfl
  | .n l p r => by rw [Tr.ren, Tr.pl, Tr.pl, ren_pl a b l, ren_pl a b r]; simp
theorem ren_none {a b : Nat} : ∀ {T : Tr}, a ∉ T.pl → T.ren a b = T
  | .e, _ => rfl
  | .n l p r, h => by
    simp only [Tr.pl, List.mem_append, List.mem_cons, not_or] at h
    rw [Tr.ren, ren_none h.1, ren_none h.2.2, ren_other (Ne.symm h.2.1)]
theorem ren_top {a b : Nat} (h : a ≠ 0) (T : Tr) : (T.ren a b).top = ren a b T.top := by
  cases T with
  | e => rw [Tr.ren, Tr.top, ren_other (Ne.symm h)]
  | n l p r => rfl
/-- The link that leads to the node: none: the tree's own. -/
def Tr.hang (f : Nat → Nd) (last : Nat) : Tr → Option (Nat × Nat) → Option (Nat × Nat)
  | .e, c => c
  | .n l p r, c => if p = last then c else if klt (f last).k (f p).k then l.hang f last (some (p, 0)) else r.hang f last (some (p, 1))
/-- The last node's link leads to the place, and its node lies there, too. -/
def movF (f : Nat → Nd) (c : Option (Nat × Nat)) (last at_ : Nat) : Nat → Nd :=
  let f1 := match c with
    | none => f
    | some (q, s) => upd f q ((f q).setLink s at_)
  upd f1 at_ (f1 last)
theorem mov_top {f : Nat → Nd} {l r : Tr} {last at_ : Nat} (h : RPre f (.n l last r) last) (ha : at_ ∉ (Tr.n l last r).pl) (ha0 : at_ ≠ 0) (c : Option (Nat × Nat)) (hc : ∀ q s, c = some (q, s) → q ∉ (Tr.n l last r).pl ∧ q ≠ at_) :
    Lk (movF f c last at_) ((Tr.n l last r).ren last at_) := by
  obtain ⟨n1, n2, n3, n4, n5⟩ := nd_n h.nd
  have hal : at_ ∉ l.pl := fun e => ha (by simp [Tr.pl, e])
  have har : at_ ∉ r.pl := fun e => ha (by simp [Tr.pl, e])
  have key : ∀ x ∈ (Tr.n l last r).pl, (match c with | none => f | some (q, s) => upd f q ((f q).setLink s at_)) x = f x := by
    intro x hx
    cases c with
    | none => rfl
    | some qs => exact upd_other _ _ fun e => (hc qs.1 qs.2 rfl).1 (e ▸ hx)
  rw [Tr.ren, ren_none n3, ren_none n4, ren_same]
  unfold movF
  simp only
  rw [key last (by simp [Tr.pl])]
  have sub : ∀ x ∈ (Tr.n l last r).pl, upd (match c with | none => f | some (q, s) => upd f q ((f q).setLink s at_)) at_ (f last) x = f x := fun x hx => by
    have hxa : x ≠ at_ := fun e => ha (e ▸ hx)
    rw [upd_other _ _ hxa, key x hx]
  refine ⟨h.lk.1.ext fun x hx => sub x (by simp [Tr.pl, hx]), h.lk.2.1.ext fun x hx => sub x (by simp [Tr.pl, hx]), ?_, ?_, ha0, ?_, ?_⟩
  · rw [upd_same]; exact h.lk.2.2.1
  · rw [upd_same]; exact h.lk.2.2.2.1
  · rw [upd_same]; exact h.lk.2.2.2.2.2.1
  · rw [upd_same]; exact h.lk.2.2.2.2.2.2
theorem mov_any {f : Nat → Nd} {last at_ : Nat} (ha0 : at_ ≠ 0) : ∀ {T : Tr}, RPre f T last → at_ ∉ T.pl → ∀ (c : Option (Nat × Nat)), T.top ≠ last →
    ∃ q s, T.hang f last c = some (q, s) ∧ q ∈ T.pl ∧ q ≠ last ∧ s ≤ 1 ∧ (f q).link s = last ∧ Lk (movF f (some (q, s)) last at_) (T.ren last at_) ∧ (∀ x, x ∉ T.pl → x ≠ at_ → movF f (some (q, s)) last at_ x = f x)
  | .e, h, _, _, _ => by have := h.mem; cases this
  | .n l p r, h, ha, c, ht => by
    have ht : p ≠ last := ht
    obtain ⟨n1, n2, n3, n4, n5⟩ := nd_n h.nd
    have hal : at_ ∉ l.pl := fun e => ha (by simp [Tr.pl, e])
    have har : at_ ∉ r.pl := fun e => ha (by simp [Tr.pl, e])
    have hap : p ≠ at_ := fun e => ha (by simp [Tr.pl, e])
    have l0 : last ≠ 0 := h.lk.ne last h.mem
    rw [Tr.hang, if_neg ht]
    have outm : ∀ {q s x : Nat}, x ≠ q → x ≠ at_ → movF f (some (q, s)) last at_ x = f x := fun h1 h2 => by
      unfold movF
      simp only
      rw [upd_other _ _ h2, upd_other _ _ h1]
    rcases h.side ht with ⟨hk, hm⟩ | ⟨hk, hm⟩
    · rw [if_pos hk]
      have hlr : last ∉ r.pl := n5 _ hm
      by_cases hlt : l.top = last
      · obtain ⟨a, b, el⟩ := h.lk.1.form (by rw [hlt]; exact l0)
        rw [hlt] at el
        have e1 : l.hang f last (some (p, 0)) = some (p, 0) := by rw [el, Tr.hang, if_pos rfl]
        have hL : RPre f (.n a last b) last := by have := h.left hm; rw [el] at this; exact this
        have k1 := mov_top (at_ := at_) hL (by rw [← el]; exact hal) ha0 (some (p, 0)) (fun q s e => by injection e with e; injection e with e _; subst e; rw [← el]; exact ⟨n3, hap⟩)
        rw [← el] at k1
        have ep : movF f (some (p, 0)) last at_ p = { f p with l := at_ } := by
          unfold movF; simp only
          rw [upd_other _ _ hap, upd_same]; rfl
        refine ⟨p, 0, e1, by simp [Tr.pl], ht, by omega, by rw [← hlt]; simpa [Nd.link] using h.lk.2.2.1, ?_, fun x hx hxa => outm (fun e => hx (by simp [Tr.pl, e])) hxa⟩
        rw [Tr.ren, ren_other ht, ren_none hlr]
        refine ⟨k1, h.lk.2.1.ext fun x hx => outm (fun e => n4 (e ▸ hx)) (fun e => har (e ▸ hx)), ?_, by rw [ep]; exact h.lk.2.2.2.1, h.lk.2.2.2.2.1, by rw [ep]; exact h.lk.2.2.2.2.2.1, ?_⟩
        · rw [ep, ren_top l0, hlt, ren_same]
        · rw [ep, ren_pl, List.length_map]; exact h.lk.2.2.2.2.2.2
      · obtain ⟨q, s, e1, e2, e3, e4, e5, e6, e7⟩ := mov_any ha0 (h.left hm) hal (some (p, 0)) hlt
        have ep := e7 p n3 hap
        refine ⟨q, s, e1, by simp [Tr.pl, e2], e3, e4, e5, ?_, fun x hx hxa => e7 x (fun e => hx (by simp [Tr.pl, e])) hxa⟩
        rw [Tr.ren, ren_other ht, ren_none hlr]
        refine ⟨e6, h.lk.2.1.ext fun x hx => e7 x (fun e => n5 x e hx) (fun e => har (e ▸ hx)), ?_, by rw [ep]; exact h.lk.2.2.2.1, h.lk.2.2.2.2.1, by rw [ep]; exact h.lk.2.2.2.2.2.1, ?_⟩
        · rw [ep, ren_top l0, ren_other hlt]; exact h.lk.2.2.1
        · rw [ep, ren_pl, List.length_map]; exact h.lk.2.2.2.2.2.2
    · rw [if_neg hk]
      have hll : last ∉ l.pl := fun e => n5 _ e hm
      by_cases hlt : r.top = last
      · obtain ⟨a, b, el⟩ := h.lk.2.1.form (by rw [hlt]; exact l0)
        rw [hlt] at el
        have e1 : r.hang f last (some (p, 1)) = some (p, 1) := by rw [el, Tr.hang, if_pos rfl]
        have hL : RPre f (.n a last b) last := by have := h.right hm; rw [el] at this; exact this
        have k1 := mov_top (at_ := at_) hL (by rw [← el]; exact har) ha0 (some (p, 1)) (fun q s e => by injection e with e; injection e with e _; subst e; rw [← el]; exact ⟨n4, hap⟩)
        rw [← el] at k1
        have ep : movF f (some (p, 1)) last at_ p = { f p with r := at_ } := by
          unfold movF; simp only
          rw [upd_other _ _ hap, upd_same]; rfl
        refine ⟨p, 1, e1, by simp [Tr.pl], ht, by omega, by rw [← hlt]; simpa [Nd.link] using h.lk.2.2.2.1, ?_, fun x hx hxa => outm (fun e => hx (by simp [Tr.pl, e])) hxa⟩
        rw [Tr.ren, ren_other ht, ren_none hll]
        refine ⟨h.lk.1.ext fun x hx => outm (fun e => n3 (e ▸ hx)) (fun e => hal (e ▸ hx)), k1, by rw [ep]; exact h.lk.2.2.1, ?_, h.lk.2.2.2.2.1, by rw [ep]; exact h.lk.2.2.2.2.2.1, ?_⟩
        · rw [ep, ren_top l0, hlt, ren_same]
        · rw [ep, ren_pl, List.length_map]; exact h.lk.2.2.2.2.2.2
      · obtain ⟨q, s, e1, e2, e3, e4, e5, e6, e7⟩ := mov_any ha0 (h.right hm) har (some (p, 1)) hlt
        have ep := e7 p n4 hap
        refine ⟨q, s, e1, by simp [Tr.pl, e2], e3, e4, e5, ?_, fun x hx hxa => e7 x (fun e => hx (by simp [Tr.pl, e])) hxa⟩
        rw [Tr.ren, ren_other ht, ren_none hll]
        refine ⟨h.lk.1.ext fun x hx => e7 x (fun e => n5 x hx e) (fun e => hal (e ▸ hx)), e6, by rw [ep]; exact h.lk.2.2.1, ?_, h.lk.2.2.2.2.1, by rw [ep]; exact h.lk.2.2.2.2.2.1, ?_⟩
        · rw [ep, ren_top l0, ren_other hlt]; exact h.lk.2.2.2.1
        · rw [ep, ren_pl, List.length_map]; exact h.lk.2.2.2.2.2.2
end Go.Proofs.Ytcjakgogdbfagaa
