/- Layer 11: trees of nodes in a list, plainly: what is found, linked in, taken out. -/
import Derived.Test.YtcjakgogdbfagaaFeeds2
namespace Go.Proofs.Ytcjakgogdbfagaa
open Go.RowKit
abbrev klt (a b : Bt) : Prop := Op.bytesLess a b = true
theorem klt_irr (a : Bt) : ¬ klt a a := by
  unfold klt
  induction a with
  | nil => simp [Op.bytesLess]
  | cons x a ih => simpa [Op.bytesLess] using ih
theorem klt_tot (a : Bt) : ∀ b, a ≠ b → klt a b ∨ klt b a := by
  unfold klt
  induction a with
  | nil =>
    intro b h
    cases b with
    | nil => exact absurd rfl h
    | cons y b => left; rfl
  | cons x a ih =>
    intro b h
    cases b with
    | nil => right; rfl
    | cons y b =>
      simp only [Op.bytesLess, Bool.or_eq_true, Bool.and_eq_true, decide_eq_true_eq, beq_iff_eq]
      by_cases hxy : x = y
      · subst hxy
        rcases ih b (fun e => h (by rw [e])) with h | h
        · exact .inl (.inr ⟨rfl, h⟩)
        · exact .inr (.inr ⟨rfl, h⟩)
      · have hxy' : x.toNat ≠ y.toNat := fun e => hxy (UInt8.toNat.inj e)
        rcases Nat.lt_or_gt_of_ne hxy' with h | h
        · exact .inl (.inl (UInt8.lt_iff_toNat_lt.2 h))
        · exact .inr (.inl (UInt8.lt_iff_toNat_lt.2 h))
theorem klt_trans (a : Bt) : ∀ b c, klt a b → klt b c → klt a c := by
  unfold klt
  induction a with
  | nil =>
    intro b c h1 h2
    cases c with
    | nil => cases b <;> simp [Op.bytesLess] at h2
    | cons z c => rfl
  | cons x a ih =>
    intro b c h1 h2
    cases b with
    | nil => simp [Op.bytesLess] at h1
    | cons y b =>
      cases c with
      | nil => simp [Op.bytesLess] at h2
      | cons z c =>
        simp only [Op.bytesLess, Bool.or_eq_true, Bool.and_eq_true, decide_eq_true_eq, beq_iff_eq] at h1 h2 ⊢
        rcases h1 with h1 | ⟨rfl, h1⟩
        · rcases h2 with h2 | ⟨rfl, h2⟩
          · exact .inl (UInt8.lt_trans h1 h2)
          · exact .inl h1
        · rcases h2 with h2 | ⟨rfl, h2⟩
          · exact .inl h2
          · exact .inr ⟨rfl, ih b c h1 h2⟩
theorem klt_ne {a b : Bt} (h : klt a b) : a ≠ b := fun e => klt_irr b (e ▸ h)
theorem klt_asymm {a b : Bt} (h : klt a b) : ¬ klt b a := fun h2 => klt_irr a (klt_trans a b a h h2)
/-- Rising keys. -/
def Srt (l : List Bt) : Prop := l.Pairwise klt
def keys (f : Nat → Nd) (l : List Nat) : List Bt := l.map fun p => (f p).k
theorem keys_kv {f g : Nat → Nd} (h : KV f g) (l : List Nat) : keys g l = keys f l := List.map_congr_left fun p _ => (h p).1
theorem srt_n {f : Nat → Nd} {l r : Tr} {p : Nat} (h : Srt (keys f (Tr.n l p r).pl)) : Srt (keys f l.pl) ∧ Srt (keys f r.pl) ∧ (∀ q ∈ l.pl, klt (f q).k (f p).k) ∧ (∀ q ∈ r.pl, klt (f p).k (f q).k) := by
  simp only [Tr.pl, keys, List.map_append, List.map_cons, Srt, List.pairwise_append, List.pairwise_cons, List.mem_map, List.mem_cons] at h
  obtain ⟨h1, ⟨h2, h3⟩, h4⟩ := h
  exact ⟨h1, h3, fun q hq => h4 _ ⟨q, hq, rfl⟩ _ (.inl rfl), fun q hq => h2 _ ⟨q, hq, rfl⟩⟩
/-- A key's place, 0 if it is not there. -/
def Tr.find (f : Nat → Nd) (key : Bt) : Tr → Nat
  | .e => 0
  | .n l p r => if (f p).k = key then p else if klt key (f p).k then l.find f key else r.find f key
theorem find_spec {f : Nat → Nd} {key : Bt} : ∀ {T : Tr}, Lk f T → Srt (keys f T.pl) → (T.find f key = 0 ∧ key ∉ keys f T.pl) ∨ (T.find f key ∈ T.pl ∧ T.find f key ≠ 0 ∧ (f (T.find f key)).k = key)
  | .e, _, _ => .inl ⟨rfl, by simp [keys, Tr.pl]⟩
  | .n l p r, h, s => by
    obtain ⟨s1, s2, s3, s4⟩ := srt_n s
    unfold Tr.find
    by_cases e : (f p).k = key
    · rw [if_pos e]; exact .inr ⟨by simp [Tr.pl], h.2.2.2.2.1, e⟩
    · rw [if_neg e]
      by_cases c : klt key (f p).k
      · rw [if_pos c]
        rcases find_spec (key := key) h.1 s1 with ⟨a, b⟩ | ⟨a, b, d⟩
        · refine .inl ⟨a, ?_⟩
          simp only [keys, Tr.pl, List.map_append, List.map_cons, List.mem_append, List.mem_cons]
          rintro (x | x | x)
          · exact b x
          · exact e x.symm
          · obtain ⟨q, hq, rfl⟩ := List.mem_map.1 x
            exact klt_asymm (s4 q hq) c
        · exact .inr ⟨by simp [Tr.pl, a], b, d⟩
      · rw [if_neg c]
        have c2 : klt (f p).k key := (klt_tot _ _ e).resolve_right c
        rcases find_spec (key := key) h.2.1 s2 with ⟨a, b⟩ | ⟨a, b, d⟩
        · refine .inl ⟨a, ?_⟩
          simp only [keys, Tr.pl, List.map_append, List.map_cons, List.mem_append, List.mem_cons]
          rintro (x | x | x)
          · obtain ⟨q, hq, rfl⟩ := List.mem_map.1 x
            exact klt_asymm (s3 q hq) c2
          · exact e x.symm
          · exact b x
        · exact .inr ⟨by simp [Tr.pl, a], b, d⟩
/-- The place of the least key above. -/
def Tr.above (f : Nat → Nd) (key : Bt) : Tr → Nat → Nat
  | .e, a => a
  | .n l p r, a => if klt key (f p).k then l.above f key p else r.above f key a
theorem above_spec {f : Nat → Nd} {key : Bt} : ∀ {T : Tr} (a : Nat), Srt (keys f T.pl) → (T.above f key a = a ∧ ∀ p ∈ T.pl, ¬ klt key (f p).k) ∨ (∃ A q B, T.pl = A ++ q :: B ∧ T.above f key a = q ∧ klt key (f q).k ∧ ∀ p ∈ A, ¬ klt key (f p).k)
  | .e, a, _ => .inl ⟨rfl, by simp [Tr.pl]⟩
  | .n l p r, a, s => by
    obtain ⟨s1, s2, s3, s4⟩ := srt_n s
    unfold Tr.above
    by_cases c : klt key (f p).k
    · rw [if_pos c]
      rcases above_spec (key := key) p s1 with ⟨x, y⟩ | ⟨A, q, B, e1, e2, e3, e4⟩
      · exact .inr ⟨l.pl, p, r.pl, rfl, x, c, y⟩
      · exact .inr ⟨A, q, B ++ p :: r.pl, by rw [Tr.pl, e1]; simp, e2, e3, e4⟩
    · rw [if_neg c]
      have hl : ∀ q ∈ l.pl, ¬ klt key (f q).k := fun q hq h => c (klt_trans _ _ _ h (s3 q hq))
      rcases above_spec (key := key) a s2 with ⟨x, y⟩ | ⟨A, q, B, e1, e2, e3, e4⟩
      · refine .inl ⟨x, fun q hq => ?_⟩
        simp only [Tr.pl, List.mem_append, List.mem_cons] at hq
        rcases hq with h | rfl | h
        · exact hl q h
        · exact c
        · exact y q h
      · refine .inr ⟨l.pl ++ p :: A, q, B, by rw [Tr.pl, e1]; simp, e2, e3, fun q hq => ?_⟩
        simp only [List.mem_append, List.mem_cons] at hq
        rcases hq with h | rfl | h
        · exact hl q h
        · exact c
        · exact e4 q h
/-- The first of these places, 0 without one. -/
def hd0 (l : List Nat) : Nat := l.headD 0
theorem above_at {f : Nat → Nd} {key : Bt} {T : Tr} (s : Srt (keys f T.pl)) {A B : List Nat} (e : T.pl = A ++ B) (hA : ∀ p ∈ A, ¬ klt key (f p).k) (hB : ∀ p ∈ B, klt key (f p).k) : T.above f key 0 = hd0 B := by
  rcases above_spec (key := key) 0 s with ⟨x, y⟩ | ⟨A', q, B', e1, e2, e3, e4⟩
  · rw [x]
    cases B with
    | nil => rfl
    | cons b B => exact absurd (hB b (by simp)) (y b (by rw [e]; simp))
  · rw [e2]
    rw [e] at e1
    have hp := List.append_eq_append_iff.1 e1
    rcases hp with ⟨C, h1, h2⟩ | ⟨C, h1, h2⟩
    · cases C with
      | nil => rw [List.nil_append] at h2; rw [h2]; rfl
      | cons c C => exact absurd (hB c (by rw [h2]; simp)) (e4 c (by rw [h1]; simp))
    · cases C with
      | nil => rw [List.nil_append] at h2; rw [← h2]; rfl
      | cons c C =>
        rw [List.cons_append] at h2
        injection h2 with h3 _
        subst h3
        exact absurd e3 (hA q (by rw [h1]; simp))
theorem mem_ins {A B : List Nat} {new q : Nat} : q ∈ A ++ new :: B ↔ q = new ∨ q ∈ A ++ B := by
  simp only [List.mem_append, List.mem_cons]
  constructor
  · rintro (h | h | h) <;> simp [h]
  · rintro (h | h | h) <;> simp [h]
/-- A new node is linked in. -/
structure WPre (f : Nat → Nd) (T : Tr) (new : Nat) : Prop where
  nd : (new :: T.pl).Nodup
  lk : Lk f T
  z : (f 0).h = 0
  leaf : (f new).l = 0 ∧ (f new).r = 0 ∧ (f new).h = 1 ∧ new ≠ 0
  srt : Srt (keys f T.pl)
  ne : (f new).k ∉ keys f T.pl
structure Ins (f f' : Nat → Nd) (T T' : Tr) (new : Nat) : Prop where
  kv : KV f f'
  out : Out (new :: T.pl) f f'
  lk : Lk f' T'
  ex : ∃ A B, T.pl = A ++ B ∧ T'.pl = A ++ new :: B ∧ (∀ p ∈ A, klt (f p).k (f new).k) ∧ (∀ p ∈ B, klt (f new).k (f p).k)
theorem ins_e {f : Nat → Nd} {new : Nat} (h : WPre f .e new) : Ins f f .e (.n .e new .e) new :=
  ⟨KV.refl f, Out.refl _ _, ⟨trivial, trivial, h.leaf.1, h.leaf.2.1, h.leaf.2.2.2, by rw [h.leaf.2.2.1]; decide, by rw [h.leaf.2.2.1]; exact Nat.le_add_left _ _⟩, [], [], rfl, rfl, by simp, by simp⟩
theorem WPre.left {f : Nat → Nd} {l r : Tr} {p new : Nat} (h : WPre f (.n l p r) new) : WPre f l new := by
  have n := h.nd
  have m := h.ne
  simp only [Tr.pl, keys, List.map_append, List.mem_append, not_or] at n m
  rw [List.nodup_cons, List.nodup_append] at n
  exact ⟨List.nodup_cons.2 ⟨fun e => n.1 (by simp [e]), n.2.1⟩, h.lk.1, h.z, h.leaf, (srt_n h.srt).1, m.1⟩
theorem WPre.right {f : Nat → Nd} {l r : Tr} {p new : Nat} (h : WPre f (.n l p r) new) : WPre f r new := by
  have n := h.nd
  have m := h.ne
  simp only [Tr.pl, keys, List.map_append, List.map_cons, List.mem_append, List.mem_cons, not_or] at n m
  rw [List.nodup_cons, List.nodup_append, List.nodup_cons] at n
  exact ⟨List.nodup_cons.2 ⟨fun e => n.1 (by simp [e]), n.2.2.1.2⟩, h.lk.2.1, h.z, h.leaf, (srt_n h.srt).2.1, m.2.2⟩
/-- The places that the sides have, apart. -/
theorem nd_n {l r : Tr} {p : Nat} (h : (Tr.n l p r).pl.Nodup) : l.pl.Nodup ∧ r.pl.Nodup ∧ p ∉ l.pl ∧ p ∉ r.pl ∧ ∀ q ∈ l.pl, q ∉ r.pl := by
  simp only [Tr.pl] at h
  rw [List.nodup_append, List.nodup_cons] at h
  exact ⟨h.1, h.2.1.2, fun e => h.2.2 _ e p (by simp) rfl, h.2.1.1, fun q hq e => h.2.2 _ hq q (by simp [e]) rfl⟩
theorem ins_left {f f1 : Nat → Nd} {l r l' : Tr} {p new : Nat} (h : WPre f (.n l p r) new) (i : Ins f f1 l l' new) :
    Lk0 (upd f1 p { f1 p with l := l'.top }) l' p r ∧ (Tr.n l' p r).pl.Nodup ∧ (upd f1 p { f1 p with l := l'.top } 0).h = 0 ∧ f1 p = f p := by
  have nd := List.nodup_cons.1 h.nd
  obtain ⟨n1, n2, n3, n4, n5⟩ := nd_n nd.2
  have npn : p ≠ new := fun e => nd.1 (by simp [Tr.pl, e])
  have nnr : new ∉ r.pl := fun e => nd.1 (by simp [Tr.pl, e])
  have nnl : new ∉ l.pl := fun e => nd.1 (by simp [Tr.pl, e])
  obtain ⟨A, B, e1, e2, _, _⟩ := i.ex
  have mem : ∀ q, q ∈ l'.pl ↔ q = new ∨ q ∈ l.pl := fun q => by rw [e2, e1]; exact mem_ins
  have hpl : p ∉ l'.pl := fun e => ((mem p).1 e).elim npn n3
  have hf1 : f1 p = f p := i.out p (by simp; exact ⟨npn, n3⟩)
  have o : Out [p] f1 (upd f1 p { f1 p with l := l'.top }) := Out.upd (by simp)
  have hr : Lk f1 r := i.out.lk h.lk.2.1 fun q hq e => by
    simp at e
    rcases e with rfl | e
    · exact nnr hq
    · exact n5 q e hq
  refine ⟨⟨o.lk i.lk fun q hq e => ?_, o.lk hr fun q hq e => ?_, by rw [upd_same], by rw [upd_same]; show (f1 p).r = _; rw [hf1]; exact h.lk.2.2.2.1, h.lk.2.2.2.2.1⟩, ?_, ?_, hf1⟩
  · simp at e; subst e; exact hpl hq
  · simp at e; subst e; exact n4 hq
  · simp only [Tr.pl]
    rw [List.nodup_append, List.nodup_cons]
    refine ⟨?_, ⟨n4, n2⟩, ?_⟩
    · rw [e2]
      rw [e1] at n1 nnl
      rw [List.nodup_append] at n1 ⊢
      simp only [List.mem_append, not_or] at nnl
      exact ⟨n1.1, List.nodup_cons.2 ⟨nnl.2, n1.2.1⟩, fun a ha b hb => by
        rcases List.mem_cons.1 hb with rfl | hb
        · exact fun e => nnl.1 (e ▸ ha)
        · exact n1.2.2 a ha b hb⟩
    · intro a ha b hb e
      subst e
      rcases List.mem_cons.1 hb with rfl | hb
      · exact hpl ha
      · rcases (mem a).1 ha with rfl | ha
        · exact nnr hb
        · exact n5 a ha hb
  · rw [upd_other _ _ (Ne.symm h.lk.2.2.2.2.1), i.out 0]
    · exact h.z
    · simp; exact ⟨fun e => h.leaf.2.2.2 e.symm, fun e => h.lk.1.ne 0 e rfl⟩
theorem ins_right {f f1 : Nat → Nd} {l r r' : Tr} {p new : Nat} (h : WPre f (.n l p r) new) (i : Ins f f1 r r' new) :
    Lk0 (upd f1 p { f1 p with r := r'.top }) l p r' ∧ (Tr.n l p r').pl.Nodup ∧ (upd f1 p { f1 p with r := r'.top } 0).h = 0 ∧ f1 p = f p := by
  have nd := List.nodup_cons.1 h.nd
  obtain ⟨n1, n2, n3, n4, n5⟩ := nd_n nd.2
  have npn : p ≠ new := fun e => nd.1 (by simp [Tr.pl, e])
  have nnr : new ∉ r.pl := fun e => nd.1 (by simp [Tr.pl, e])
  have nnl : new ∉ l.pl := fun e => nd.1 (by simp [Tr.pl, e])
  obtain ⟨A, B, e1, e2, _, _⟩ := i.ex
  have mem : ∀ q, q ∈ r'.pl ↔ q = new ∨ q ∈ r.pl := fun q => by rw [e2, e1]; exact mem_ins
  have hpr : p ∉ r'.pl := fun e => ((mem p).1 e).elim npn n4
  have hf1 : f1 p = f p := i.out p (by simp; exact ⟨npn, n4⟩)
  have o : Out [p] f1 (upd f1 p { f1 p with r := r'.top }) := Out.upd (by simp)
  have hl : Lk f1 l := i.out.lk h.lk.1 fun q hq e => by
    simp at e
    rcases e with rfl | e
    · exact nnl hq
    · exact n5 q hq e
  refine ⟨⟨o.lk hl fun q hq e => ?_, o.lk i.lk fun q hq e => ?_, by rw [upd_same]; show (f1 p).l = _; rw [hf1]; exact h.lk.2.2.1, by rw [upd_same], h.lk.2.2.2.2.1⟩, ?_, ?_, hf1⟩
  · simp at e; subst e; exact n3 hq
  · simp at e; subst e; exact hpr hq
  · simp only [Tr.pl]
    rw [List.nodup_append, List.nodup_cons]
    refine ⟨n1, ⟨hpr, ?_⟩, ?_⟩
    · rw [e2]
      rw [e1] at n2 nnr
      rw [List.nodup_append] at n2 ⊢
      simp only [List.mem_append, not_or] at nnr
      exact ⟨n2.1, List.nodup_cons.2 ⟨nnr.2, n2.2.1⟩, fun a ha b hb => by
        rcases List.mem_cons.1 hb with rfl | hb
        · exact fun e => nnr.1 (e ▸ ha)
        · exact n2.2.2 a ha b hb⟩
    · intro a ha b hb e
      subst e
      rcases List.mem_cons.1 hb with rfl | hb
      · exact n3 ha
      · rcases (mem a).1 hb with rfl | hb
        · exact nnl ha
        · exact n5 a ha hb
  · rw [upd_other _ _ (Ne.symm h.lk.2.2.2.2.1), i.out 0]
    · exact h.z
    · simp; exact ⟨fun e => h.leaf.2.2.2 e.symm, fun e => h.lk.2.1.ne 0 e rfl⟩
theorem ins_bal_left {f f1 f' : Nat → Nd} {l r l' : Tr} {p new q : Nat} (h : WPre f (.n l p r) new) (c : klt (f new).k (f p).k) (i : Ins f f1 l l' new) (b : Bal (upd f1 p { f1 p with l := l'.top }) f' l' p r q) : ∃ T', Ins f f' (.n l p r) T' new ∧ T'.top = q := by
  obtain ⟨T', k1, k2, k3⟩ := b.ex
  obtain ⟨A, B, e1, e2, e3, e4⟩ := i.ex
  refine ⟨T', ⟨i.kv.trans ((KV.upd (f := f1) (p := p) (x := { f1 p with l := l'.top }) ⟨rfl, rfl⟩).trans b.kv), ?_, k1, A, B ++ p :: r.pl, by rw [Tr.pl, e1]; simp, by rw [k3, Tr.pl, e2]; simp, e3, ?_⟩, k2⟩
  · refine ((i.out.mono ?_).trans (Out.upd ?_)).trans (b.out.mono ?_)
    · intro x hx; simp [Tr.pl] at hx ⊢; rcases hx with h | h <;> simp [h]
    · simp [Tr.pl]
    · intro x hx; rw [Tr.pl, e2] at hx; rw [Tr.pl, e1]; simp at hx ⊢; rcases hx with h | h | h | h | h <;> simp [h]
  · intro x hx
    simp only [List.mem_append, List.mem_cons] at hx
    rcases hx with h | rfl | h
    · exact e4 x h
    · exact c
    · exact klt_trans _ _ _ c ((srt_n ‹WPre f (.n l p r) new›.srt).2.2.2 x h)
theorem ins_bal_right {f f1 f' : Nat → Nd} {l r r' : Tr} {p new q : Nat} (h : WPre f (.n l p r) new) (c : klt (f p).k (f new).k) (i : Ins f f1 r r' new) (b : Bal (upd f1 p { f1 p with r := r'.top }) f' l p r' q) : ∃ T', Ins f f' (.n l p r) T' new ∧ T'.top = q := by
  obtain ⟨T', k1, k2, k3⟩ := b.ex
  obtain ⟨A, B, e1, e2, e3, e4⟩ := i.ex
  refine ⟨T', ⟨i.kv.trans ((KV.upd (f := f1) (p := p) (x := { f1 p with r := r'.top }) ⟨rfl, rfl⟩).trans b.kv), ?_, k1, l.pl ++ p :: A, B, by rw [Tr.pl, e1]; simp, by rw [k3, Tr.pl, e2]; simp, ?_, e4⟩, k2⟩
  · refine ((i.out.mono ?_).trans (Out.upd ?_)).trans (b.out.mono ?_)
    · intro x hx; simp [Tr.pl] at hx ⊢; rcases hx with h | h <;> simp [h]
    · simp [Tr.pl]
    · intro x hx; rw [Tr.pl, e2] at hx; rw [Tr.pl, e1]; simp at hx ⊢; rcases hx with h | h | h | h | h <;> simp [h]
  · intro x hx
    simp only [List.mem_append, List.mem_cons] at hx
    rcases hx with h | rfl | h
    · exact klt_trans _ _ _ ((srt_n ‹WPre f (.n l p r) new›.srt).2.2.1 x h) c
    · exact c
    · exact e3 x h
end Go.Proofs.Ytcjakgogdbfagaa
