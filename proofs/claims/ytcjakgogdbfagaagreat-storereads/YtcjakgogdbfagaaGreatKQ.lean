/- Layer 11: a transaction's Next. -/
import Derived.Test.YtcjakgogdbfagaaGreatQZ
namespace Go.Proofs.YtcjakgogdbfagaaGreat
open Go.RowKit
theorem nextL_no {L : Kvs} {k : Bt} : nextL L k = none → ∀ x ∈ L, ¬ klt k x.1 := by
  induction L with
  | nil => intro _ x hx; cases hx
  | cons y L ih =>
    obtain ⟨a, b⟩ := y
    unfold nextL
    split
    · intro h; cases h
    · rename_i hn
      intro h x hx
      rcases List.mem_cons.1 hx with e | e
      · rw [e]; exact hn
      · exact ih h x e
theorem nextL_yes {L : Kvs} (s : SrtL L) {k q : Bt} : nextL L k = some q → (getL L q).isSome ∧ klt k q ∧ ∀ x ∈ L, klt k x.1 → ¬ klt x.1 q := by
  induction L with
  | nil => intro h; cases h
  | cons y L ih =>
    obtain ⟨a, b⟩ := y
    obtain ⟨s1, s2⟩ := srt_cons s
    unfold nextL
    split
    · rename_i hk
      intro h
      injection h with h
      subst h
      refine ⟨by rw [getL, if_pos rfl]; rfl, hk, fun x hx _ => ?_⟩
      rcases List.mem_cons.1 hx with e | e
      · rw [e]; exact klt_irr a
      · exact klt_asymm (s2 x e)
    · rename_i hn
      intro h
      obtain ⟨h1, h2, h3⟩ := ih s1 h
      refine ⟨?_, h2, fun x hx hkx => ?_⟩
      · rw [getL]
        split
        · rfl
        · exact h1
      · rcases List.mem_cons.1 hx with e | e
        · rw [e] at hkx; exact absurd hkx hn
        · exact h3 x e hkx
theorem mem_get {L : Kvs} {x : Bt × Bt} (s : SrtL L) (h : x ∈ L) : (getL L x.1).isSome := by rw [getL_some s (k := x.1) (v := x.2) h]; rfl
theorem get_mem {L : Kvs} {k : Bt} (h : (getL L k).isSome) : ∃ x ∈ L, x.1 = k := by
  obtain ⟨v, hv⟩ := Option.isSome_iff_exists.1 h
  exact ⟨(k, v), getL_mem hv, rfl⟩
/-- The least key above, by what it is. -/
theorem next_is {M : Kvs} (s : SrtL M) {k q : Bt} (h1 : (getL M q).isSome) (h2 : klt k q) (h3 : ∀ x ∈ M, klt k x.1 → ¬ klt x.1 q) : nextL M k = some q := by
  cases e : nextL M k with
  | none =>
    obtain ⟨x, hx, rfl⟩ := get_mem h1
    exact absurd h2 (nextL_no e x hx)
  | some p =>
    obtain ⟨p1, p2, p3⟩ := nextL_yes s e
    by_cases hpq : p = q
    · rw [hpq]
    · obtain ⟨x, hx, ex⟩ := get_mem h1
      obtain ⟨y, hy, ey⟩ := get_mem p1
      rcases klt_tot p q hpq with c | c
      · exact absurd (by rw [ey]; exact c) (h3 y hy (by rw [ey]; exact p2))
      · exact absurd (by rw [ex]; exact c) (p3 x hx (by rw [ex]; exact h2))
theorem next_not {M : Kvs} (s : SrtL M) {k : Bt} (h : ∀ x ∈ M, ¬ klt k x.1) : nextL M k = none := by
  cases e : nextL M k with
  | none => rfl
  | some p =>
    obtain ⟨p1, p2, _⟩ := nextL_yes s e
    obtain ⟨y, hy, ey⟩ := get_mem p1
    exact absurd (by rw [ey]; exact p2) (h y hy)
/-- While wiped keys are passed by: all that lies between is wiped. -/
def Pass (L D : Kvs) (k : Bt) : Option Bt → Prop
  | none => ∀ x ∈ L, klt k x.1 → (getL D x.1).isSome
  | some q => (getL L q).isSome ∧ klt k q ∧ ∀ x ∈ L, klt k x.1 → klt x.1 q → (getL D x.1).isSome
theorem pass_start {L D : Kvs} (s : SrtL L) (k : Bt) : Pass L D k (nextL L k) := by
  cases e : nextL L k with
  | none => exact fun x hx h => absurd h (nextL_no e x hx)
  | some q =>
    obtain ⟨h1, h2, h3⟩ := nextL_yes s e
    exact ⟨h1, h2, fun x hx hk hq => absurd hq (h3 x hx hk)⟩
theorem pass_step {L D : Kvs} (s : SrtL L) {k q : Bt} (h : Pass L D k (some q)) (hd : (getL D q).isSome) : Pass L D k (nextL L q) := by
  obtain ⟨h1, h2, h3⟩ := h
  have key : ∀ x ∈ L, klt k x.1 → ¬ klt q x.1 → (getL D x.1).isSome := fun x hx hk hq => by
    by_cases e : x.1 = q
    · rw [e]; exact hd
    · rcases klt_tot _ _ e with c | c
      · exact h3 x hx hk c
      · exact absurd c hq
  cases e : nextL L q with
  | none => exact fun x hx hk => key x hx hk (nextL_no e x hx)
  | some p =>
    obtain ⟨p1, p2, p3⟩ := nextL_yes s e
    exact ⟨p1, klt_trans _ _ _ h2 p2, fun x hx hk hp => key x hx hk fun hq => p3 x hx hq hp⟩
theorem shows_some {L S D M : Kvs} (h : Shows L S D M) (k : Bt) : (getL M k).isSome ↔ (getL S k).isSome ∨ ((getL L k).isSome ∧ getL D k = none) := by
  rw [h.get, loadL]
  constructor
  · intro e
    split at e
    · cases e
    · rename_i hd
      have hd2 : getL D k = none := by cases x : getL D k; rfl; rw [x] at hd; exact absurd rfl hd
      split at e
      · rename_i v hv; left; rw [hv]; rfl
      · exact .inr ⟨e, hd2⟩
  · rintro (e | ⟨e, e2⟩)
    · rw [h.ap k e]
      simp only [Option.isSome_none, Bool.false_eq_true, if_false]
      obtain ⟨v, hv⟩ := Option.isSome_iff_exists.1 e
      rw [hv]; rfl
    · rw [e2]
      simp only [Option.isSome_none, Bool.false_eq_true, if_false]
      split
      · rfl
      · exact e
/-- What Next answers. -/
def pickN (r1 r2 : Option Bt) : Option Bt := match r2 with
  | none => r1
  | some s => match r1 with
    | none => some s
    | some a => if klt a s then some a else some s
theorem next_shown {L S D M : Kvs} (h : Shows L S D M) (sS : SrtL S) {k : Bt} {r1 : Option Bt} (hp : Pass L D k r1) (hx : ∀ q, r1 = some q → getL D q = none) : pickN r1 (nextL S k) = nextL M k := by
  have hm := shows_some h
  have mem : ∀ x ∈ M, klt k x.1 → (∃ y ∈ S, y.1 = x.1) ∨ (∃ y ∈ L, y.1 = x.1 ∧ getL D x.1 = none) := fun x hxm _ => by
    rcases (hm x.1).1 (mem_get h.srt hxm) with e | ⟨e, e2⟩
    · exact .inl (get_mem e)
    · obtain ⟨y, hy, ey⟩ := get_mem e
      exact .inr ⟨y, hy, ey, e2⟩
  have nolow : ∀ q, r1 = some q → ∀ x ∈ L, klt k x.1 → getL D x.1 = none → ¬ klt x.1 q := fun q e x hx2 hk hd hq => by
    rw [e] at hp
    have := hp.2.2 x hx2 hk hq
    rw [hd] at this
    cases this
  have nolow0 : r1 = none → ∀ x ∈ L, klt k x.1 → getL D x.1 = none → False := fun e x hx2 hk hd => by
    rw [e] at hp
    have := hp x hx2 hk
    rw [hd] at this
    cases this
  unfold pickN
  cases es : nextL S k with
  | none =>
    have hS := nextL_no es
    cases e1 : r1 with
    | none =>
      refine (next_not h.srt fun x hxm hk => ?_).symm
      rcases mem x hxm hk with ⟨y, hy, ey⟩ | ⟨y, hy, ey, hd⟩
      · exact hS y hy (by rw [ey]; exact hk)
      · exact nolow0 e1 y hy (by rw [ey]; exact hk) (by rw [ey]; exact hd)
    | some q =>
      have hp2 := hp
      rw [e1] at hp2
      refine (next_is h.srt ((hm q).2 (.inr ⟨hp2.1, hx q e1⟩)) hp2.2.1 fun x hxm hk hq => ?_).symm
      rcases mem x hxm hk with ⟨y, hy, ey⟩ | ⟨y, hy, ey, hd⟩
      · exact hS y hy (by rw [ey]; exact hk)
      · exact nolow q e1 y hy (by rw [ey]; exact hk) (by rw [ey]; exact hd) (by rw [ey]; exact hq)
  | some t =>
    obtain ⟨t1, t2, t3⟩ := nextL_yes sS es
    cases e1 : r1 with
    | none =>
      refine (next_is h.srt ((hm t).2 (.inl t1)) t2 fun x hxm hk hq => ?_).symm
      rcases mem x hxm hk with ⟨y, hy, ey⟩ | ⟨y, hy, ey, hd⟩
      · exact t3 y hy (by rw [ey]; exact hk) (by rw [ey]; exact hq)
      · exact nolow0 e1 y hy (by rw [ey]; exact hk) (by rw [ey]; exact hd)
    | some q =>
      have hp2 := hp
      rw [e1] at hp2
      simp only
      split
      · rename_i hlt
        refine (next_is h.srt ((hm q).2 (.inr ⟨hp2.1, hx q e1⟩)) hp2.2.1 fun x hxm hk hq => ?_).symm
        rcases mem x hxm hk with ⟨y, hy, ey⟩ | ⟨y, hy, ey, hd⟩
        · exact t3 y hy (by rw [ey]; exact hk) (by rw [ey]; exact klt_trans _ _ _ hq hlt)
        · exact nolow q e1 y hy (by rw [ey]; exact hk) (by rw [ey]; exact hd) (by rw [ey]; exact hq)
      · rename_i hlt
        refine (next_is h.srt ((hm t).2 (.inl t1)) t2 fun x hxm hk hq => ?_).symm
        rcases mem x hxm hk with ⟨y, hy, ey⟩ | ⟨y, hy, ey, hd⟩
        · exact t3 y hy (by rw [ey]; exact hk) (by rw [ey]; exact hq)
        · refine nolow q e1 y hy (by rw [ey]; exact hk) (by rw [ey]; exact hd) ?_
          rw [ey]
          by_cases e : q = t
          · rw [e]; exact hq
          · rcases klt_tot _ _ e with c | c
            · exact absurd c hlt
            · exact klt_trans _ _ _ hq c
def strOf : Value → Bt
  | .string s => s.data.toList
  | _ => []
def boolOf : Value → Bool
  | .bool b => b
  | _ => false
/-- How many keys are above. -/
def upN (L : Kvs) (k : Bt) : Nat := (L.filter fun x => decide (klt k x.1)).length
theorem up_less {L : Kvs} (s : SrtL L) {k q : Bt} (h : nextL L k = some q) : upN L q < upN L k := by
  obtain ⟨h1, h2, h3⟩ := nextL_yes s h
  obtain ⟨x, hx, ex⟩ := get_mem h1
  have := filter_less (p := fun x : Bt × Bt => decide (klt q x.1)) (q := fun x : Bt × Bt => decide (klt k x.1)) L (fun y _ hy => decide_eq_true (klt_trans _ _ _ h2 (of_decide_eq_true hy))) ⟨x, hx, decide_eq_true (by rw [ex]; exact h2), decide_eq_false (by rw [ex]; exact klt_irr q)⟩
  unfold upN
  omega
def upV (L : Kvs) (kv bv : Value) : Nat := if boolOf bv then upN L (strOf kv) + 1 else 0
theorem upV_some (L : Kvs) (q : Bt) : upV L (sv q) (.bool true) = upN L q + 1 := rfl
theorem upV_next {L : Kvs} (s : SrtL L) (q : Bt) : upV L (sv ((nextL L q).getD [])) (.bool (nextL L q).isSome) < upV L (sv q) (.bool true) := by
  cases e : nextL L q with
  | none => rw [upV_some]; show 0 < _; omega
  | some p =>
    have := up_less s e
    rw [upV_some]
    show upN L p + 1 < _
    omega
end Go.Proofs.YtcjakgogdbfagaaGreat
