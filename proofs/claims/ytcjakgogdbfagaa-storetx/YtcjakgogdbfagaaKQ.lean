/- Layer 11: a transaction's Next. -/
import Derived.Test.YtcjakgogdbfagaaQZ
namespace Go.Proofs.Ytcjakgogdbfagaa
open Go.RowKit
theorem nextL_no {L : Kvs} {k : Bt} : nextL L k = none → ∀ x ∈ L, ¬ klt k x.1 := by
  induction L with
  | nil => intro _ x hx; cases hx
  | cons y L ih =>
    obtain ⟨a, b⟩ := y
    unfold nextL
    split
    · intro h; cases h
    · rename_i hn
      intro h x hx
      rcases List.mem_cons.1 hx with e | e
      · rw [e]; exact hn
      · exact ih h x e
theorem nextL_yes {L : Kvs} (s : SrtL L) {k q : Bt} : nextL L k = some q → (getL L q).isSome ∧ klt k q ∧ ∀ x ∈ L, klt k x.1 → ¬ klt x.1 q := by
  induction L with
  | nil => intro h; cases h
  | cons y L ih =>
    obtain ⟨a, b⟩ := y
    obtain ⟨s1, s2⟩ := srt_cons s
    unfold nextL
    split
    · rename_i hk
      intro h
      injection h with h
      subst h
      refine ⟨by rw [getL, if_pos rfl]; rfl, hk, fun x hx _ => ?_⟩
      rcases List.mem_cons.1 hx with e | e
      · rw [e]; exact klt_irr a
      · exact klt_asymm (s2 x e)
    · rename_i hn
      intro h
      obtain ⟨h1, h2, h3⟩ := ih s1 h
      refine ⟨?_, h2, fun x hx hkx => ?_⟩
      · rw [getL]
        split
        · rfl
        · exact h1
      · rcases List.mem_cons.1 hx with e | e
        · rw [e] at hkx; exact absurd hkx hn
        · exact h3 x e hkx
theorem mem_get {L : Kvs} {x : Bt × Bt} (s : SrtL L) (h : x ∈ L) : (getL L x.1).isSome := by rw [getL_some s (k := x.1) (v := x.2) h]; rfl
theorem get_mem {L : Kvs} {k : Bt} (h : (getL L k).isSome) : ∃ x ∈ L, x.1 = k := by
  obtain ⟨v, hv⟩ := Option.isSome_iff_exists.1 h
  exact ⟨(k, v), getL_mem hv, rfl⟩
/-- The least key above, by what it is. -/
theorem next_is {M : Kvs} (s : SrtL M) {k q : Bt} (h1 : (getL M q).isSome) (h2 : klt k q) (h3 : ∀ x ∈ M, klt k x.1 → ¬ klt x.1 q) : nextL M k = some q := by
  cases e : nextL M k with
  | none =>
    obtain ⟨x, hx, rfl⟩ := get_mem h1
    exact absurd h2 (nextL_no e x hx)
  | some p =>
    obtain ⟨p1, p2, p3⟩ := nextL_yes s e
    by_cases hpq : p = q
    · rw [hpq]
    · obtain ⟨x, hx, ex⟩ := get_mem h1
      obtain ⟨y, hy, ey⟩ := get_mem p1
      rcases klt_tot p q hpq with c | c
      · exact absurd (by rw [ey]; exact c) (h3 y hy (by rw [ey]; exact p2))
      · exact absurd (by rw [ex]; exact c) (p3 x hx (by rw [ex]; exact h2))
theorem next_not {M : Kvs} (s : SrtL M) {k : Bt} (h : ∀ x ∈ M, ¬ klt k x.1) : nextL M k = none := by
  cases e : nextL M k with
  | none => rfl
  | some p =>
    obtain ⟨p1, p2, _⟩ := nextL_yes s e
    obtain ⟨y, hy, ey⟩ := get_mem p1
    exact absurd (by rw [ey]; exact p2) (h y hy)
/-- While wiped keys are passed by: all that lies between is wiped. -/
def Pass (L D : Kvs) (k : Bt) : Option Bt → Prop
  | none => ∀ x ∈ L, klt k x.1 → (getL D x.1).isSome
  | some q => (getL L q).isSome ∧ klt k q ∧ ∀ x ∈ L, klt k x.1 → klt x.1 q → (getL D x.1).isSome
theorem pass_start {L D : Kvs} (s : SrtL L) (k : Bt) : Pass L D k (nextL L k) := by
  cases e : nextL L k with
  | none => exact fun x hx h => absurd h (nextL_no e x hx)
  | some q =>
    obtain ⟨h1, h2, h3⟩ := nextL_yes s e
    exact ⟨h1, h2, fun x hx hk hq => absurd hq (h3 x hx hk)⟩
theorem pass_step {L D : Kvs} (s : SrtL L) {k q : Bt} (h : Pass L D k (some q)) (hd : (getL D q).isSome) : Pass L D k (nextL L q) := by
  obtain ⟨h1, h2, h3⟩ := h
  have key : ∀ x ∈ L, klt k x.1 → ¬ klt q x.1 → (getL D x.1).isSome := fun x hx hk hq => by
    by_cases e : x.1 = q
    · rw [e]; exact hd
    · rcases klt_tot _ _ e with c | c
      · exact h3 x hx hk c
      · exact absurd c hq
  cases e : nextL L q with
  | none => exact fun x hx hk => key x hx hk (nextL_no e x hx)
  | some p =>
    obtain ⟨p1, p2, p3⟩ := nextL_yes s e
    exact ⟨p1, klt_trans _ _ _ h2 p2, fun x hx hk hp => key x hx hk fun hq => p3 x hx hq hp⟩
theorem shows_some {L S D M : Kvs} (h : Shows L S D M) (k : Bt) : (getL M k).isSome ↔ (getL S k).isSome ∨ ((getL L k).isSome ∧ getL D k = none) := by
  rw [h.get, loadL]
  constructor
  · intro e
    split at e
    · cases e
    · rename_i hd
      have hd2 : getL D k = none := by cases x : getL D k; rfl; rw [x] at hd; exact absurd rfl hd
      split at e
      · rename_i v hv; left; rw [hv]; rfl
      · exact .inr ⟨e, hd2⟩
  · rintro (e | ⟨e, e2⟩)
    · rw [h.ap k e]
      simp only [Option.isSome_none, Bool.false_eq_true, if_false]
      obtain ⟨v, hv⟩ := Option.isSome_iff_exists.1 e
      rw [hv]; rfl
    · rw [e2]
      simp only [Option.isSome_none, Bool.false_eq_true, if_false]
      split
      · rfl
      · exact e
/-- What Next answers. -/
def pickN (r1 r2 : Option Bt) : Option Bt := match r2 with
  | none => r1
  | some s => match r1 with
    | none => some s
    | some a => if klt a s then some a else some s
theorem next_shown {L S D M : Kvs} (h : Shows L S D M) (sS : SrtL S) {k : Bt} {r1 : Option Bt} (hp : Pass L D k r1) (hx : ∀ q, r1 = some q → getL D q = none) : pickN r1 (nextL S k) = nextL M k := by
  have hm := shows_some h
  have mem : ∀ x ∈ M, klt k x.1 → (∃ y ∈ S, y.1 = x.1) ∨ (∃ y ∈ L, y.1 = x.1 ∧ getL D x.1 = none) := fun x hxm _ => by
    rcases (hm x.1).1 (mem_get h.srt hxm) with e | ⟨e, e2⟩
    · exact .inl (get_mem e)
    · obtain ⟨y, hy, ey⟩ := get_mem e
      exact .inr ⟨y, hy, ey, e2⟩
  have nolow : ∀ q, r1 = some q → ∀ x ∈ L, klt k x.1 → getL D x.1 = none → ¬ klt x.1 q := fun q e x hx2 hk hd hq => by
    rw [e] at hp
    have := hp.2.2 x hx2 hk hq
    rw [hd] at this
    cases this
  have nolow0 : r1 = none → ∀ x ∈ L, klt k x.1 → getL D x.1 = none → False := fun e x hx2 hk hd => by
    rw [e] at hp
    have := hp x hx2 hk
    rw [hd] at this
    cases this
  unfold pickN
  cases es : nextL S k with
  | none =>
    have hS := nextL_no es
    cases e1 : r1 with
    | none =>
      refine (next_not h.srt fun x hxm hk => ?_).symm
      rcases mem x hxm hk with ⟨y, hy, ey⟩ | ⟨y, hy, ey, hd⟩
      · exact hS y hy (by rw [ey]; exact hk)
      · exact nolow0 e1 y hy (by rw [ey]; exact hk) (by rw [ey]; exact hd)
    | some q =>
      have hp2 := hp
      rw [e1] at hp2
      refine (next_is h.srt ((hm q).2 (.inr ⟨hp2.1, hx q e1⟩)) hp2.2.1 fun x hxm hk hq => ?_).symm
      rcases mem x hxm hk with ⟨y, hy, ey⟩ | ⟨y, hy, ey, hd⟩
      · exact hS y hy (by rw [ey]; exact hk)
      · exact nolow q e1 y hy (by rw [ey]; exact hk) (by rw [ey]; exact hd) (by rw [ey]; exact hq)
  | some t =>
    obtain ⟨t1, t2, t3⟩ := nextL_yes sS es
    cases e1 : r1 with
    | none =>
      refine (next_is h.srt ((hm t).2 (.inl t1)) t2 fun x hxm hk hq => ?_).symm
      rcases mem x hxm hk with ⟨y, hy, ey⟩ | ⟨y, hy, ey, hd⟩
      · exact t3 y hy (by rw [ey]; exact hk) (by rw [ey]; exact hq)
      · exact nolow0 e1 y hy (by rw [ey]; exact hk) (by rw [ey]; exact hd)
    | some q =>
      have hp2 := hp
      rw [e1] at hp2
      simp only
      split
      · rename_i hlt
        refine (next_is h.srt ((hm q).2 (.inr ⟨hp2.1, hx q e1⟩)) hp2.2.1 fun x hxm hk hq => ?_).symm
        rcases mem x hxm hk with ⟨y, hy, ey⟩ | ⟨y, hy, ey, hd⟩
        · exact t3 y hy (by rw [ey]; exact hk) (by rw [ey]; exact klt_trans _ _ _ hq hlt)
        · exact nolow q e1 y hy (by rw [ey]; exact hk) (by rw [ey]; exact hd) (by rw [ey]; exact hq)
      · rename_i hlt
        refine (next_is h.srt ((hm t).2 (.inl t1)) t2 fun x hxm hk hq => ?_).symm
        rcases mem x hxm hk with ⟨y, hy, ey⟩ | ⟨y, hy, ey, hd⟩
        · exact t3 y hy (by rw [ey]; exact hk) (by rw [ey]; exact hq)
        · refine nolow q e1 y hy (by rw [ey]; exact hk) (by rw [ey]; exact hd) ?_
          rw [ey]
          by_cases e : q = t
          · rw [e]; exact hq
          · rcases klt_tot _ _ e with c | c
            · exact absurd c hlt
            · exact klt_trans _ _ _ hq c
def strOf : Value → Bt
  | .string s => s.data.toList
  | _ => []
def boolOf : Value → Bool
  | .bool b => b
  | _ => false
/-- How many keys are above. -/
def upN (L : Kvs) (k : Bt) : Nat := (L.filter fun x => decide (klt k x.1)).length
theorem up_less {L : Kvs} (s : SrtL L) {k q : Bt} (h : nextL L k = some q) : upN L q < upN L k := by
  obtain ⟨h1, h2, h3⟩ := nextL_yes s h
  obtain ⟨x, hx, ex⟩ := get_mem h1
  have := filter_less (p := fun x : Bt × Bt => decide (klt q x.1)) (q := fun x : Bt × Bt => decide (klt k x.1)) L (fun y _ hy => decide_eq_true (klt_trans _ _ _ h2 (of_decide_eq_true hy))) ⟨x, hx, decide_eq_true (by rw [ex]; exact h2), decide_eq_false (by rw [ex]; exact klt_irr q)⟩
  unfold upN
  omega
def upV (L : Kvs) (kv bv : Value) : Nat := if boolOf bv then upN L (strOf kv) + 1 else 0
theorem upV_some (L : Kvs) (q : Bt) : upV L (sv q) (.bool true) = upN L q + 1 := rfl
theorem upV_next {L : Kvs} (s : SrtL L) (q : Bt) : upV L (sv ((nextL L q).getD [])) (.bool (nextL L q).isSome) < upV L (sv q) (.bool true) := by
  cases e : nextL L q with
  | none => rw [upV_some]; show 0 < _; omega
  | some p =>
    have := up_less s e
    rw [upV_some]
    show upN L p + 1 < _
    omega
set_option maxRecDepth 100000 in
set_option maxHeartbeats 1000000 in
theorem txnext_any (b : TxB) (L S D M : Kvs) (more : Int) (w : World) (k : Bt) (h : TxAt b L S D more w) (hM : Shows L S D M) : Calls Try.prog 15 #[.pointer (some ⟨b.xb, 0, none⟩), sv k] w fun e w' => e = .returned (.tuple #[sv ((nextL M k).getD []), .bool (nextL M k).isSome]) ∧ ∃ m, w' = w.drewN m := by
  have HM := hidb (txmade_any b.xb w b.tb h.x0)
  have HN := hidb (next_t b.tb b.g L w k h.t)
  have HT := hidb h
  have sL := h.t.srt
  have HP0 := hidb (pass_start (D := D) sL k)
  have HS0 := hidb fun r1 hp hx => next_shown hM h.s.srt (k := k) (r1 := r1) hp hx
  have x0 := h.x0
  have HsL := hidb sL
  clear h hM sL
  go_enter Try.func15, Try.ntmps15
  go_wp2_with (first
    | (go_at_call 32; refine HM.out.mono ?_; clear HM; rintro e w1 ⟨rfl, rfl⟩)
    | (go_at_call 41; refine HN.out.mono ?_; clear HN; rintro e w2 ⟨rfl, m2, rfl⟩)
    | fail)
  go_loopw [6, 7] (fun kv bv wr => ∃ r1 : Option Bt, kv = sv (r1.getD []) ∧ bv = .bool r1.isSome ∧ Hid (Pass L D k r1) ∧ ∃ m, wr = w1.drewN m) (fun kv bv _ => upV L kv bv)
  case atStart => exact ⟨_, rfl, rfl, HP0, m2, rfl⟩
  case round =>
    obtain ⟨r1, rfl, rfl, HP, m, hwr⟩ := hrel
    have hT : TxAt b L S D more wr := by rw [hwr]; exact HT.out.drewN m
    have z0 := hT.x0
    have z1 := hT.x1
    have y0 := hT.y0
    have y1 := hT.y1
    have HW := hidb hwr
    have HD := hidb fun q => has_t b.wb b.wg D wr q hT.d
    have HS := hidb fun M => next_t b.sb b.sg S (wr.drewN M) k (hT.s.drewN M)
    have HL := hidb fun M q => next_t b.tb b.g L (wr.drewN M) q (hT.t.drewN M)
    clear hT hwr x0
    cases r1 with
    | none =>
      have hans := HS0.out none HP.out (fun q e => by cases e)
      have HA := hidb hans
      clear hans HP0 HP HD HL
      simp only [Option.getD_none, Option.isSome_none]
      cases es : nextL S k with
      | none =>
        rw [es] at HS HA
        simp only [Option.getD_none, Option.isSome_none] at HS
        go_wp2_with (first
          | (go_at_call 41; refine (HS.out 0).mono ?_; clear HS; rintro e w4 ⟨rfl, m4, rfl⟩)
          | fail)
        go_ret2
        exact ⟨by rw [← HA.out]; rfl, _, by rw [HW.out, World.drewN_drewN]⟩
      | some t =>
        rw [es] at HS HA
        simp only [Option.getD_some, Option.isSome_some] at HS
        go_wp2_with (first
          | (go_at_call 41; refine (HS.out 0).mono ?_; clear HS; rintro e w4 ⟨rfl, m4, rfl⟩)
          | fail)
        go_ret2
        exact ⟨by rw [← HA.out]; rfl, _, by rw [HW.out, World.drewN_drewN]⟩
    | some q =>
      cases hd : getL D q with
      | some u =>
        have HD2 := hidb (HD.out q)
        rw [hd] at HD2
        simp only [Option.isSome_some] at HD2
        have HP2 := hidb (pass_step HsL.out HP.out (by rw [hd]; rfl))
        have hup := hidb (upV_next HsL.out q)
        simp only [Option.getD_some, Option.isSome_some]
        have HL2 := hidb fun M => HL.out M q
        clear HD HL HS HP
        generalize nextL L q = r2 at HL2 HP2 hup
        go_wp2_with (first
          | (go_at_call 39; refine HD2.out.mono ?_; clear HD2; rintro e w3 ⟨rfl, m3, rfl⟩)
          | (go_at_call 41; refine (HL2.out _).mono ?_; clear HL2; rintro e w4 ⟨rfl, m4, rfl⟩)
          | fail)
        exact ⟨⟨r2, rfl, rfl, HP2, _, by rw [HW.out, World.drewN_drewN]⟩, hup.out⟩
      | none =>
        have HD2 := hidb (HD.out q)
        rw [hd] at HD2
        simp only [Option.isSome_none] at HD2
        have hans := HS0.out (some q) HP.out (fun p e => by injection e with e; rw [← e]; exact hd)
        have HA := hidb hans
        simp only [Option.getD_some, Option.isSome_some]
        clear hans HP0 HP HD HL
        cases es : nextL S k with
        | none =>
          rw [es] at HS HA
          simp only [Option.getD_none, Option.isSome_none] at HS
          go_wp2_with (first
            | (go_at_call 39; refine HD2.out.mono ?_; clear HD2; rintro e w3 ⟨rfl, m3, rfl⟩)
            | (go_at_call 41; refine (HS.out _).mono ?_; clear HS; rintro e w4 ⟨rfl, m4, rfl⟩)
            | fail)
          go_ret2
          exact ⟨by rw [← HA.out]; rfl, _, by rw [HW.out, World.drewN_drewN]⟩
        | some t =>
          rw [es] at HS HA
          simp only [Option.getD_some, Option.isSome_some] at HS
          by_cases hlt : klt q t
          · have hb : Op.bytesLess q t = true := hlt
            have HA2 : Hid (some q = nextL M k) := hidb (by rw [← HA.out]; unfold pickN; simp only; rw [if_pos hlt])
            clear HA hlt
            go_wp2_with (first
              | (go_at_call 39; refine HD2.out.mono ?_; clear HD2; rintro e w3 ⟨rfl, m3, rfl⟩)
              | (go_at_call 41; refine (HS.out _).mono ?_; clear HS; rintro e w4 ⟨rfl, m4, rfl⟩)
              | fail)
            go_ret2
            exact ⟨by rw [← HA2.out]; rfl, _, by rw [HW.out, World.drewN_drewN]⟩
          · have hb : Op.bytesLess q t = false := by simpa using hlt
            have HA2 : Hid (some t = nextL M k) := hidb (by rw [← HA.out]; unfold pickN; simp only; rw [if_neg hlt])
            clear HA hlt
            go_wp2_with (first
              | (go_at_call 39; refine HD2.out.mono ?_; clear HD2; rintro e w3 ⟨rfl, m3, rfl⟩)
              | (go_at_call 41; refine (HS.out _).mono ?_; clear HS; rintro e w4 ⟨rfl, m4, rfl⟩)
              | fail)
            go_ret2
            exact ⟨by rw [← HA2.out]; rfl, _, by rw [HW.out, World.drewN_drewN]⟩
theorem txnext_i (sx : Nat) (b : TxB) (L M : Kvs) (d : Nat) (w : World) (k : Bt) (h : SX sx b L M d w) : Calls Try.prog 15 #[.pointer (some ⟨b.xb, 0, none⟩), sv k] w fun e w' => e = .returned (.tuple #[sv ((nextL M k).getD []), .bool (nextL M k).isSome]) ∧ ∃ m, w' = w.drewN m := by
  obtain ⟨S, D, h1, h2, h3⟩ := h.tx
  exact txnext_any b L S D M _ w k h1 h2
end Go.Proofs.Ytcjakgogdbfagaa
