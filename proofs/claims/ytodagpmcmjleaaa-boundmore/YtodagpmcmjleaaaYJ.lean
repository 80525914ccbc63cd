/- Layer 9, plainly: the bound is monotone. -/
import Derived.Test.YtodagpmcmjleaaaYD
namespace Go.Proofs.Ytodagpmcmjleaaa
def optLe : Option Nat → Option Nat → Prop
  | none, none => True
  | some y, some z => y ≤ z
  | _, _ => False
/-- One level is not above the other. -/
def levLe (b c : Lev) : Prop := b.l = c.l ∧ (b.l = true → b.t.toNat ≤ c.t.toNat) ∧ b.s ≤ c.s ∧ optLe b.e c.e
inductive StkLe : List Lev → List Lev → Prop
  | nil : StkLe [] []
  | cons {b c : Lev} {S T : List Lev} : levLe b c → StkLe S T → StkLe (b :: S) (c :: T)
theorem optLe_refl : ∀ e : Option Nat, optLe e e
  | none => trivial
  | some _ => Nat.le_refl _
theorem levLe_refl (b : Lev) : levLe b b := ⟨rfl, fun _ => Nat.le_refl _, Nat.le_refl _, optLe_refl _⟩
theorem StkLe.refl : ∀ S : List Lev, StkLe S S
  | [] => .nil
  | b :: S => .cons (levLe_refl b) (StkLe.refl S)
theorem closed_mono {b c : Lev} (h : levLe b c) : closed9 b ≤ closed9 c := by
  obtain ⟨h1, h2, h3, h4⟩ := h
  unfold closed9
  rw [← h1]
  cases hl : b.l with
  | true =>
    simp only [if_true]
    apply cut_mono
    have := h2 hl
    have hm : min b.t.toNat TM * cut (b.s + costN 50) ≤ min c.t.toNat TM * cut (c.s + costN 50) := Nat.mul_le_mul (by omega) (cut_mono (by omega))
    have := cut_mono hm
    omega
  | false =>
    simp only [Bool.false_eq_true, if_false]
    have hs := cut_mono (show b.s + costN 50 ≤ c.s + costN 50 by omega)
    cases eb : b.e with
    | none =>
      cases ec : c.e with
      | none => exact cut_mono (by omega)
      | some z => rw [eb, ec] at h4; exact h4.elim
    | some y =>
      cases ec : c.e with
      | none => rw [eb, ec] at h4; exact h4.elim
      | some z =>
        rw [eb, ec] at h4
        have h4 : y ≤ z := h4
        exact cut_mono (by show costN 48 + max y (cut (b.s + costN 50)) ≤ costN 48 + max z (cut (c.s + costN 50)); omega)
theorem lstep_mono {cal cal' : List Int} (hc : ∀ i, (cal.getD i 0).toNat ≤ (cal'.getD i 0).toNat) {x x' : Int × Int} (h1 : x.1 = x'.1) (h2 : x.1 = 53 → x.2 = x'.2) (h3 : x.1 = 51 → x.2.toNat ≤ x'.2.toNat) {S T : List Lev} (h : StkLe S T) : StkLe (lstep cal x S) (lstep cal' x' T) := by
  cases h with
  | nil => exact .nil
  | @cons b c S T hb hS =>
    have hb' := hb
    obtain ⟨q1, q2, q3, q4⟩ := hb'
    rcases (show x.1 = 49 ∨ x.1 = 50 ∨ x.1 = 53 ∨ (x.1 = 48 ∨ x.1 = 51) ∨ (x.1 ≠ 48 ∧ x.1 ≠ 49 ∧ x.1 ≠ 50 ∧ x.1 ≠ 51 ∧ x.1 ≠ 53) by omega) with hx | hx | hx | hx | ⟨x1, x2, x3, x4, x5⟩
    · rw [lstep_else hx, lstep_else (h1 ▸ hx)]
      exact .cons ⟨q1, q2, Nat.le_refl _, cut_mono (by omega)⟩ hS
    · cases hS with
      | nil =>
        have e1 : lstep cal x [b] = [b] := by simp only [lstep]; rw [if_neg (by omega), if_neg (by omega), if_pos hx]
        have e2 : lstep cal' x' [c] = [c] := by simp only [lstep]; rw [if_neg (by omega), if_neg (by omega), if_pos (h1 ▸ hx)]
        rw [e1, e2]
        exact .cons hb .nil
      | @cons p p' R R' hp hR =>
        rw [lstep_end hx, lstep_end (h1 ▸ hx)]
        have := closed_mono hb
        obtain ⟨p1, p2, p3, p4⟩ := hp
        exact .cons ⟨p1, p2, cut_mono (by omega), p4⟩ hR
    · rw [lstep_call hx, lstep_call (h1 ▸ hx)]
      have := hc x.2.toNat
      rw [← h2 hx]
      exact .cons ⟨q1, q2, cut_mono (by omega), q4⟩ hS
    · rw [lstep_open hx, lstep_open (h1 ▸ hx), ← h1]
      refine .cons ⟨rfl, fun hl => ?_, Nat.le_refl _, trivial⟩ (.cons hb hS)
      exact h3 (by simpa using hl)
    · rw [lstep_plain x1 x2 x3 x4 x5, lstep_plain (h1 ▸ x1) (h1 ▸ x2) (h1 ▸ x3) (h1 ▸ x4) (h1 ▸ x5), ← h1]
      exact .cons ⟨q1, q2, cut_mono (by omega), q4⟩ hS
theorem lrun_mono {cal cal' : List Int} (hc : ∀ i, (cal.getD i 0).toNat ≤ (cal'.getD i 0).toNat) (cs : List (Int × Int)) {S T : List Lev} (h : StkLe S T) : StkLe (lrun cal cs S) (lrun cal' cs T) := by
  induction cs generalizing S T with
  | nil => exact h
  | cons x cs ih => exact ih (lstep_mono hc rfl (fun _ => rfl) (fun _ => Nat.le_refl _) h)
def topS : List Lev → Nat
  | [b] => b.s
  | _ => 0
theorem gas_top (cal : List Int) (cs : List (Int × Int)) : gasS cal cs = topS (lrun cal cs [base0]) := by
  rw [gasS]
  generalize lrun cal cs [base0] = S
  cases S with
  | nil => rfl
  | cons b R => cases R <;> rfl
theorem top_mono {S T : List Lev} (h : StkLe S T) : topS S ≤ topS T := by
  cases h with
  | nil => exact Nat.le_refl _
  | cons hb hS =>
    cases hS with
    | nil => exact hb.2.2.1
    | cons _ _ => exact Nat.le_refl _
/-- With greater bounds of what is called a bound is not less. -/
theorem gas_callees {cal cal' : List Int} (hc : ∀ i, (cal.getD i 0).toNat ≤ (cal'.getD i 0).toNat) (cs : List (Int × Int)) : gasS cal cs ≤ gasS cal' cs := by
  rw [gas_top, gas_top]
  exact top_mono (lrun_mono hc cs (StkLe.refl _))
/-- With more rounds of one loop a bound is not less. -/
theorem gas_rounds (cal : List Int) (a b : List (Int × Int)) (t t' : Int) (h : t.toNat ≤ t'.toNat) : gasS cal (a ++ (51, t) :: b) ≤ gasS cal (a ++ (51, t') :: b) := by
  have hr : ∀ i, (cal.getD i 0).toNat ≤ (cal.getD i 0).toNat := fun _ => Nat.le_refl _
  rw [gas_top, gas_top, lrun_append, lrun_append]
  exact top_mono (lrun_mono hr b (lstep_mono (x := (51, t)) (x' := (51, t')) hr rfl (fun e => by cases e) (fun _ => h) (StkLe.refl _)))
/-- All sums are cut. -/
def stkOk (S : List Lev) : Prop := ∀ b ∈ S, b.s ≤ TM
theorem lstep_ok {cal : List Int} {x : Int × Int} {S : List Lev} (h : stkOk S) : stkOk (lstep cal x S) := by
  cases S with
  | nil => exact h
  | cons b R =>
    have hb : b.s ≤ TM := h b (by simp)
    have hR : ∀ c ∈ R, c.s ≤ TM := fun c hc => h c (by simp [hc])
    simp only [lstep]
    split
    · intro c hc
      rcases List.mem_cons.1 hc with rfl | hc
      · exact Nat.zero_le _
      · exact h c hc
    · split
      · intro c hc
        rcases List.mem_cons.1 hc with rfl | hc
        · exact Nat.zero_le _
        · exact hR c hc
      · split
        · cases R with
          | nil => intro c hc; rcases List.mem_singleton.1 hc with rfl; exact hb
          | cons p q =>
            intro c hc
            rcases List.mem_cons.1 hc with rfl | hc
            · exact cut_le _
            · exact hR c (by simp [hc])
        · split <;>
          · intro c hc
            rcases List.mem_cons.1 hc with rfl | hc
            · exact cut_le _
            · exact hR c hc
theorem lrun_ok {cal : List Int} (cs : List (Int × Int)) {S : List Lev} (h : stkOk S) : stkOk (lrun cal cs S) := by
  induction cs generalizing S with
  | nil => exact h
  | cons x cs ih => exact ih (lstep_ok h)
/-- With one instruction more, that is not of blocks and no call, a bound is not less. -/
theorem gas_more (cal : List Int) (a b : List (Int × Int)) (x : Int × Int) (x1 : x.1 ≠ 48) (x2 : x.1 ≠ 49) (x3 : x.1 ≠ 50) (x4 : x.1 ≠ 51) (x5 : x.1 ≠ 53) : gasS cal (a ++ b) ≤ gasS cal (a ++ x :: b) := by
  have hr : ∀ i, (cal.getD i 0).toNat ≤ (cal.getD i 0).toNat := fun _ => Nat.le_refl _
  have ok : stkOk (lrun cal a [base0]) := lrun_ok a (fun c hc => by rcases List.mem_singleton.1 hc with rfl; exact Nat.zero_le _)
  rw [gas_top, gas_top, lrun_append, lrun_append]
  refine top_mono (lrun_mono hr b ?_)
  generalize lrun cal a [base0] = S at ok
  cases S with
  | nil => exact .nil
  | cons c R =>
    show StkLe _ (lstep cal x (c :: R))
    rw [lstep_plain x1 x2 x3 x4 x5]
    refine .cons ⟨rfl, fun _ => Nat.le_refl _, ?_, optLe_refl _⟩ (StkLe.refl R)
    have := ok c (by simp)
    show c.s ≤ cut (c.s + costN x.1)
    unfold cut
    omega
end Go.Proofs.Ytodagpmcmjleaaa
