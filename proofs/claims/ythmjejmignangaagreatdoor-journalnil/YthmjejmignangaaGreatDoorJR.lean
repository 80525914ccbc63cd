/- Layer 16, plain: record by record comes to the same as part by part. -/
import Derived.Test.YthmjejmignangaaGreatDoorJP
namespace Go.Proofs.YthmjejmignangaaGreatDoor
open Go.RowKit
/-- Is the j-th of these part j of the record that begins with f? -/
def okAt (R : List (Prt × Bool)) (number : Int) (f : Prt) (j : Nat) : Bool := match R[j]? with
  | some x => x.2 && (decide (x.1.n = number) && (decide (x.1.e = f.e) && (decide (x.1.c = f.c) && decide (x.1.i = j))))
  | none => false
/-- The bytes of the first k. -/
def flatR (R : List (Prt × Bool)) (k : Nat) : Bt := (R.take k).flatMap fun x => x.1.b
def headOk (R : List (Prt × Bool)) (number least : Int) (x : Prt × Bool) : Bool := x.2 && (decide (x.1.n = number) && (decide (least ≤ x.1.e) && (decide (x.1.i = 0) && decide (x.1.c ≤ R.length))))
def allOk (R : List (Prt × Bool)) (number : Int) (f : Prt) (k : Nat) : Bool := (List.range k).all fun j => okAt R number f j
/-- The record that begins with these: bytes, how many parts, epoch. -/
def oneR (R : List (Prt × Bool)) (number least : Int) : Option (Bt × Int × Int) := match R with
  | [] => none
  | x :: r => if headOk (x :: r) number least x && allOk (x :: r) number x.1 x.1.c.toNat then some (flatR (x :: r) x.1.c.toNat, x.1.c, x.1.e) else none
theorem oneR_head {R : List (Prt × Bool)} {x : Prt × Bool} (h : R[0]? = some x) (number least : Int) : oneR R number least = if headOk R number least x && allOk R number x.1 x.1.c.toNat then some (flatR R x.1.c.toNat, x.1.c, x.1.e) else none := by
  cases R with
  | nil => cases h
  | cons y r => cases h; rfl
theorem oneR_bad {R : List (Prt × Bool)} {x : Prt × Bool} (h : R[0]? = some x) {number least : Int} (hb : headOk R number least x = false) : oneR R number least = none := by
  rw [oneR_head h, hb]; rfl
theorem oneR_bad2 {R : List (Prt × Bool)} {x : Prt × Bool} (h : R[0]? = some x) {number least : Int} {j : Nat} (hj : (j : Int) < x.1.c) (hb : okAt R number x.1 j = false) : oneR R number least = none := by
  rw [oneR_head h, if_neg]
  rw [Bool.and_eq_true]
  rintro ⟨_, h2⟩
  have := (List.all_eq_true.1 h2) j (by simp; omega)
  rw [hb] at this
  cases this
theorem allOk_iff {R : List (Prt × Bool)} {number : Int} {f : Prt} {k : Nat} : allOk R number f k = true ↔ ∀ j < k, okAt R number f j = true := by
  unfold allOk
  rw [List.all_eq_true]
  simp
theorem okAt_facts {R : List (Prt × Bool)} {number : Int} {f : Prt} {j : Nat} (h : okAt R number f j = true) : ∃ x, R[j]? = some x ∧ x.2 = true ∧ x.1.n = number ∧ x.1.e = f.e ∧ x.1.c = f.c ∧ x.1.i = j := by
  unfold okAt at h
  split at h
  · rename_i x hx
    simp only [Bool.and_eq_true, decide_eq_true_eq] at h
    exact ⟨x, hx, h.1, h.2.1, h.2.2.1, h.2.2.2.1, h.2.2.2.2⟩
  · cases h
theorem okAt_of {R : List (Prt × Bool)} {j : Nat} {x : Prt × Bool} (h : R[j]? = some x) (number : Int) (f : Prt) : okAt R number f j = (x.2 && (decide (x.1.n = number) && (decide (x.1.e = f.e) && (decide (x.1.c = f.c) && decide (x.1.i = j))))) := by
  unfold okAt
  rw [h]
theorem allOk_succ {R : List (Prt × Bool)} {number : Int} {f : Prt} {k : Nat} (h : allOk R number f k = true) (h2 : okAt R number f k = true) : allOk R number f (k + 1) = true := allOk_iff.2 fun j hj => by
  by_cases e : j = k
  · rw [e]; exact h2
  · exact allOk_iff.1 h j (by omega)
theorem flatR_succ {R : List (Prt × Bool)} {k : Nat} {x : Prt × Bool} (h : R[k]? = some x) : flatR R (k + 1) = flatR R k ++ x.1.b := by
  unfold flatR
  rw [List.take_add_one, h]
  simp
/-- In the midst of a record, k of its parts are told. -/
theorem tRun_mid (number : Int) (f : Prt) (R : List (Prt × Bool)) (rs : List Bt) (en : Int) : ∀ (m k : Nat) (a : Prt), (k : Int) + m = f.c → 1 ≤ m → 1 ≤ k → a.i = (k : Int) - 1 → a.e = f.e → a.n = number → a.c = f.c →
    ((∀ j, k ≤ j → j < k + m → okAt R number f j = true) → ∃ a', tRun ⟨a, flatR R k, rs, en⟩ (R.drop k) = tRun ⟨a', flatR R (k + m), rs ++ [flatR R (k + m)], en + f.c⟩ (R.drop (k + m)) ∧ a'.last = true ∧ a'.n = number ∧ a'.e = f.e) ∧
    (¬ (∀ j, k ≤ j → j < k + m → okAt R number f j = true) → (tRun ⟨a, flatR R k, rs, en⟩ (R.drop k)).rs = rs ∧ (tRun ⟨a, flatR R k, rs, en⟩ (R.drop k)).en = en) := by
  intro m
  induction m with
  | zero => intro k a h1 h2; omega
  | succ m ih =>
    intro k a h1 _ hk ha1 ha2 ha3 ha4
    have hal : a.last = false := by
      unfold Prt.last
      exact decide_eq_false (by omega)
    cases hR : R[k]? with
    | none =>
      have hd : R.drop k = [] := List.drop_eq_nil_of_le (List.getElem?_eq_none_iff.1 hR)
      rw [hd]
      exact ⟨fun h => (by have := okAt_facts (h k (Nat.le_refl _) (by omega)); rw [hR] at this; obtain ⟨x, hx, _⟩ := this; cases hx), fun _ => ⟨rfl, rfl⟩⟩
    | some x =>
      have hlt := (List.getElem?_eq_some_iff.1 hR).1
      have hx := (List.getElem?_eq_some_iff.1 hR).2
      have hd : R.drop k = x :: R.drop (k + 1) := by rw [← hx]; exact List.drop_eq_getElem_cons hlt
      have htok : tOk ⟨a, flatR R k, rs, en⟩ x = okAt R number f k := by
        unfold tOk okAt Prt.fol
        rw [hR, hal]
        simp only [Bool.false_eq_true, if_false]
        rw [Bool.eq_iff_iff]
        simp only [Bool.and_eq_true, decide_eq_true_eq, ha2, ha3, ha4]
        exact ⟨fun ⟨q1, q2, q3, q4, q5⟩ => ⟨q1, q4, q3, q5, by omega⟩, fun ⟨q1, q2, q3, q4, q5⟩ => ⟨q1, by omega, q3, q2, q4⟩⟩
      rw [hd]
      by_cases hok : okAt R number f k = true
      · obtain ⟨x', hx', f1, f2, f3, f4, f5⟩ := okAt_facts hok
        rw [hR] at hx'
        cases hx'
        have hrec : recN ⟨a, flatR R k, rs, en⟩ x.1 = flatR R (k + 1) := by
          unfold recN
          rw [if_neg (by omega), flatR_succ hR]
        simp only [tRun]
        rw [htok, if_pos hok]
        by_cases hm : m = 0
        · subst hm
          have hxl : x.1.last = true := by unfold Prt.last; exact decide_eq_true (by omega)
          refine ⟨fun _ => ⟨x.1, ?_, hxl, f2, f3⟩, fun h => absurd (fun j h1 h2 => (by have e : j = k := (by omega); rw [e]; exact hok)) h⟩
          unfold tNext
          rw [if_pos hxl, hrec, f4]
        · have hxl : x.1.last = false := by unfold Prt.last; exact decide_eq_false (by omega)
          have hn : tNext ⟨a, flatR R k, rs, en⟩ x.1 = ⟨x.1, flatR R (k + 1), rs, en⟩ := by
            unfold tNext
            rw [hxl, hrec]
            rfl
          rw [hn]
          have := ih (k + 1) x.1 (by omega) (by omega) (by omega) (by omega) f3 f2 f4
          rw [show k + 1 + m = k + (m + 1) by omega] at this
          exact ⟨fun hall => this.1 fun j h1 h2 => hall j (by omega) h2, fun hall => this.2 fun h => hall fun j h1 h2 => by
            by_cases e : j = k
            · rw [e]; exact hok
            · exact h j (by omega) h2⟩
      · refine ⟨fun h => absurd (h k (Nat.le_refl _) (by omega)) hok, fun _ => ?_⟩
        simp only [tRun]
        rw [htok, if_neg hok]
        exact ⟨rfl, rfl⟩
theorem tRun_one (s : TSt) (R : List (Prt × Bool)) (number least : Int) (hl : s.ah.last = true) (hn : s.ah.n + 1 = number) (hle : ∀ e : Int, 1 ≤ e → (s.ah.e ≤ e ↔ least ≤ e)) (hP : ∀ x ∈ R, PFact x) :
    match oneR R number least with
    | none => (tRun s R).rs = s.rs ∧ (tRun s R).en = s.en
    | some (b, c, e) => (∃ a', tRun s R = tRun ⟨a', b, s.rs ++ [b], s.en + c⟩ (R.drop c.toNat) ∧ a'.last = true ∧ a'.n = number ∧ a'.e = e) ∧ 1 ≤ c ∧ c ≤ 4096 ∧ c ≤ R.length ∧ 1 ≤ e := by
  cases R with
  | nil => exact ⟨rfl, rfl⟩
  | cons x r =>
    have hfx := hP x (List.mem_cons_self ..)
    have htok : tOk s x = true ↔ x.2 = true ∧ x.1.n = number ∧ least ≤ x.1.e ∧ x.1.i = 0 := by
      unfold tOk Prt.fol
      rw [hl]
      simp only [if_true, Bool.and_eq_true, decide_eq_true_eq]
      constructor
      · rintro ⟨h1, h2, h3, h4⟩
        have hm := (hfx.2 h1).1
        have he : 1 ≤ x.1.e := by
          unfold Prt.may stmpB at hm
          simp only [Bool.and_eq_true, decide_eq_true_eq] at hm
          exact hm.1.1
        exact ⟨h1, by omega, (hle _ he).1 h4, h2⟩
      · rintro ⟨h1, h2, h3, h4⟩
        have hm := (hfx.2 h1).1
        have he : 1 ≤ x.1.e := by
          unfold Prt.may stmpB at hm
          simp only [Bool.and_eq_true, decide_eq_true_eq] at hm
          exact hm.1.1
        exact ⟨h1, h4, by omega, (hle _ he).2 h3⟩
    by_cases hok : tOk s x = true
    · obtain ⟨h1, h2, h3, h4⟩ := htok.1 hok
      have hm := (hfx.2 h1).1
      obtain ⟨_, hc2, hic⟩ := may_facts hm
      have he : 1 ≤ x.1.e := by
        unfold Prt.may stmpB at hm
        simp only [Bool.and_eq_true, decide_eq_true_eq] at hm
        exact hm.1.1
      have hR0 : (x :: r)[0]? = some x := rfl
      have hok0 : okAt (x :: r) number x.1 0 = true := by
        unfold okAt
        rw [hR0]
        simp [h1, h2, h4]
      have hrec : recN s x.1 = flatR (x :: r) 1 := by
        unfold recN flatR
        rw [if_pos h4]
        simp
      have hrun : tRun s (x :: r) = tRun (tNext s x.1) r := by simp only [tRun]; rw [if_pos hok]
      obtain ⟨c, hc⟩ : ∃ c : Nat, (c : Int) = x.1.c := ⟨x.1.c.toNat, by omega⟩
      have hct : x.1.c.toNat = c := by omega
      have hlen : (∀ j < c, okAt (x :: r) number x.1 j = true) → x.1.c ≤ ((x :: r).length : Nat) := fun h => by
        obtain ⟨y, hy, _⟩ := okAt_facts (h (c - 1) (by omega))
        have := (List.getElem?_eq_some_iff.1 hy).1
        omega
      by_cases hall : ∀ j < c, okAt (x :: r) number x.1 j = true
      · have hsome : oneR (x :: r) number least = some (flatR (x :: r) c, x.1.c, x.1.e) := by
          unfold oneR
          simp only [hct]
          rw [if_pos]
          rw [Bool.and_eq_true]
          refine ⟨?_, allOk_iff.2 hall⟩
          unfold headOk
          simp only [Bool.and_eq_true, decide_eq_true_eq]
          exact ⟨h1, h2, h3, h4, hlen hall⟩
        rw [hsome]
        refine ⟨?_, by omega, hc2, hlen hall, he⟩
        rw [hrun, hct]
        by_cases hc1 : c = 1
        · have hxl : x.1.last = true := by unfold Prt.last; exact decide_eq_true (by omega)
          refine ⟨x.1, ?_, hxl, h2, rfl⟩
          unfold tNext
          rw [if_pos hxl, hrec, hc1]
          rfl
        · have hxl : x.1.last = false := by unfold Prt.last; exact decide_eq_false (by omega)
          have hnx : tNext s x.1 = ⟨x.1, flatR (x :: r) 1, s.rs, s.en⟩ := by
            unfold tNext
            rw [hxl, hrec]
            rfl
          have := tRun_mid number x.1 (x :: r) s.rs s.en (c - 1) 1 x.1 (by omega) (by omega) (Nat.le_refl _) (by omega) rfl h2 rfl
          rw [show 1 + (c - 1) = c by omega] at this
          rw [hnx]
          exact this.1 fun j j1 j2 => hall j (by omega)
      · have hnone : oneR (x :: r) number least = none := by
          unfold oneR
          simp only [hct]
          rw [if_neg]
          rw [Bool.and_eq_true]
          exact fun h => hall (allOk_iff.1 h.2)
        rw [hnone]
        rw [hrun]
        by_cases hc1 : c = 1
        · exact absurd (fun j (hj : j < c) => by
            have e : j = 0 := by omega
            rw [e]
            exact hok0) hall
        · have hxl : x.1.last = false := by unfold Prt.last; exact decide_eq_false (by omega)
          have hnx : tNext s x.1 = ⟨x.1, flatR (x :: r) 1, s.rs, s.en⟩ := by
            unfold tNext
            rw [hxl, hrec]
            rfl
          have := tRun_mid number x.1 (x :: r) s.rs s.en (c - 1) 1 x.1 (by omega) (by omega) (Nat.le_refl _) (by omega) rfl h2 rfl
          rw [hnx]
          exact this.2 fun h => hall fun j hj => by
            by_cases e : j = 0
            · rw [e]; exact hok0
            · exact h j (by omega) (by omega)
    · have hnone : oneR (x :: r) number least = none := by
        unfold oneR
        simp only
        rw [if_neg]
        rw [Bool.and_eq_true]
        rintro ⟨h, _⟩
        unfold headOk at h
        simp only [Bool.and_eq_true, decide_eq_true_eq] at h
        exact hok (htok.2 ⟨h.1, h.2.1, h.2.2.1, h.2.2.2.1⟩)
      rw [hnone]
      simp only [tRun]
      rw [if_neg hok]
      exact ⟨rfl, rfl⟩
#print axioms tRun_one
end Go.Proofs.YthmjejmignangaaGreatDoor
