/- Layer 8, plainly: the order; what the document reaches. -/
import Derived.Test.YtodagpmcmjleaaaGreatXA
namespace Go.Proofs.YtodagpmcmjleaaaGreat
/-- May f be told behind those of l? -/
def rdy (g : Nat → List Nat) (l : List Nat) (f : Nat) : Bool := !l.contains f && (g f).all l.contains
/-- The least one that may be told. -/
def pick (n : Nat) (g : Nat → List Nat) (l : List Nat) : Option Nat := (List.range n).find? (rdy g l)
def ordN (n : Nat) (g : Nat → List Nat) : Nat → Option (List Nat)
  | 0 => some []
  | k + 1 => (ordN n g k).bind fun l => (pick n g l).map fun f => l ++ [f]
def ordS (n : Nat) (g : Nat → List Nat) : Option (List Nat) := ordN n g n
/-- Each is told once, behind those that it calls. -/
def Told (n : Nat) (g : Nat → List Nat) (l : List Nat) : Prop := ∀ i (h : i < l.length), l[i] < n ∧ l[i] ∉ l.take i ∧ ∀ c ∈ g l[i], c ∈ l.take i
theorem told_nil (n : Nat) (g : Nat → List Nat) : Told n g [] := fun i h => by cases h
theorem told_snoc {n : Nat} {g : Nat → List Nat} {l : List Nat} {f : Nat} (h : Told n g l) (hf : f < n) (hr : rdy g l f = true) : Told n g (l ++ [f]) := by
  intro i hi
  rw [List.length_append, List.length_singleton] at hi
  rcases Nat.lt_or_ge i l.length with h1 | h1
  · rw [List.getElem_append_left h1, List.take_append_of_le_length (by omega)]
    exact h i h1
  · obtain rfl : i = l.length := by omega
    simp only [rdy, Bool.and_eq_true, Bool.not_eq_true', List.all_eq_true, List.contains_iff_mem] at hr
    rw [List.getElem_append_right (Nat.le_refl _)]
    simp only [Nat.sub_self, List.getElem_cons_zero, List.take_left']
    refine ⟨hf, fun hm => ?_, hr.2⟩
    have := hr.1
    rw [← Bool.not_eq_true, List.contains_iff_mem] at this
    exact this hm
theorem pick_some {n : Nat} {g : Nat → List Nat} {l : List Nat} {f : Nat} (h : pick n g l = some f) : f < n ∧ rdy g l f = true := by
  have h1 := List.mem_of_find?_eq_some h
  have h2 := List.find?_some h
  exact ⟨by simpa using h1, h2⟩
theorem ord_told {n : Nat} {g : Nat → List Nat} : ∀ {k : Nat} {l : List Nat}, ordN n g k = some l → l.length = k ∧ Told n g l
  | 0, l, h => by cases h; exact ⟨rfl, told_nil n g⟩
  | k + 1, l, h => by
    simp only [ordN, Option.bind_eq_some_iff, Option.map_eq_some_iff] at h
    obtain ⟨l0, h0, f, hf, rfl⟩ := h
    obtain ⟨h1, h2⟩ := ord_told h0
    obtain ⟨h3, h4⟩ := pick_some hf
    exact ⟨by simp [h1], told_snoc h2 h3 h4⟩
theorem told_nodup {n : Nat} {g : Nat → List Nat} {l : List Nat} (h : Told n g l) : l.Nodup := by
  rw [List.nodup_iff_pairwise_ne, List.pairwise_iff_getElem]
  intro i j hi hj hij e
  refine (h j hj).2.1 ?_
  rw [← e]
  exact List.mem_take_iff_getElem.2 ⟨i, by omega, rfl⟩
theorem told_all {n : Nat} {g : Nat → List Nat} {l : List Nat} (h : Told n g l) (hl : l.length = n) {x : Nat} (hx : x < n) : x ∈ l := by
  false_or_by_contra
  rename_i hn
  have h1 : (x :: l).Nodup := List.nodup_cons.2 ⟨hn, told_nodup h⟩
  have := nodup_le (b := List.range n) h1 fun y hy => by
    rcases List.mem_cons.1 hy with e | e
    · subst e; simpa using hx
    · obtain ⟨i, hi, rfl⟩ := List.mem_iff_getElem.1 e
      simpa using (h i hi).1
  simp at this
  omega
theorem idx_le : ∀ (l : List Nat) (j : Nat) (h : j < l.length), l.idxOf l[j] ≤ j
  | [], j, h => by cases h
  | a :: l, 0, h => by simp
  | a :: l, j + 1, h => by
    rw [List.getElem_cons_succ, List.idxOf_cons]
    have hj : j < l.length := by simpa using h
    have := idx_le l j hj
    cases a == l[j]'hj with
    | true => exact Nat.zero_le _
    | false => simpa using this
theorem told_acy {n : Nat} {g : Nat → List Nat} {l : List Nat} (h : Told n g l) (hl : l.length = n) : Acy n g := by
  refine ⟨fun x => l.idxOf x, fun x hx c hc => ?_⟩
  have hx2 := told_all h hl hx
  have hi : l.idxOf x < l.length := List.idxOf_lt_length_of_mem hx2
  have e : l[l.idxOf x] = x := List.getElem_idxOf hi
  have h3 := (h _ hi).2.2 c (by rw [e]; exact hc)
  obtain ⟨j, hj, ej⟩ := List.mem_take_iff_getElem.1 h3
  have hle : l.idxOf c ≤ j := by
    rw [← ej]
    exact idx_le l j (by omega)
  show l.idxOf c < l.idxOf x
  omega
theorem acy_pick {n : Nat} {g : Nat → List Nat} (hI : Inn n g) (ha : Acy n g) {l : List Nat} (hl : l.length < n) : ∃ f, pick n g l = some f := by
  obtain ⟨rk, ha⟩ := ha
  cases e : pick n g l with
  | some f => exact ⟨f, rfl⟩
  | none =>
    exfalso
    have hn : ∀ x < n, rdy g l x = false := fun x hx => by
      have := List.find?_eq_none.1 e x (by simpa using hx)
      simpa using this
    have hall : ∀ k x, x < n → rk x ≤ k → x ∈ l := by
      intro k
      induction k with
      | zero =>
        intro x hx hk
        false_or_by_contra
        rename_i hnl
        have := hn x hx
        simp only [rdy, Bool.and_eq_false_iff, Bool.not_eq_false', List.contains_iff_mem] at this
        rcases this with h | h
        · exact hnl h
        · rw [List.all_eq_false] at h
          obtain ⟨c, hc, _⟩ := h
          have := ha x hx c hc
          omega
      | succ k ih =>
        intro x hx hk
        false_or_by_contra
        rename_i hnl
        have := hn x hx
        simp only [rdy, Bool.and_eq_false_iff, Bool.not_eq_false', List.contains_iff_mem] at this
        rcases this with h | h
        · exact hnl h
        · rw [List.all_eq_false] at h
          obtain ⟨c, hc, hc2⟩ := h
          have := ha x hx c hc
          exact hc2 (List.contains_iff_mem.2 (ih c (hI x hx c hc) (by omega)))
    have := nodup_le (a := List.range n) (b := l) List.nodup_range fun x hx => hall _ x (by simpa using hx) (Nat.le_refl _)
    simp at this
    omega
theorem acy_ord {n : Nat} {g : Nat → List Nat} (hI : Inn n g) (ha : Acy n g) : ∀ k ≤ n, ∃ l, ordN n g k = some l
  | 0, _ => ⟨[], rfl⟩
  | k + 1, hk => by
    obtain ⟨l, hl⟩ := acy_ord hI ha k (by omega)
    obtain ⟨f, hf⟩ := acy_pick hI ha (l := l) (by rw [(ord_told hl).1]; omega)
    exact ⟨l ++ [f], by simp [ordN, hl, hf]⟩
/-- Calls do not go round just if there is an order of all. -/
theorem ord_iff {n : Nat} {g : Nat → List Nat} (hI : Inn n g) : Acy n g ↔ ∃ l, ordS n g = some l :=
  ⟨fun h => acy_ord hI h n (Nat.le_refl _), fun ⟨_, h⟩ => told_acy (ord_told h).2 (ord_told h).1⟩
/-- What the walk of all functions says. -/
theorem wlk_ord {n : Nat} {g : Nat → List Nat} (hI : Inn n g) (hO : ∀ x c, c ∈ g x → x < n) {m : Nat → Option Nat} {r : Bool} (h : Wlk g (List.range n) m r) : r = (ordS n g).isNone := by
  cases r with
  | false =>
    obtain ⟨l, e⟩ := (ord_iff hI).1 (wlk_deep hI h).acy
    rw [e]; rfl
  | true =>
    obtain ⟨x, hx⟩ := h.bad rfl
    cases e : ordS n g with
    | none => rfl
    | some l =>
      exfalso
      have ha := (ord_iff hI).2 ⟨l, e⟩
      have hxn : x < n := by obtain ⟨c, hc, _⟩ := hx; exact hO x c hc
      exact ha.none hI hxn hx
/-- Calls go round just if a function reaches itself through one that it calls. -/
theorem round_iff {n : Nat} {g : Nat → List Nat} (hI : Inn n g) (hO : ∀ x c, c ∈ g x → x < n) {m : Nat → Option Nat} {r : Bool} (h : Wlk g (List.range n) m r) : r = true ↔ ∃ x, Rnd g x x := by
  constructor
  · exact h.bad
  · rintro ⟨x, hx⟩
    cases r with
    | true => rfl
    | false =>
      have hxn : x < n := by obtain ⟨c, hc, _⟩ := hx; exact hO x c hc
      exact absurd hx ((wlk_deep hI h).acy.none hI hxn)
/-! ### The document's Reach. -/
/-- The first k callees of i, if i is met. -/
def swp (g : Nat → List Nat) (met : Nat → Bool) (i k : Nat) : Nat → Bool := fun x => met x || (met i && ((g i).take k).contains x)
/-- A turn, as far as the first k functions. -/
def turnK (g : Nat → List Nat) (met : Nat → Bool) : Nat → Nat → Bool
  | 0 => met
  | k + 1 => swp g (turnK g met k) k (g k).length
def reachN (n : Nat) (g : Nat → List Nat) (f : Nat) : Nat → Nat → Bool
  | 0 => fun x => x == f
  | t + 1 => turnK g (reachN n g f t) n
theorem swp_zero (g : Nat → List Nat) (met : Nat → Bool) (i : Nat) : swp g met i 0 = met := by funext x; simp [swp]
theorem swp_mono {g : Nat → List Nat} {met : Nat → Bool} {i k x : Nat} (h : met x = true) : swp g met i k x = true := by simp [swp, h]
theorem turn_mono {g : Nat → List Nat} {met : Nat → Bool} {x : Nat} (h : met x = true) : ∀ k, turnK g met k x = true
  | 0 => h
  | k + 1 => swp_mono (turn_mono h k)
theorem turn_up {g : Nat → List Nat} {met : Nat → Bool} {x j : Nat} (h : turnK g met j x = true) : ∀ k, j ≤ k → turnK g met k x = true := by
  intro k hk
  induction k with
  | zero => obtain rfl : j = 0 := by omega
            exact h
  | succ k ih =>
    by_cases e : j = k + 1
    · subst e; exact h
    · exact swp_mono (ih (by omega))
theorem turn_call {n : Nat} {g : Nat → List Nat} {met : Nat → Bool} {i c : Nat} (hi : i < n) (h : met i = true) (hc : c ∈ g i) : turnK g met n c = true := by
  refine turn_up (j := i + 1) ?_ n hi
  simp only [turnK, swp, turn_mono h i, List.take_length, Bool.true_and, Bool.or_eq_true, List.contains_iff_mem]
  exact .inr hc
theorem turn_sound {g : Nat → List Nat} {met : Nat → Bool} {f : Nat} (h : ∀ x, met x = true → Rch g f x) : ∀ k x, turnK g met k x = true → Rch g f x
  | 0, x, hx => h x hx
  | k + 1, x, hx => by
    simp only [turnK, swp, List.take_length, Bool.or_eq_true, Bool.and_eq_true, List.contains_iff_mem] at hx
    rcases hx with hx | ⟨h1, h2⟩
    · exact turn_sound h k x hx
    · exact (turn_sound h k k h1).trans (.step h2 (.refl _))
def Shut (n : Nat) (g : Nat → List Nat) (met : Nat → Bool) : Prop := ∀ i < n, met i = true → ∀ c ∈ g i, met c = true
theorem turn_still {n : Nat} {g : Nat → List Nat} {met : Nat → Bool} (h : Shut n g met) : ∀ k, k ≤ n → turnK g met k = met
  | 0, _ => rfl
  | k + 1, hk => by
    funext x
    rw [turnK, turn_still h k (by omega)]
    simp only [swp, List.take_length]
    cases e : met x with
    | true => rfl
    | false =>
      simp only [Bool.false_or, Bool.and_eq_false_iff]
      cases e2 : met k with
      | false => exact .inl rfl
      | true =>
        refine .inr ?_
        rw [← Bool.not_eq_true, List.contains_iff_mem]
        intro hc
        rw [h k (by omega) e2 x hc] at e
        cases e
def cntB : Nat → (Nat → Bool) → Nat
  | 0, _ => 0
  | n + 1, m => cntB n m + (if m n then 1 else 0)
theorem cnt_le {m m' : Nat → Bool} (h : ∀ x, m x = true → m' x = true) : ∀ n, cntB n m ≤ cntB n m'
  | 0 => Nat.le_refl _
  | n + 1 => by
    have := cnt_le h n
    simp only [cntB]
    cases e : m n with
    | false => simp; split <;> omega
    | true => rw [h n e]; simp; omega
theorem cnt_lt {m m' : Nat → Bool} (h : ∀ x, m x = true → m' x = true) {c : Nat} (h1 : m c = false) (h2 : m' c = true) : ∀ n, c < n → cntB n m + 1 ≤ cntB n m'
  | 0, hc => by omega
  | n + 1, hc => by
    simp only [cntB]
    by_cases e : c = n
    · subst e
      have := cnt_le h c
      rw [h1, h2]; simp; omega
    · have := cnt_lt h h1 h2 n (by omega)
      cases e : m n with
      | false => simp; split <;> omega
      | true => rw [h n e]; simp; omega
theorem cnt_max (m : Nat → Bool) : ∀ n, cntB n m ≤ n
  | 0 => Nat.le_refl _
  | n + 1 => by have := cnt_max m n; simp only [cntB]; split <;> omega
theorem cnt_pos {m : Nat → Bool} {f n : Nat} (hf : f < n) (h : m f = true) : 1 ≤ cntB n m := by
  have := cnt_lt (m := fun _ => false) (m' := m) (by simp) (c := f) rfl h n hf
  omega
theorem reach_sound {n : Nat} {g : Nat → List Nat} {f : Nat} : ∀ t x, reachN n g f t x = true → Rch g f x
  | 0, x, h => by simp [reachN] at h; subst h; exact .refl _
  | t + 1, x, h => turn_sound (fun x h => reach_sound t x h) n x h
theorem reach_self {n : Nat} {g : Nat → List Nat} {f : Nat} : ∀ t, reachN n g f t f = true
  | 0 => by simp [reachN]
  | t + 1 => turn_mono (reach_self t) n
theorem reach_grow {n : Nat} {g : Nat → List Nat} (hI : Inn n g) {f : Nat} (hf : f < n) : ∀ t, Shut n g (reachN n g f t) ∨ t + 1 ≤ cntB n (reachN n g f t)
  | 0 => .inr (cnt_pos hf (reach_self 0))
  | t + 1 => by
    by_cases hs : Shut n g (reachN n g f t)
    · refine .inl ?_
      rw [reachN, turn_still hs n (Nat.le_refl _)]
      exact hs
    · rcases reach_grow hI hf t with h | h
      · exact absurd h hs
      · refine .inr ?_
        have : ∃ i, i < n ∧ reachN n g f t i = true ∧ ∃ c ∈ g i, reachN n g f t c = false := by
          false_or_by_contra
          rename_i hne
          refine hs fun i hi h1 c hc => ?_
          cases e : reachN n g f t c with
          | true => rfl
          | false => exact absurd ⟨i, hi, h1, c, hc, e⟩ hne
        obtain ⟨i, hi, h1, c, hc, h2⟩ := this
        have := cnt_lt (m' := turnK g (reachN n g f t) n) (fun x hx => turn_mono hx n) h2 (turn_call hi h1 hc) n (hI i hi c hc)
        rw [reachN]
        omega
theorem reach_iff {n : Nat} {g : Nat → List Nat} (hI : Inn n g) {f : Nat} (hf : f < n) (x : Nat) : reachN n g f n x = true ↔ Rch g f x := by
  refine ⟨reach_sound n x, fun h => ?_⟩
  have hs : Shut n g (reachN n g f n) := by
    rcases reach_grow hI hf n with h | h
    · exact h
    · have := cnt_max (reachN n g f n) n
      omega
  have : ∀ a b, Rch g a b → a < n → reachN n g f n a = true → reachN n g f n b = true := by
    intro a b hab
    induction hab with
    | refl => exact fun _ h => h
    | step h1 _ ih => exact fun ha h => ih (hI _ ha _ h1) (hs _ ha h _ h1)
  exact this f x h hf (reach_self n)
end Go.Proofs.YtodagpmcmjleaaaGreat
