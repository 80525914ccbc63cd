/- Layer 8, plainly: the order; what the document reaches. Layer 8: which functions a function's instructions call. Layer 8: calls.callees. Layer 8: a map of ints to ints that lies in a block of its own. -/
import Derived.Test.YtodagpmcmjleaaaGreatXA
import Derived.Test.YtodagpmcmjleaaaGreatShelfs
import Derived.Sort.OwnSortedInts
import Derived.Lib.OwnBridge
import Derived.Maps.OwnSet
import Derived.Maps.Ext
namespace Go.Proofs.YtodagpmcmjleaaaGreat
/-- May f be told behind those of l? -/
def rdy (g : Nat → List Nat) (l : List Nat) (f : Nat) : Bool := !l.contains f && (g f).all l.contains
/-- The least one that may be told. -/
def pick (n : Nat) (g : Nat → List Nat) (l : List Nat) : Option Nat := (List.range n).find? (rdy g l)
def ordN (n : Nat) (g : Nat → List Nat) : Nat → Option (List Nat)
  | 0 => some []
  | k + 1 => (ordN n g k).bind fun l => (pick n g l).map fun f => l ++ [f]
def ordS (n : Nat) (g : Nat → List Nat) : Option (List Nat) := ordN n g n
/-- Each is told once, behind those that it calls. -/
def Told (n : Nat) (g : Nat → List Nat) (l : List Nat) : Prop := ∀ i (h : i < l.length), l[i] < n ∧ l[i] ∉ l.take i ∧ ∀ c ∈ g l[i], c ∈ l.take i
theorem told_nil (n : Nat) (g : Nat → List Nat) : Told n g [] := fun i h => by cases h
theorem told_snoc {n : Nat} {g : Nat → List Nat} {l : List Nat} {f : Nat} (h : Told n g l) (hf : f < n) (hr : rdy g l f = true) : Told n g (l ++ [f]) := by
  intro i hi
  rw [List.length_append, List.length_singleton] at hi
  rcases Nat.lt_or_ge i l.length with h1 | h1
  · rw [List.getElem_append_left h1, List.take_append_of_le_length (by omega)]
    exact h i h1
  · obtain rfl : i = l.length := by omega
    simp only [rdy, Bool.and_eq_true, Bool.not_eq_true', List.all_eq_true, List.contains_iff_mem] at hr
    rw [List.getElem_append_right (Nat.le_refl _)]
    simp only [Nat.sub_self, List.getElem_cons_zero, List.take_left']
    refine ⟨hf, fun hm => ?_, hr.2⟩
    have := hr.1
    rw [← Bool.not_eq_true, List.contains_iff_mem] at this
    exact this hm
theorem pick_some {n : Nat} {g : Nat → List Nat} {l : List Nat} {f : Nat} (h : pick n g l = some f) : f < n ∧ rdy g l f = true := by
  have h1 := List.mem_of_find?_eq_some h
  have h2 := List.find?_some h
  exact ⟨by simpa using h1, h2⟩
theorem ord_told {n : Nat} {g : Nat → List Nat} : ∀ {k : Nat} {l : List Nat}, ordN n g k = some l → l.length = k ∧ Told n g l
  | 0, l, h => by cases h; exact ⟨rfl, told_nil n g⟩
  | k + 1, l, h => by
    simp only [ordN, Option.bind_eq_some_iff, Option.map_eq_some_iff] at h
    obtain ⟨l0, h0, f, hf, rfl⟩ := h
    obtain ⟨h1, h2⟩ := ord_told h0
    obtain ⟨h3, h4⟩ := pick_some hf
    exact ⟨by simp [h1], told_snoc h2 h3 h4⟩
theorem told_nodup {n : Nat} {g : Nat → List Nat} {l : List Nat} (h : Told n g l) : l.Nodup := by
  rw [List.nodup_iff_pairwise_ne, List.pairwise_iff_getElem]
  intro i j hi hj hij e
  refine (h j hj).2.1 ?_
  rw [← e]
  exact List.mem_take_iff_getElem.2 ⟨i, by omega, rfl⟩
theorem told_all {n : Nat} {g : Nat → List Nat} {l : List Nat} (h : Told n g l) (hl : l.length = n) {x : Nat} (hx : x < n) : x ∈ l := by
  false_or_by_contra
  rename_i hn
  have h1 : (x :: l).Nodup := List.nodup_cons.2 ⟨hn, told_nodup h⟩
  have := nodup_le (b := List.range n) h1 fun y hy => by
    rcases List.mem_cons.1 hy with e | e
    · subst e; simpa using hx
    · obtain ⟨i, hi, rfl⟩ := List.mem_iff_getElem.1 e
      simpa using (h i hi).1
  simp at this
  omega
theorem idx_le : ∀ (l : List Nat) (j : Nat) (h : j < l.length), l.idxOf l[j] ≤ j
  | [], j, h => by cases h
  | a :: l, 0, h => by simp
  | a :: l, j + 1, h => by
    rw [List.getElem_cons_succ, List.idxOf_cons]
    have hj : j < l.length := by simpa using h
    have := idx_le l j hj
    cases a == l[j]'hj with
    | true => exact Nat.zero_le _
    | false => simpa using this
theorem told_acy {n : Nat} {g : Nat → List Nat} {l : List Nat} (h : Told n g l) (hl : l.length = n) : Acy n g := by
  refine ⟨fun x => l.idxOf x, fun x hx c hc => ?_⟩
  have hx2 := told_all h hl hx
  have hi : l.idxOf x < l.length := List.idxOf_lt_length_of_mem hx2
  have e : l[l.idxOf x] = x := List.getElem_idxOf hi
  have h3 := (h _ hi).2.2 c (by rw [e]; exact hc)
  obtain ⟨j, hj, ej⟩ := List.mem_take_iff_getElem.1 h3
  have hle : l.idxOf c ≤ j := by
    rw [← ej]
    exact idx_le l j (by omega)
  show l.idxOf c < l.idxOf x
  omega
theorem acy_pick {n : Nat} {g : Nat → List Nat} (hI : Inn n g) (ha : Acy n g) {l : List Nat} (hl : l.length < n) : ∃ f, pick n g l = some f := by
  obtain ⟨rk, ha⟩ := ha
  cases e : pick n g l with
  | some f => exact ⟨f, rfl⟩
  | none =>
    exfalso
    have hn : ∀ x < n, rdy g l x = false := fun x hx => by
      have := List.find?_eq_none.1 e x (by simpa using hx)
      simpa using this
    have hall : ∀ k x, x < n → rk x ≤ k → x ∈ l := by
      intro k
      induction k with
      | zero =>
        intro x hx hk
        false_or_by_contra
        rename_i hnl
        have := hn x hx
        simp only [rdy, Bool.and_eq_false_iff, Bool.not_eq_false', List.contains_iff_mem] at this
        rcases this with h | h
        · exact hnl h
        · rw [List.all_eq_false] at h
          obtain ⟨c, hc, _⟩ := h
          have := ha x hx c hc
          omega
      | succ k ih =>
        intro x hx hk
        false_or_by_contra
        rename_i hnl
        have := hn x hx
        simp only [rdy, Bool.and_eq_false_iff, Bool.not_eq_false', List.contains_iff_mem] at this
        rcases this with h | h
        · exact hnl h
        · rw [List.all_eq_false] at h
          obtain ⟨c, hc, hc2⟩ := h
          have := ha x hx c hc
          exact hc2 (List.contains_iff_mem.2 (ih c (hI x hx c hc) (by omega)))
    have := nodup_le (a := List.range n) (b := l) List.nodup_range fun x hx => hall _ x (by simpa using hx) (Nat.le_refl _)
    simp at this
    omega
theorem acy_ord {n : Nat} {g : Nat → List Nat} (hI : Inn n g) (ha : Acy n g) : ∀ k ≤ n, ∃ l, ordN n g k = some l
  | 0, _ => ⟨[], rfl⟩
  | k + 1, hk => by
    obtain ⟨l, hl⟩ := acy_ord hI ha k (by omega)
    obtain ⟨f, hf⟩ := acy_pick hI ha (l := l) (by rw [(ord_told hl).1]; omega)
    exact ⟨l ++ [f], by simp [ordN, hl, hf]⟩
/-- Calls do not go round just if there is an order of all. -/
theorem ord_iff {n : Nat} {g : Nat → List Nat} (hI : Inn n g) : Acy n g ↔ ∃ l, ordS n g = some l :=
  ⟨fun h => acy_ord hI h n (Nat.le_refl _), fun ⟨_, h⟩ => told_acy (ord_told h).2 (ord_told h).1⟩
/-- What the walk of all functions says. -/
theorem wlk_ord {n : Nat} {g : Nat → List Nat} (hI : Inn n g) (hO : ∀ x c, c ∈ g x → x < n) {m : Nat → Option Nat} {r : Bool} (h : Wlk g (List.range n) m r) : r = (ordS n g).isNone := by
  cases r with
  | false =>
    obtain ⟨l, e⟩ := (ord_iff hI).1 (wlk_deep hI h).acy
    rw [e]; rfl
  | true =>
    obtain ⟨x, hx⟩ := h.bad rfl
    cases e : ordS n g with
    | none => rfl
    | some l =>
      exfalso
      have ha := (ord_iff hI).2 ⟨l, e⟩
      have hxn : x < n := by obtain ⟨c, hc, _⟩ := hx; exact hO x c hc
      exact ha.none hI hxn hx
/-- Calls go round just if a function reaches itself through one that it calls. -/
theorem round_iff {n : Nat} {g : Nat → List Nat} (hI : Inn n g) (hO : ∀ x c, c ∈ g x → x < n) {m : Nat → Option Nat} {r : Bool} (h : Wlk g (List.range n) m r) : r = true ↔ ∃ x, Rnd g x x := by
  constructor
  · exact h.bad
  · rintro ⟨x, hx⟩
    cases r with
    | true => rfl
    | false =>
      have hxn : x < n := by obtain ⟨c, hc, _⟩ := hx; exact hO x c hc
      exact absurd hx ((wlk_deep hI h).acy.none hI hxn)
/-! ### The document's Reach. -/
/-- The first k callees of i, if i is met. -/
def swp (g : Nat → List Nat) (met : Nat → Bool) (i k : Nat) : Nat → Bool := fun x => met x || (met i && ((g i).take k).contains x)
/-- A turn, as far as the first k functions. -/
def turnK (g : Nat → List Nat) (met : Nat → Bool) : Nat → Nat → Bool
  | 0 => met
  | k + 1 => swp g (turnK g met k) k (g k).length
def reachN (n : Nat) (g : Nat → List Nat) (f : Nat) : Nat → Nat → Bool
  | 0 => fun x => x == f
  | t + 1 => turnK g (reachN n g f t) n
theorem swp_zero (g : Nat → List Nat) (met : Nat → Bool) (i : Nat) : swp g met i 0 = met := by funext x; simp [swp]
theorem swp_mono {g : Nat → List Nat} {met : Nat → Bool} {i k x : Nat} (h : met x = true) : swp g met i k x = true := by simp [swp, h]
theorem turn_mono {g : Nat → List Nat} {met : Nat → Bool} {x : Nat} (h : met x = true) : ∀ k, turnK g met k x = true
  | 0 => h
  | k + 1 => swp_mono (turn_mono h k)
theorem turn_up {g : Nat → List Nat} {met : Nat → Bool} {x j : Nat} (h : turnK g met j x = true) : ∀ k, j ≤ k → turnK g met k x = true := by
  intro k hk
  induction k with
  | zero => obtain rfl : j = 0 := by omega
            exact h
  | succ k ih =>
    by_cases e : j = k + 1
    · subst e; exact h
    · exact swp_mono (ih (by omega))
theorem turn_call {n : Nat} {g : Nat → List Nat} {met : Nat → Bool} {i c : Nat} (hi : i < n) (h : met i = true) (hc : c ∈ g i) : turnK g met n c = true := by
  refine turn_up (j := i + 1) ?_ n hi
  simp only [turnK, swp, turn_mono h i, List.take_length, Bool.true_and, Bool.or_eq_true, List.contains_iff_mem]
  exact .inr hc
theorem turn_sound {g : Nat → List Nat} {met : Nat → Bool} {f : Nat} (h : ∀ x, met x = true → Rch g f x) : ∀ k x, turnK g met k x = true → Rch g f x
  | 0, x, hx => h x hx
  | k + 1, x, hx => by
    simp only [turnK, swp, List.take_length, Bool.or_eq_true, Bool.and_eq_true, List.contains_iff_mem] at hx
    rcases hx with hx | ⟨h1, h2⟩
    · exact turn_sound h k x hx
    · exact (turn_sound h k k h1).trans (.step h2 (.refl _))
def Shut (n : Nat) (g : Nat → List Nat) (met : Nat → Bool) : Prop := ∀ i < n, met i = true → ∀ c ∈ g i, met c = true
theorem turn_still {n : Nat} {g : Nat → List Nat} {met : Nat → Bool} (h : Shut n g met) : ∀ k, k ≤ n → turnK g met k = met
  | 0, _ => rfl
  | k + 1, hk => by
    funext x
    rw [turnK, turn_still h k (by omega)]
    simp only [swp, List.take_length]
    cases e : met x with
    | true => rfl
    | false =>
      simp only [Bool.false_or, Bool.and_eq_false_iff]
      cases e2 : met k with
      | false => exact .inl rfl
      | true =>
        refine .inr ?_
        rw [← Bool.not_eq_true, List.contains_iff_mem]
        intro hc
        rw [h k (by omega) e2 x hc] at e
        cases e
def cntB : Nat → (Nat → Bool) → Nat
  | 0, _ => 0
  | n + 1, m => cntB n m + (if m n then 1 else 0)
theorem cnt_le {m m' : Nat → Bool} (h : ∀ x, m x = true → m' x = true) : ∀ n, cntB n m ≤ cntB n m'
  | 0 => Nat.le_refl _
  | n + 1 => by
    have := cnt_le h n
    simp only [cntB]
    cases e : m n with
    | false => simp; split <;> omega
    | true => rw [h n e]; simp; omega
theorem cnt_lt {m m' : Nat → Bool} (h : ∀ x, m x = true → m' x = true) {c : Nat} (h1 : m c = false) (h2 : m' c = true) : ∀ n, c < n → cntB n m + 1 ≤ cntB n m'
  | 0, hc => by omega
  | n + 1, hc => by
    simp only [cntB]
    by_cases e : c = n
    · subst e
      have := cnt_le h c
      rw [h1, h2]; simp; omega
    · have := cnt_lt h h1 h2 n (by omega)
      cases e : m n with
      | false => simp; split <;> omega
      | true => rw [h n e]; simp; omega
theorem cnt_max (m : Nat → Bool) : ∀ n, cntB n m ≤ n
  | 0 => Nat.le_refl _
  | n + 1 => by have := cnt_max m n; simp only [cntB]; split <;> omega
theorem cnt_pos {m : Nat → Bool} {f n : Nat} (hf : f < n) (h : m f = true) : 1 ≤ cntB n m := by
  have := cnt_lt (m := fun _ => false) (m' := m) (by simp) (c := f) rfl h n hf
  omega
theorem reach_sound {n : Nat} {g : Nat → List Nat} {f : Nat} : ∀ t x, reachN n g f t x = true → Rch g f x
  | 0, x, h => by simp [reachN] at h; subst h; exact .refl _
  | t + 1, x, h => turn_sound (fun x h => reach_sound t x h) n x h
theorem reach_self {n : Nat} {g : Nat → List Nat} {f : Nat} : ∀ t, reachN n g f t f = true
  | 0 => by simp [reachN]
  | t + 1 => turn_mono (reach_self t) n
theorem reach_grow {n : Nat} {g : Nat → List Nat} (hI : Inn n g) {f : Nat} (hf : f < n) : ∀ t, Shut n g (reachN n g f t) ∨ t + 1 ≤ cntB n (reachN n g f t)
  | 0 => .inr (cnt_pos hf (reach_self 0))
  | t + 1 => by
    by_cases hs : Shut n g (reachN n g f t)
    · refine .inl ?_
      rw [reachN, turn_still hs n (Nat.le_refl _)]
      exact hs
    · rcases reach_grow hI hf t with h | h
      · exact absurd h hs
      · refine .inr ?_
        have : ∃ i, i < n ∧ reachN n g f t i = true ∧ ∃ c ∈ g i, reachN n g f t c = false := by
          false_or_by_contra
          rename_i hne
          refine hs fun i hi h1 c hc => ?_
          cases e : reachN n g f t c with
          | true => rfl
          | false => exact absurd ⟨i, hi, h1, c, hc, e⟩ hne
        obtain ⟨i, hi, h1, c, hc, h2⟩ := this
        have := cnt_lt (m' := turnK g (reachN n g f t) n) (fun x hx => turn_mono hx n) h2 (turn_call hi h1 hc) n (hI i hi c hc)
        rw [reachN]
        omega
theorem reach_iff {n : Nat} {g : Nat → List Nat} (hI : Inn n g) {f : Nat} (hf : f < n) (x : Nat) : reachN n g f n x = true ↔ Rch g f x := by
  refine ⟨reach_sound n x, fun h => ?_⟩
  have hs : Shut n g (reachN n g f n) := by
    rcases reach_grow hI hf n with h | h
    · exact h
    · have := cnt_max (reachN n g f n) n
      omega
  have : ∀ a b, Rch g a b → a < n → reachN n g f n a = true → reachN n g f n b = true := by
    intro a b hab
    induction hab with
    | refl => exact fun _ h => h
    | step h1 _ ih => exact fun ha h => ih (hI _ ha _ h1) (hs _ ha h _ h1)
  exact this f x h hf (reach_self n)
end Go.Proofs.YtodagpmcmjleaaaGreat
namespace Go.Proofs.YtodagpmcmjleaaaGreat
open Go.RowKit Go.Sort
/-- The instructions' calls, as they stand. -/
def callL (cs : List (Int × Int)) : List Int := (cs.filter fun x => x.1 == 53).map Prod.snd
def calleesS (cs : List (Int × Int)) : List Int := Lib.compact ((callL cs).mergeSort fun x y => decide (x ≤ y))
theorem callL_take {cs : List (Int × Int)} {k : Nat} (h : k < cs.length) : callL (cs.take (k + 1)) = callL (cs.take k) ++ if cs[k].1 == 53 then [cs[k].2] else [] := by
  unfold callL
  rw [List.take_succ_eq_append_getElem h, List.filter_append, List.map_append]
  congr 1
  by_cases e : cs[k].1 == 53
  · simp [e]
  · simp [e]
theorem callL_len (cs : List (Int × Int)) : (callL cs).length ≤ cs.length := by unfold callL; rw [List.length_map]; exact List.length_filter_le _ _
/-- A rising list without its doubles is strictly rising, and has the same members. -/
theorem compact_up (d : Array Int) (hd : ∀ i j, i < j → j < d.size → d[i]! ≤ d[j]!) : ∀ m, m ≤ d.size → (Lib.compactUpTo d m).Pairwise (· < ·) ∧ (∀ x ∈ Lib.compactUpTo d m, 0 < m ∧ x ≤ d[m - 1]!) ∧ ∀ x, x ∈ Lib.compactUpTo d m ↔ ∃ j < m, d[j]! = x
  | 0, _ => by simp [Lib.compactUpTo]
  | m + 1, hm => by
    obtain ⟨h1, h2, h3⟩ := compact_up d hd m (by omega)
    rw [Lib.compactUpTo_succ]
    have le : ∀ x ∈ Lib.compactUpTo d m, x ≤ d[m]! := fun x hx => by
      obtain ⟨h4, h5⟩ := h2 x hx
      have := hd (m - 1) m (by omega) (by omega)
      omega
    by_cases hk : Lib.keeps d m
    · rw [if_pos hk]
      refine ⟨List.pairwise_append.2 ⟨h1, by simp, fun x hx y hy => ?_⟩, fun x hx => ⟨by omega, ?_⟩, fun x => ?_⟩
      · rw [List.mem_singleton.1 hy]
        obtain ⟨h4, h5⟩ := h2 x hx
        have h6 := hd (m - 1) m (by omega) (by omega)
        simp only [Lib.keeps, decide_eq_true_eq] at hk
        rcases hk with hk | hk
        · omega
        · omega
      · show x ≤ d[m]!
        rcases List.mem_append.1 hx with e | e
        · exact le x e
        · rw [List.mem_singleton.1 e]; exact Int.le_refl _
      · rw [List.mem_append, h3, List.mem_singleton]
        constructor
        · rintro (⟨j, hj, e⟩ | e)
          · exact ⟨j, by omega, e⟩
          · exact ⟨m, by omega, e.symm⟩
        · rintro ⟨j, hj, e⟩
          by_cases ej : j = m
          · subst ej; exact .inr e.symm
          · exact .inl ⟨j, by omega, e⟩
    · rw [if_neg hk, List.append_nil]
      have hk2 : 0 < m ∧ d[m]! = d[m - 1]! := by
        simp only [Lib.keeps, decide_eq_true_eq, not_or, Decidable.not_not] at hk
        exact ⟨by omega, hk.2⟩
      refine ⟨h1, fun x hx => ⟨by omega, le x hx⟩, fun x => ?_⟩
      rw [h3]
      constructor
      · rintro ⟨j, hj, e⟩; exact ⟨j, by omega, e⟩
      · rintro ⟨j, hj, e⟩
        by_cases ej : j = m
        · subst ej; exact ⟨j - 1, by omega, by rw [← e, hk2.2]⟩
        · exact ⟨j, by omega, e⟩
theorem callees_rise (cs : List (Int × Int)) : (calleesS cs).Pairwise (· < ·) ∧ ∀ x, x ∈ calleesS cs ↔ x ∈ callL cs := by
  obtain ⟨zs, hz⟩ : ∃ zs, zs = (callL cs).mergeSort fun x y => decide (x ≤ y) := ⟨_, rfl⟩
  have hs : zs.Pairwise (fun a b => decide (a ≤ b) = true) := by
    rw [hz]
    exact List.pairwise_mergeSort (fun a b c h1 h2 => by simp at *; omega) (fun a b => by simp; omega) _
  have hm : ∀ x, x ∈ zs ↔ x ∈ callL cs := fun x => by rw [hz]; exact List.mem_mergeSort
  have := compact_up zs.toArray (fun i j hij hj => by
    have hj2 : j < zs.length := by simpa using hj
    have := List.pairwise_iff_getElem.1 hs i j (by omega) hj2 hij
    simpa [getElem!_pos, hj2, show i < zs.length by omega] using this) zs.length (by simp)
  unfold calleesS
  rw [← hz]
  refine ⟨this.1, fun x => ?_⟩
  rw [← hm, Lib.compact, this.2.2, List.mem_iff_getElem]
  constructor
  · rintro ⟨j, hj, e⟩; exact ⟨j, hj, by rw [← e]; simp [hj]⟩
  · rintro ⟨j, hj, e⟩; exact ⟨j, hj, by rw [← e]; simp [hj]⟩
/-- The document's row: those that are called, one after the other. -/
def gRow (n : Nat) (cs : List (Int × Int)) : List Nat := (List.range n).filter fun g => callsS cs (g : Int)
theorem callsS_iff (cs : List (Int × Int)) (x : Int) : callsS cs x = true ↔ x ∈ callL cs := by
  unfold callsS callsN callL
  rw [List.take_length, List.any_eq_true, List.mem_map]
  constructor
  · rintro ⟨y, hy, h⟩
    simp only [Bool.and_eq_true, beq_iff_eq] at h
    exact ⟨y, List.mem_filter.2 ⟨hy, by simp [h.1]⟩, h.2⟩
  · rintro ⟨y, hy, h⟩
    obtain ⟨h1, h2⟩ := List.mem_filter.1 hy
    exact ⟨y, h1, by simp at h2; simp [h2, h]⟩
theorem range_rise (n : Nat) : (List.range n).Pairwise (· < ·) := List.pairwise_lt_range
theorem gRow_rise (n : Nat) (cs : List (Int × Int)) : ((gRow n cs).map Int.ofNat).Pairwise (· < ·) := by
  rw [List.pairwise_map]
  exact (List.Pairwise.filter _ (range_rise n)).imp fun h => Int.ofNat_lt.2 h
theorem callees_row {n : Nat} {cs : List (Int × Int)} (h : ∀ x ∈ cs, x.1 = 53 → 0 ≤ x.2 ∧ x.2 < n) : calleesS cs = (gRow n cs).map Int.ofNat := by
  obtain ⟨h1, h2⟩ := callees_rise cs
  refine rise_eq h1 (gRow_rise n cs) fun x => ?_
  rw [h2, List.mem_map]
  constructor
  · intro hx
    have hx2 := (callsS_iff cs x).2 hx
    obtain ⟨y, hy, e⟩ := List.mem_map.1 hx
    obtain ⟨hy1, hy2⟩ := List.mem_filter.1 hy
    obtain ⟨g1, g2⟩ := h y hy1 (by simpa using hy2)
    rw [e] at g1 g2
    refine ⟨x.toNat, List.mem_filter.2 ⟨List.mem_range.2 (by omega), ?_⟩, by simp; omega⟩
    rw [show ((x.toNat : Nat) : Int) = x by omega]
    exact hx2
  · rintro ⟨g, hg, e⟩
    subst e
    exact (callsS_iff cs _).1 (List.mem_filter.1 hg).2
end Go.Proofs.YtodagpmcmjleaaaGreat
namespace Go.Proofs.YtodagpmcmjleaaaGreat
open Go.RowKit Go.Sort
theorem cells_new8 (W : World) (xs : List Value) (t : TypeId) (B : Nat) (hB : W.heap.size = B) : ∀ j u, xs[j]? = some u → (W.alloc (.cells xs.toArray t)).cell? ((⟨B, 0, none⟩ : Addr).add j) = some u := by
  subst hB
  intro j u hu
  rw [Addr.add_lit, Lib.cell_of_heap (heap_alloc_new W (.cells xs.toArray t))]
  simpa using hu
/-- A row of its own. -/
def RowE (ns : List Int) (w : World) (e : Ending) (w' : World) : Prop := ∃ a cc, e = .returned (.slice a ns.length cc) ∧ w'.ownsRow w.heap.size 3 1 (.slice a ns.length cc) ns.length (cellsN ns) ∧ Below w.heap.size w w'
theorem compact_le (zs : List Int) : (Lib.compact zs).length ≤ zs.length := by
  unfold Lib.compact Lib.compactUpTo
  rw [List.length_map]
  exact Nat.le_trans (List.length_filter_le _ _) (by simp)
/-- slices.Sort, then slices.Compact, of a row of one's own. -/
theorem sort_own {w0 W : World} {zs : List Int} {v : Value} {k : Nat} (hk : zs.length = k) (hb : Below w0.heap.size w0 W) (h : W.ownsRow w0.heap.size 3 1 v k (cellsN zs)) (hz : k ≤ 1000000) :
    Calls Tryz.prog 73 #[v] W fun e w' => e = .returned (.tuple #[]) ∧ Hid (Below w0.heap.size w0 w' ∧ w'.ownsRow w0.heap.size 3 1 v k (cellsN (zs.mergeSort fun x y => decide (x ≤ y)))) := by
  subst hk
  rcases h.2 with ⟨e0, e1⟩ | ⟨g, cap, cur, rfl, hbg, hg, hn, hm, hs, ht⟩
  · subst e0
    have hz0 : zs = [] := by
      cases zs with
      | nil => rfl
      | cons x l => simp at e1
    subst hz0
    refine (Tryz.slices_Sort_int_none none 0 W).mono fun e w' h1 => ?_
    obtain ⟨h1, h2⟩ := h1
    subst h2
    exact ⟨h1, hid7 ⟨hb, by simpa using h⟩⟩
  · obtain ⟨g', cap', e1, _, hlt, _, _, _, hH⟩ := Lib.holds_of_ownsRow (enc := Value.int .i64) (zs := zs) h (by simp)
    injection e1 with e2 _ e3
    injection e2 with e2
    injection e2 with e2
    subst e2; subst e3
    refine (Tryz.slices_Sort_int g 0 cap zs W hH hlt (by omega)).mono fun e w' ⟨h1, n, os, h2⟩ => ⟨h1, hid7 ?_⟩
    subst h2
    refine ⟨hb.grown (grownBy_sortedI _) hb.size (fun j ej => by cases ej; exact hbg), ?_⟩
    have := ownsRow_sortedI (base := w0.heap.size) (n := n) (os := os) (ts := zs.mergeSort fun x y => decide (x ≤ y)) (ss := zs) (by simp) hbg hg hn hm hs
    exact this
theorem compact_own {w0 W : World} {zs : List Int} {v : Value} {k : Nat} (hk : zs.length = k) (hb : Below w0.heap.size w0 W) (h : W.ownsRow w0.heap.size 3 1 v k (cellsN zs)) (hz : k ≤ 1000000) :
    Calls Tryz.prog 74 #[v] W (RowE (Lib.compact zs) w0) := by
  subst hk
  rcases h.2 with ⟨e0, e1⟩ | ⟨g, cap, cur, rfl, hbg, hg, hn, hm, hs, ht⟩
  · subst e0
    have hz0 : zs = [] := by
      cases zs with
      | nil => rfl
      | cons x l => simp at e1
    subst hz0
    refine (Tryz.slices_Compact_int_empty none 0 W).mono fun e w' ⟨h1, h2⟩ => ?_
    subst h2
    exact ⟨none, 0, h1, h, hb⟩
  · obtain ⟨g', cap', e1, _, hlt, _, _, _, hH⟩ := Lib.holds_of_ownsRow (enc := Value.int .i64) (zs := zs) h (by simp)
    injection e1 with e2 _ e3
    injection e2 with e2
    injection e2 with e2
    subst e2; subst e3
    refine (Tryz.slices_Compact_int g 0 cap zs W hH (by omega) hn).mono fun e w' ⟨h1, q, h2⟩ => ?_
    subst h2
    have hc := compact_le zs
    refine ⟨_, cap, h1, ?_, Lib.below_putRow hb hbg⟩
    have := Lib.ownsRow_putRow (enc := Value.int .i64) (q := q) (k := (Lib.compact zs).length) (ys := Lib.compact zs ++ List.replicate (zs.length - (Lib.compact zs).length) 0) (zs := zs) h (by simp; omega) hc
    rw [List.take_left'  rfl] at this
    exact this
set_option maxRecDepth 100000 in
set_option maxHeartbeats 1000000 in
theorem callees_any (cs : List (Int × Int)) (ca : Option Addr) (N cc : Nat) (hN : cs.length = N) (bN : N ≤ 100000) (w : World) (hc : IsAt w.cell? ca cs) :
    Calls Tryz.prog 60 #[.slice ca N cc] w (RowE (calleesS cs) w) := by
  have HN := hid7 hN
  have HC := hid7 hc
  clear hc hN
  go_enter Tryz.func60, Tryz.ntmps60
  go_wp2_with fail
  go_loopw [3, 8] (fun lv iv wr => ∃ k : Nat, iv = .int .i64 k ∧ k ≤ N ∧ Hid (wr.ownsRow w.heap.size 3 1 lv (callL (cs.take k)).length (cellsN (callL (cs.take k))) ∧ Below w.heap.size w wr)) (fun _ iv _ => N - (intOf iv).toNat)
  case atStart => exact ⟨0, rfl, Nat.zero_le _, hid7 ⟨World.ownsRow_nil _ _ _ _, Below.refl _ _⟩⟩
  case round =>
    obtain ⟨k, rfl, hk, HR⟩ := hrel
    obtain ⟨ra, rc, eav, hrc, _⟩ := row_form HR.out.1
    subst eav
    have hll := callL_len (cs.take k)
    rw [List.length_take] at hll
    have hal : (callL (cs.take k)).length ≤ 100000 := by have := HN.out; omega
    by_cases hkN : k < N
    · have hkl : k < cs.length := by rw [HN.out]; exact hkN
      have hT := callL_take hkl
      obtain ⟨b3, o3, e3, x0, x1⟩ : ∃ b3 o3, ca = some ⟨b3, o3, none⟩ ∧ wr.cell? ⟨b3, o3 + k * 2, none⟩ = some (.int .i64 cs[k].1) ∧ wr.cell? ⟨b3, o3 + k * 2 + 1, none⟩ = some (.int .i64 cs[k].2) := by
        rcases HC.out.keep (below_keep HR.out.2) with h0 | ⟨b, off, e, h⟩
        · rw [h0] at hkl; cases hkl
        · exact ⟨b, off, e, h k hkl⟩
      subst e3
      generalize cs[k] = x at *
      obtain ⟨n, A⟩ := x
      simp only at *
      have HT := hid7 hT
      obtain ⟨al, hal2⟩ : ∃ al, al = (callL (cs.take k)).length := ⟨_, rfl⟩
      rw [← hal2] at hal hrc HR ⊢
      have HAL := hid7 hal2
      clear hT hll hal2
      have hb1 := (Below.refl _ wr).alloc (Nat.le_refl _) (.cells #[.int .i64 n, .int .i64 A] 49)
      have s1 : w.heap.size ≤ wr.heap.size := HR.out.2.size
      have HR2 : Hid ((wr.alloc (.cells #[.int .i64 n, .int .i64 A] 49)).ownsRow w.heap.size 3 1 (.slice ra al rc) al (cellsN (callL (cs.take k))) ∧ Below w.heap.size w (wr.alloc (.cells #[.int .i64 n, .int .i64 A] 49))) := hid7 ⟨HR.out.1.alloc _, HR.out.2.trans (hb1.mono s1)⟩
      clear hb1
      by_cases h53 : n = 53
      · subst h53
        have HR3 : Hid (((wr.alloc (.cells #[.int .i64 53, .int .i64 A] 49)).alloc (.cells #[.int .i64 A] 3)).ownsRow w.heap.size 3 1 (.slice ra al rc) al (cellsN (callL (cs.take k)))) := hid7 (HR2.out.1.alloc _)
        clear HR
        go_wp2_with (first
          | (at_builtin; refine wpList_appN _ rfl _ _ 27 rfl elemN_int w.heap.size _ al (cellsN (callL (cs.take k))) rfl HR3.out _ rfl 1 [.int .i64 A] (.inr ⟨⟨_, 0, none⟩, 1, rfl, cells_new8 _ [.int .i64 A] 3 _ (by simp)⟩) rfl (by simp [Value.oneCell']) (by unfold maxLen; omega) (by omega) (by simp; omega) ?_; intro v' w6 hr6 hs6)
          | fail)
        have b6 := hs6.below (B := w.heap.size) (by simp; omega) (fun g e => (HR3.out.lt g e).1)
        have b5 := HR2.out.2.alloc (by simp; omega) (.cells #[.int .i64 A] 3)
        have hT2 := HT.out
        simp at hT2
        refine ⟨⟨k + 1, by go_num, by omega, hid7 ⟨?_, b5.trans b6⟩⟩, by simp [intOf]; omega⟩
        rw [hT2, List.length_append, List.length_singleton, ← HAL.out, show cellsN (callL (cs.take k) ++ [A]) = cellsN (callL (cs.take k)) ++ [.int .i64 A] by simp [cellsN]]
        exact hr6
      · have t1 : (n == 53) = false := by simpa using h53
        have HT2 : Hid (callL (cs.take (k + 1)) = callL (cs.take k)) := hid7 (by rw [HT.out, t1]; simp)
        clear h53 HT HR
        go_wp2
        refine ⟨⟨k + 1, by go_num, by omega, hid7 ?_⟩, by simp [intOf]; omega⟩
        rw [HT2.out, ← HAL.out]
        exact HR2.out
    · obtain rfl : k = N := by omega
      have hR := HR.out
      rw [← HN.out, List.take_length] at hR hal
      rw [← HN.out, List.take_length]
      have hS := sort_own (zs := callL cs) rfl hR.2 hR.1 (by omega)
      have HCm : Hid (∀ W, Below w.heap.size w W → W.ownsRow w.heap.size 3 1 (.slice ra (callL cs).length rc) (callL cs).length (cellsN ((callL cs).mergeSort fun x y => decide (x ≤ y))) → Calls Tryz.prog 74 #[.slice ra (callL cs).length rc] W (RowE (calleesS cs) w)) := hid7 fun W h1 h2 => compact_own (by simp) h1 h2 (by omega)
      have HS := hid7 hS
      generalize (callL cs).length = al at *
      clear HC hR HR hS hll
      go_wp2_with (first
        | (go_at_call 73; refine HS.out.mono ?_; clear HS; rintro e w1 ⟨rfl, K1⟩)
        | (go_at_call 74; refine (HCm.out w1 K1.out.1 K1.out.2).mono ?_; clear HCm; rintro e w2 ⟨a2, c2, rfl, r2, b2⟩)
        | fail)
      go_ret
      exact ⟨a2, c2, rfl, r2, b2⟩
end Go.Proofs.YtodagpmcmjleaaaGreat
namespace Go.Proofs.YtodagpmcmjleaaaGreat
open Go.RowKit Go.Maps
theorem int_key8 : Keyed Tryz.prog 3 := int_keyed Tryz.underlying3
theorem wf_small {x : Int} (h0 : -4611686018427387904 ≤ x) (h1 : x ≤ 4611686018427387904) : (Lit.int .i64 x).wf = true := by
  have e1 : IntKind.i64.min = -9223372036854775808 := by decide
  have e2 : IntKind.i64.max = 9223372036854775807 := by decide
  simp only [Lit.wf, e1, e2, Bool.and_eq_true, decide_eq_true_eq]
  omega
/-- Block b of w is a map that holds what m says, its keys below n; S pays for what is still to be written. -/
def MapN (w : World) (b n S : Nat) (m : Nat → Option Nat) : Prop := ∃ (D : DataW Unit) (N : Nat), w.ownsMap Tryz.prog 3 (plainElem Tryz.prog 3) b N D ∧ N + 2 * white n m ≤ S ∧ S ≤ 100000 ∧
  (∀ x : Int, has D (.int .i64 x) = true → ∃ k : Nat, x = k ∧ m k ≠ none) ∧ (∀ k v : Nat, m k = some v → k < n ∧ v + white n m ≤ S ∧ has D (.int .i64 k) = true ∧ ∀ z, D.atKey (.int .i64 k) z = .lit (.int .i64 v))
theorem MapN.lt {w : World} {b n S : Nat} {m : Nat → Option Nat} (h : MapN w b n S m) : b < w.heap.size := by obtain ⟨D, N, h, _⟩ := h; exact h.lt
theorem MapN.blk {w : World} {b n S : Nat} {m : Nat → Option Nat} (h : MapN w b n S m) : ∃ es cl, w.heap[b]? = some (.map es cl) := by obtain ⟨D, N, ⟨es, cl, h, _⟩, _⟩ := h; exact ⟨es, cl, h⟩
theorem MapN.keep {w w' : World} {b n S : Nat} {m : Nat → Option Nat} (h : MapN w b n S m) (e : w'.heap[b]? = w.heap[b]?) : MapN w' b n S m := by
  obtain ⟨D, N, ⟨es, cl, h1, h2⟩, h3⟩ := h
  exact ⟨D, N, ⟨es, cl, e.trans h1, h2⟩, h3⟩
theorem MapN.new (w : World) (n : Nat) (hn : n ≤ 100) : MapN (w.alloc (.map #[] 0)) w.heap.size n (2 * n) (fun _ => none) := by
  refine ⟨.map [], 0, World.ownsMap_made w _ _ _, ?_, by omega, fun x h => ?_, fun k v h => by cases h⟩
  · have := white_max (fun _ => none) n; omega
  · simp [has] at h
theorem MapN.look {w : World} {b n S : Nat} {m : Nat → Option Nat} (h : MapN w b n S m) (k : Nat) (hk : k ≤ 100000) : (Instr.lookup 51 (.map (some b)) (.int .i64 k) true).run Tryz.prog w = .ok (.tuple #[.int .i64 ((m k).getD 0 : Nat), .bool (m k).isSome]) w := by
  obtain ⟨D, N, h1, _, _, h2, h3⟩ := h
  have hz : (zeroValue 3).run Tryz.prog w = .ok (.int .i64 0) w := by kernel_rfl
  obtain ⟨v, ps, hr, hv⟩ := h1.look_ok (t := 51) int_key8 Tryz.underlying51 hz (zd := .lit (.int .i64 0)) (zp := []) (plainElem_int Tryz.underlying3 (wf_small (by omega) (by omega))) (keyOf_int_mk Tryz.underlying3 (wf_small (x := k) (by omega) (by omega)))
  rw [hr]
  obtain ⟨c, rfl, hc, _⟩ := plainElem_int_inv Tryz.underlying3 hv
  have hc := congrArg Prod.fst hc
  simp only at hc
  cases e : m k with
  | none =>
    have hn : has D (.int .i64 k) = false := by
      cases e2 : has D (.int .i64 k) with
      | false => rfl
      | true => obtain ⟨k', e3, e4⟩ := h2 _ e2; obtain rfl : k = k' := by omega
                exact absurd e e4
    rw [atKey_of_not_has hn] at hc
    cases hc
    rw [hn]
    rfl
  | some v =>
    obtain ⟨_, _, e1, e2⟩ := h3 k v e
    rw [e2] at hc
    cases hc
    rw [e1]
    rfl
theorem MapN.at {w : World} {b n S : Nat} {m : Nat → Option Nat} (h : MapN w b n S m) (k : Nat) (hk : k ≤ 100000) : (Instr.lookup 51 (.map (some b)) (.int .i64 k) false).run Tryz.prog w = .ok (.int .i64 ((m k).getD 0 : Nat)) w := by
  obtain ⟨D, N, h1, _, _, h2, h3⟩ := h
  have hz : (zeroValue 3).run Tryz.prog w = .ok (.int .i64 0) w := by kernel_rfl
  obtain ⟨c, hr, hc, _⟩ := h1.lookup_int (t := 51) int_key8 Tryz.underlying51 Tryz.underlying3 hz (keyOf_int_mk Tryz.underlying3 (wf_small (x := k) (by omega) (by omega)))
  rw [hr]
  cases e : m k with
  | none =>
    have hn : has D (.int .i64 k) = false := by
      cases e2 : has D (.int .i64 k) with
      | false => rfl
      | true => obtain ⟨k', e3, e4⟩ := h2 _ e2; obtain rfl : k = k' := by omega
                exact absurd e e4
    rw [atKey_of_not_has hn] at hc
    cases hc
    rfl
  | some v =>
    obtain ⟨_, _, e1, e2⟩ := h3 k v e
    rw [e2] at hc
    cases hc
    rfl
/-- Only the blocks b1 and b2 have turned. -/
def Kp2 (b1 b2 : Nat) (w w' : World) : Prop := w'.os = w.os ∧ w'.tape = w.tape ∧ w'.output = w.output ∧ w.heap.size ≤ w'.heap.size ∧ ∀ k, k < w.heap.size → k ≠ b1 → k ≠ b2 → w'.heap[k]? = w.heap[k]?
theorem Kp2.refl (b1 b2 : Nat) (w : World) : Kp2 b1 b2 w w := ⟨rfl, rfl, rfl, Nat.le_refl _, fun _ _ _ _ => rfl⟩
theorem Kp2.trans {b1 b2 : Nat} {a b c : World} (h : Kp2 b1 b2 a b) (k : Kp2 b1 b2 b c) : Kp2 b1 b2 a c := ⟨k.1.trans h.1, k.2.1.trans h.2.1, k.2.2.1.trans h.2.2.1, Nat.le_trans h.2.2.2.1 k.2.2.2.1, fun i hi h1 h2 => (k.2.2.2.2 i (Nat.lt_of_lt_of_le hi h.2.2.2.1) h1 h2).trans (h.2.2.2.2 i hi h1 h2)⟩
theorem Kp2.below {b1 b2 : Nat} {w w' : World} (h : Below w.heap.size w w') : Kp2 b1 b2 w w' := ⟨h.os, h.tape, h.output, h.size, fun k hk _ _ => h.block k hk⟩
theorem Kp2.drew {b1 b2 : Nat} {w w' : World} (h : Kp2 b1 b2 w w') : Kp2 b1 b2 w w'.drew := h
theorem Kp2.set1 {b1 b2 : Nat} {w : World} {o : Nat} (u : Value) : Kp2 b1 b2 w (w.setCell ⟨b1, o, none⟩ u) := ⟨rfl, rfl, rfl, by simp [World.setCell], fun k _ h _ => Below.heap_setCell _ _ _ _ h⟩
theorem Kp2.set2 {b1 b2 : Nat} {w : World} {o : Nat} (u : Value) : Kp2 b1 b2 w (w.setCell ⟨b2, o, none⟩ u) := ⟨rfl, rfl, rfl, by simp [World.setCell], fun k _ _ h => Below.heap_setCell _ _ _ _ h⟩
theorem Kp2.grown {b1 b2 : Nat} {w w' : World} (h : w.grownBy w' (some b1)) : Kp2 b1 b2 w w' := ⟨h.os, h.tape, h.output, h.size, fun k hk h1 _ => h.block k hk (fun e => h1 (by cases e; rfl))⟩
theorem Kp2.cell {b1 b2 : Nat} {w w' : World} (h : Kp2 b1 b2 w w') {a : Addr} {v : Value} (hv : w.cell? a = some v) (h1 : a.block ≠ b1) (h2 : a.block ≠ b2) : w'.cell? a = some v := (World.cell?_of_block (h.2.2.2.2 _ (World.block_lt_of_cell? w a hv) h1 h2)).trans hv
theorem Kp2.low {b1 b2 B : Nat} {w w' : World} (h : Kp2 b1 b2 w w') (h1 : B ≤ b1) (h2 : B ≤ b2) (hB : B ≤ w.heap.size) : Below B w w' := ⟨h.1, h.2.1, h.2.2.1, h.2.2.2.1, fun k hk => h.2.2.2.2 k (by omega) (by omega) (by omega)⟩
theorem MapN.put {w : World} {b n S : Nat} {m : Nat → Option Nat} (h : MapN w b n S m) (k v : Nat) (hk : k < n) (hn : n ≤ 1000) (S' : Nat) (hv : v + white n (mput m k v) ≤ S') (hS' : S' ≤ 100000) (hS : S + 1 ≤ S' ∨ m k = none ∧ S ≤ S' + 1) :
    ∃ w', (Instr.mapUpdate 51 (.map (some b)) (.int .i64 k) (.int .i64 v)).run Tryz.prog w = .ok () w' ∧ MapN w' b n S' (mput m k v) ∧ w.grownBy w' (some b) ∧ w'.heap.size = w.heap.size := by
  obtain ⟨D, N, h1, hN, hS0, h2, h3⟩ := h
  have hkey := keyOf_int_mk (P := Tryz.prog) Tryz.underlying3 (wf_small (x := k) (by omega) (by omega))
  have hkl : WideAt.IsKeyLit (.int .i64 (k : Int)) := by trivial
  obtain ⟨w', hr, h4, h5⟩ := h1.store (t := 51) int_key8 Tryz.underlying51 (by unfold maxLen; omega) hkey (plainElem_int Tryz.underlying3 (wf_small (x := v) (by omega) (by omega)))
  have hle : white n (mput m k v) ≤ white n m := white_le (fun x u hx => if e : x = k then ⟨v, by rw [e, mput_same]⟩ else ⟨u, by rw [mput_other _ _ e, hx]⟩) n
  have hw : N + 1 + 2 * white n (mput m k v) ≤ S' ∧ ∀ u, u + white n m ≤ S → u + white n (mput m k v) ≤ S' := by
    rcases hS with hS | ⟨e, hS⟩
    · exact ⟨by omega, fun u hu => by omega⟩
    · have := white_put (v := v) e n hk
      exact ⟨by omega, fun u hu => by omega⟩
  refine ⟨w', hr, ⟨_, _, h4, hw.1, hS', fun x hx => ?_, fun x u hx => ?_⟩, h5.grown, ?_⟩
  · by_cases e : x = k
    · exact ⟨k, e, by rw [mput_same]; simp⟩
    · rw [has_put_other (by intro e2; cases e2; exact e rfl)] at hx
      obtain ⟨k', e1, e2⟩ := h2 x hx
      exact ⟨k', e1, by rw [mput_other _ _ (by omega)]; exact e2⟩
  · by_cases e : x = k
    · subst e
      rw [mput_same] at hx
      cases hx
      exact ⟨hk, hv, has_put_same h1.isMap hkl _, fun z => atKey_put_same h1.isMap hkl _ z⟩
    · rw [mput_other _ _ e] at hx
      obtain ⟨e0, e3, e1, e2⟩ := h3 x u hx
      have ne : Lit.int .i64 (x : Int) ≠ .int .i64 (k : Int) := by intro e2; injection e2 with _ e3; omega
      exact ⟨e0, hw.2 _ e3, by rw [has_put_other ne]; exact e1, fun z => by rw [atKey_put_other ne]; exact e2 z⟩
  · obtain ⟨es, cl, es', cl', _, rfl⟩ := h5
    simp [ChangeMaps.setBlock]
end Go.Proofs.YtodagpmcmjleaaaGreat
