/- What is printed is read again: plain facts. -/
import Derived.Test.YtkmfopdklohgnaaDoorVK
namespace Go.Proofs.YtkmfopdklohgnaaDoor
open Go.Shelf
theorem parse_snoc : ∀ (l : List UInt8) (acc u : Nat) (d : Nat), Lib.parseUint10 acc l = .ok u → d < 10 → u * 10 + d < 18446744073709551616 → Lib.parseUint10 acc (l ++ [UInt8.ofNat (48 + d)]) = .ok (u * 10 + d)
  | [], acc, u, d, h, hd, hu => by
    simp only [Lib.parseUint10] at h
    injection h with h
    subst h
    have e : (UInt8.ofNat (48 + d)).toNat = 48 + d := by rw [UInt8.toNat_ofNat']; omega
    simp only [List.nil_append, Lib.parseUint10, e]
    rw [if_pos (by omega), if_neg (by omega), if_neg (by omega), show 48 + d - 48 = d by omega]
  | c :: r, acc, u, d, h, hd, hu => by
    rw [List.cons_append]
    rw [Lib.parseUint10] at h ⊢
    split at h
    · rename_i h1
      rw [if_pos h1]
      split at h
      · cases h
      · rename_i h2
        rw [if_neg h2]
        split at h
        · cases h
        · rename_i h3
          rw [if_neg h3]
          exact parse_snoc r _ u d h hd hu
    · cases h
theorem parse_digits : ∀ (n u : Nat), u ≤ n → u < 18446744073709551616 → Lib.parseUint10 0 (Lib.decDigits u) = .ok u
  | n, u, hn, hu => by
    by_cases h : u < 10
    · rw [Lib.decDigits, dif_pos h]
      have e : (UInt8.ofNat (48 + u)).toNat = 48 + u := by rw [UInt8.toNat_ofNat']; omega
      simp only [Lib.parseUint10, e]
      rw [if_pos (by omega), if_neg (by omega), if_neg (by omega)]
      congr 1
      omega
    · rw [Lib.decDigits, dif_neg h]
      cases n with
      | zero => omega
      | succ n =>
        have := parse_snoc _ 0 (u / 10) (u % 10) (parse_digits n (u / 10) (by omega) (by omega)) (by omega) (by omega)
        rw [this]
        congr 1
        omega
theorem digits_ne (u : Nat) : Lib.decDigits u ≠ [] := by
  rw [Lib.decDigits]
  split <;> simp
theorem digits_are : ∀ (n u : Nat), u ≤ n → ∀ c ∈ Lib.decDigits u, 48 ≤ c.toNat ∧ c.toNat ≤ 57
  | n, u, hn, c, hc => by
    rw [Lib.decDigits] at hc
    split at hc
    · rw [List.mem_singleton] at hc
      subst hc
      rw [UInt8.toNat_ofNat']
      omega
    · rcases List.mem_append.1 hc with hc | hc
      · cases n with
        | zero => omega
        | succ n => exact digits_are n (u / 10) (by omega) c hc
      · rw [List.mem_singleton] at hc
        subst hc
        rw [UInt8.toNat_ofNat']
        omega
theorem mag_digits (u : Nat) (hu : u < 18446744073709551616) : Lib.parseMag (Lib.decDigits u) = .ok u := by
  unfold Lib.parseMag
  rw [if_neg (digits_ne u)]
  exact parse_digits u u (Nat.le_refl _) hu
theorem atoi_itoa (n : Int) (h0 : -9223372036854775808 ≤ n) (h1 : n ≤ 9223372036854775807) : Lib.atoiAll (Lib.itoa n) = .ok n := by
  unfold Lib.itoa
  by_cases h : n < 0
  · rw [if_pos h, Lib.atoiAll_minus, mag_digits _ (by omega)]
    simp only [Lib.signed]
    rw [if_neg (by omega)]
    congr 1
    omega
  · rw [if_neg h]
    have hd := digits_are _ n.toNat (Nat.le_refl _)
    have hm := mag_digits n.toNat (by omega)
    generalize Lib.decDigits n.toNat = l at hd hm
    cases l with
    | nil => simp [Lib.parseMag] at hm
    | cons c r =>
      have := hd c (by simp)
      rw [Lib.atoiAll_plain c r (by omega) (by omega), hm]
      simp only [Lib.signless]
      rw [if_neg (by omega)]
      congr 1
      omega
/-- The first sign of a number's text. -/
theorem itoa_head (n : Int) : ∃ c r, Lib.itoa n = c :: r ∧ (c.toNat = 45 ∨ (48 ≤ c.toNat ∧ c.toNat ≤ 57)) ∧ ∀ x ∈ c :: r, x.toNat = 45 ∨ (48 ≤ x.toNat ∧ x.toNat ≤ 57) := by
  unfold Lib.itoa
  have hh : ∀ u, ∀ c ∈ Lib.decDigits u, 48 ≤ c.toNat ∧ c.toNat ≤ 57 := fun u => digits_are u u (Nat.le_refl _)
  by_cases h : n < 0
  · rw [if_pos h]
    refine ⟨45, _, rfl, .inl rfl, fun x hx => ?_⟩
    rcases List.mem_cons.1 hx with rfl | hx
    · exact .inl rfl
    · exact .inr (hh _ x hx)
  · rw [if_neg h]
    have hd := hh n.toNat
    have hn := digits_ne n.toNat
    generalize Lib.decDigits n.toNat = l at hd hn
    cases l with
    | nil => exact absurd rfl hn
    | cons c r => exact ⟨c, r, rfl, .inr (hd c (by simp)), fun x hx => .inr (hd x hx)⟩
theorem print_one (x : Val) (h : x.right = true) : printOf [x] = wordOf x := by
  simp [printOf, h, printList, Lib.join_one]
theorem dig_idx (k : Nat) (h : k < 16) : Lib.indexByte hexDigits (hexDigits.getD k 0) = k := by
  have : ∀ k : Fin 16, Lib.indexByte hexDigits (hexDigits.getD k.1 0) = k.1 := by decide +kernel
  exact this ⟨k, h⟩
theorem unhex_hex : ∀ s : List UInt8, unhex (s.flatMap hexOf) = some s
  | [] => rfl
  | c :: r => by
    have h0 := c.toNat_lt
    rw [List.flatMap_cons]
    show unhex (hexDigits.getD (c.toNat / 16) 0 :: hexDigits.getD (c.toNat % 16) 0 :: r.flatMap hexOf) = _
    rw [unhex, dig_idx _ (by omega), dig_idx _ (by omega), if_neg (by omega), unhex_hex r]
    simp only [Option.map_some, Int.toNat_natCast]
    rw [show 16 * (c.toNat / 16) + c.toNat % 16 = c.toNat by omega, UInt8.ofNat_toNat]
theorem suffix_last (l : List UInt8) : Lib.hasSuffix (l ++ [39]) [39] = true := by
  unfold Lib.hasSuffix
  simp
theorem trim_last (l : List UInt8) : Lib.trimSuffix (l ++ [39]) [39] = l := by
  unfold Lib.trimSuffix
  rw [if_pos (suffix_last l)]
  simp
theorem read_word (x : Val) (hr : x.right = true) (h0 : -9223372036854775808 ≤ x.n) (h1 : x.n ≤ 9223372036854775807) : readOf (wordOf x) = some x := by
  have hp := print_one x hr
  suffices hg : guessOf (wordOf x) = some x by
    unfold readOf
    rw [hg]
    simp only [Option.bind_some]
    rw [if_pos hp]
  obtain ⟨t, n, b⟩ := x
  simp only [Val.right] at hr
  by_cases e1 : t = 1
  · subst e1
    obtain rfl : b = [] := by simpa using hr
    simp only [wordOf, if_true]
    have ha := atoi_itoa n h0 h1
    obtain ⟨c, r, hc, hcc, _⟩ := itoa_head n
    unfold guessOf
    rw [if_neg (fun e => by rw [hc] at e; simp [wTrue] at e; obtain ⟨rfl, _⟩ := e; simp at hcc), if_neg (fun e => by rw [hc] at e; simp [wFalse] at e; obtain ⟨rfl, _⟩ := e; simp at hcc)]
    rw [if_neg (by
      rw [hc]
      unfold Lib.hasPrefix
      simp only [List.isPrefixOf]
      by_cases h : (120 : UInt8) = c
      · subst h; simp at hcc
      · simp [h]), ha]
  · rw [if_neg e1] at hr
    by_cases e2 : t = 2
    · subst e2
      simp only [if_true, Bool.and_eq_true, decide_eq_true_eq] at hr
      obtain ⟨rfl, hb⟩ := hr
      simp only [wordOf, if_true]
      rw [if_neg (by decide)]
      unfold guessOf hexWord
      have hd : ([120, 39] ++ b.flatMap hexOf ++ [39]).drop 2 = b.flatMap hexOf ++ [39] := by simp
      rw [if_neg (by simp [wTrue]), if_neg (by simp [wFalse]), if_pos (by simp [Lib.hasPrefix, List.isPrefixOf]), hd]
      unfold readB
      rw [suffix_last, trim_last, unhex_hex]
      have := hex_length b
      simp [this]
    · rw [if_neg e2] at hr
      by_cases e3 : t = 3
      · subst e3
        simp only [if_true, Bool.and_eq_true, Bool.or_eq_true, decide_eq_true_eq] at hr
        obtain ⟨rfl | rfl, rfl⟩ := hr <;> rfl
      · rw [if_neg e3] at hr
        cases hr
theorem idx_none : ∀ l : List UInt8, (∀ c ∈ l, c ≠ 32) → Lib.indexByte l 32 = -1
  | [], _ => rfl
  | c :: r, h => by
    have h1 : (c == 32) = false := by simpa using h c (by simp)
    rw [Lib.indexByte, h1, idx_none r fun x hx => h x (by simp [hx])]
    rfl
theorem idx_at : ∀ (l r : List UInt8), (∀ c ∈ l, c ≠ 32) → Lib.indexByte (l ++ 32 :: r) 32 = l.length
  | [], r, _ => rfl
  | c :: l, r, h => by
    have h1 : (c == 32) = false := by simpa using h c (by simp)
    have h2 := idx_at l r fun x hx => h x (by simp [hx])
    rw [List.cons_append, Lib.indexByte, h1, h2]
    rw [if_neg (by simp), if_neg (by simp)]
    simp
theorem pieces_join : ∀ (l : List (List UInt8)), l ≠ [] → (∀ x ∈ l, ∀ c ∈ x, c ≠ 32) → pieces (Lib.join l [32]) = l
  | [], h, _ => absurd rfl h
  | [x], _, h => by
    rw [Lib.join_one, pieces_none (idx_none x (h x (by simp)))]
  | x :: y :: r, _, h => by
    have e : Lib.join (x :: y :: r) [32] = x ++ 32 :: Lib.join (y :: r) [32] := by
      simp [Lib.join, List.intercalate, List.intersperse]
    rw [e, pieces_some (idx_at x _ (h x (by simp)))]
    have h2 := pieces_join (y :: r) (by simp) fun z hz => h z (by simp [hz])
    simp [h2]
theorem hexOf_no (c : UInt8) : ∀ x ∈ hexOf c, x ≠ 32 := by
  have : ∀ k : Fin 16, hexDigits.getD k.1 0 ≠ 32 := by decide
  intro x hx
  have h0 := c.toNat_lt
  simp only [hexOf, List.mem_cons, List.not_mem_nil, or_false] at hx
  rcases hx with rfl | rfl
  · exact this ⟨c.toNat / 16, by omega⟩
  · exact this ⟨c.toNat % 16, by omega⟩
theorem word_no (x : Val) : ∀ c ∈ wordOf x, c ≠ 32 := by
  intro c hc
  unfold wordOf at hc
  split at hc
  · obtain ⟨d, r, e, _, hall⟩ := itoa_head x.n
    rw [e] at hc
    have := hall c hc
    rintro rfl
    simp at this
  split at hc
  · unfold hexWord at hc
    simp only [List.mem_append, List.mem_cons, List.not_mem_nil, or_false, List.mem_flatMap] at hc
    rcases hc with ((rfl | rfl) | ⟨y, _, hy⟩) | rfl
    · decide
    · decide
    · exact hexOf_no y c hy
    · decide
  split at hc
  · simp at hc
    rcases hc with rfl | rfl | rfl | rfl <;> decide
  · simp at hc
    rcases hc with rfl | rfl | rfl | rfl | rfl <;> decide
theorem word_ne (x : Val) : wordOf x ≠ [] := by
  unfold wordOf
  split
  · obtain ⟨c, r, e, _⟩ := itoa_head x.n
    rw [e]
    simp
  split
  · simp [hexWord]
  split <;> simp
theorem pieces_print (L : List Val) (h : L ≠ []) : pieces (printList L) = L.map wordOf :=
  pieces_join _ (by simpa using h) fun x hx => by
    obtain ⟨y, _, rfl⟩ := List.mem_map.1 hx
    exact word_no y
theorem print_ne (L : List Val) (h : L ≠ []) : printList L ≠ [] := by
  cases L with
  | nil => exact absurd rfl h
  | cons x r =>
    intro e
    have h1 := pieces_print (x :: r) (by simp)
    rw [e, pieces_none (show Lib.indexByte [] 32 = -1 from rfl)] at h1
    simp only [List.map_cons, List.cons.injEq] at h1
    exact word_ne x h1.1.symm
theorem join_len (l : List (List UInt8)) (B : Nat) (h : ∀ x ∈ l, x.length ≤ B) : (Lib.join l [32]).length ≤ l.length * (B + 1) := by
  match l, h with
  | [], _ => simp [Lib.join_nil]
  | [x], h => rw [Lib.join_one]; have := h x (by simp); simp; omega
  | x :: y :: r, h =>
    have e : Lib.join (x :: y :: r) [32] = x ++ 32 :: Lib.join (y :: r) [32] := by
      simp [Lib.join, List.intercalate, List.intersperse]
    have h1 := h x (by simp)
    have h2 := join_len (y :: r) B fun z hz => h z (by simp [hz])
    rw [e]
    simp only [List.length_append, List.length_cons] at h2 ⊢
    rw [Nat.add_mul] at h2 ⊢
    rw [Nat.add_mul]
    omega
end Go.Proofs.YtkmfopdklohgnaaDoor
