/- Texts: plain facts for the document's side. -/
import Derived.Test.YtkmfopdklohgnaaDoorVX
namespace Go.Proofs.YtkmfopdklohgnaaDoor
open Go.Shelf
/-- The number that digits say. -/
def valD (l : List UInt8) : Nat := l.foldl (fun a c => 10 * a + (c.toNat - 48)) 0
theorem valD_snoc (l : List UInt8) (c : UInt8) : valD (l ++ [c]) = 10 * valD l + (c.toNat - 48) := by simp [valD]
theorem valD_digits : ∀ (n u : Nat), u ≤ n → valD (Lib.decDigits u) = u
  | n, u, hn => by
    rw [Lib.decDigits]
    split
    · rename_i h
      simp only [valD, List.foldl_cons, List.foldl_nil, UInt8.toNat_ofNat']
      omega
    · rename_i h
      cases n with
      | zero => omega
      | succ n =>
        rw [valD_snoc, valD_digits n (u / 10) (by omega), UInt8.toNat_ofNat']
        omega
theorem valD_le (l r : List UInt8) : valD l ≤ valD (l ++ r) := by
  induction r generalizing l with
  | nil => simp
  | cons c r ih =>
    have := ih (l ++ [c])
    rw [valD_snoc] at this
    rw [show l ++ c :: r = l ++ [c] ++ r by simp]
    omega
/-- Ahead of one more digit a number is at most a tenth. -/
theorem valD_tenth (l : List UInt8) (k : Nat) (h : k < l.length) : 10 * valD (l.take k) ≤ valD l := by
  have e : l.take k ++ [l[k]] ++ l.drop (k + 1) = l := by
    have := List.take_append_drop (k + 1) l
    rw [List.take_add_one, List.getElem?_eq_getElem h] at this
    simp
  have h1 := valD_le (l.take k ++ [l[k]]) (l.drop (k + 1))
  rw [e, valD_snoc] at h1
  omega
theorem valD_next (l : List UInt8) (k : Nat) (h : k < l.length) : valD (l.take (k + 1)) = 10 * valD (l.take k) + (l[k].toNat - 48) := by
  rw [List.take_add_one, List.getElem?_eq_getElem h]
  exact valD_snoc _ _
/-- A digit of the base 16, by its place. -/
theorem idx_hex (c : UInt8) : Lib.indexByte hexDigits c = if 48 ≤ c.toNat ∧ c.toNat ≤ 57 then (c.toNat : Int) - 48 else if 97 ≤ c.toNat ∧ c.toNat ≤ 102 then (c.toNat : Int) - 87 else -1 := by
  have H : ∀ k : Fin 256, Lib.indexByte hexDigits (UInt8.ofNat k.1) = if 48 ≤ k.1 ∧ k.1 ≤ 57 then (k.1 : Int) - 48 else if 97 ≤ k.1 ∧ k.1 ≤ 102 then (k.1 : Int) - 87 else -1 := by decide +kernel
  have := H ⟨c.toNat, c.toNat_lt⟩
  simpa using this
theorem hex_back (a : UInt8) (h : 0 ≤ Lib.indexByte hexDigits a) : (Lib.indexByte hexDigits a).toNat < 16 ∧ hexDigits.getD (Lib.indexByte hexDigits a).toNat 0 = a := by
  have H : ∀ k : Fin 256, 0 ≤ Lib.indexByte hexDigits (UInt8.ofNat k.1) → (Lib.indexByte hexDigits (UInt8.ofNat k.1)).toNat < 16 ∧ hexDigits.getD (Lib.indexByte hexDigits (UInt8.ofNat k.1)).toNat 0 = UInt8.ofNat k.1 := by decide +kernel
  have := H ⟨a.toNat, a.toNat_lt⟩
  simp only [UInt8.ofNat_toNat] at this
  exact this h
/-- What was read is written as it was. -/
theorem hex_unhex : ∀ (n : Nat) (s t : List UInt8), s.length ≤ n → unhex s = some t → t.flatMap hexOf = s
  | _, [], t, _, h => by simp [unhex] at h; subst h; rfl
  | _, [_], t, _, h => by simp [unhex] at h
  | 0, _ :: _ :: _, _, hn, _ => by simp at hn
  | n + 1, a :: b :: r, t, hn, h => by
    rw [unhex] at h
    split at h
    · cases h
    · rename_i h1
      obtain ⟨u, hu, rfl⟩ := Option.map_eq_some_iff.1 h
      obtain ⟨ha1, ha2⟩ := hex_back a (by omega)
      obtain ⟨hb1, hb2⟩ := hex_back b (by omega)
      have ih := hex_unhex n r u (by simp at hn; omega) hu
      rw [List.flatMap_cons, ih]
      have e : (UInt8.ofNat (16 * (Lib.indexByte hexDigits a).toNat + (Lib.indexByte hexDigits b).toNat)).toNat = 16 * (Lib.indexByte hexDigits a).toNat + (Lib.indexByte hexDigits b).toNat := by
        rw [UInt8.toNat_ofNat']; omega
      simp only [hexOf, e]
      rw [show (16 * (Lib.indexByte hexDigits a).toNat + (Lib.indexByte hexDigits b).toNat) / 16 = (Lib.indexByte hexDigits a).toNat by omega, show (16 * (Lib.indexByte hexDigits a).toNat + (Lib.indexByte hexDigits b).toNat) % 16 = (Lib.indexByte hexDigits b).toNat by omega, ha2, hb2]
      rfl
theorem unhex_even : ∀ (n : Nat) (s t : List UInt8), s.length ≤ n → unhex s = some t → s.length = 2 * t.length
  | _, [], t, _, h => by simp [unhex] at h; subst h; rfl
  | _, [_], t, _, h => by simp [unhex] at h
  | 0, _ :: _ :: _, _, hn, _ => by simp at hn
  | n + 1, a :: b :: r, t, hn, h => by
    rw [unhex] at h
    split at h
    · cases h
    · obtain ⟨u, hu, rfl⟩ := Option.map_eq_some_iff.1 h
      have := unhex_even n r u (by simp at hn; omega) hu
      simp only [List.length_cons]
      omega

/-- The text of a number. -/
def IsNum (s : List UInt8) (v : Int) : Prop := Lib.itoa v = s ∧ -9223372036854775808 ≤ v ∧ v ≤ 9223372036854775807
theorem read_num {s : List UInt8} (h1 : s ≠ wTrue) (h2 : s ≠ wFalse) (h3 : Lib.hasPrefix s [120, 39] = false) : (∃ v, IsNum s v ∧ readOf s = some ⟨1, v, []⟩) ∨ ((∀ v, ¬ IsNum s v) ∧ readOf s = none) := by
  by_cases hex : ∃ v, IsNum s v
  · obtain ⟨v, rfl, ha, hb⟩ := hex
    exact .inl ⟨v, ⟨rfl, ha, hb⟩, read_word ⟨1, v, []⟩ (by simp [Val.right]) ha hb⟩
  · refine .inr ⟨fun v hv => hex ⟨v, hv⟩, ?_⟩
    unfold readOf guessOf
    rw [if_neg h1, if_neg h2, h3]
    simp only [Bool.false_eq_true, if_false]
    split
    · rename_i v hv
      simp only [Option.bind_some]
      rw [if_neg]
      intro h
      have hp := print_one ⟨1, v, []⟩ (by simp [Val.right])
      rw [hp] at h
      have hr := Lib.atoiAll_bounds hv
      exact hex ⟨v, by simpa [wordOf] using h, hr.1, hr.2⟩
    · rfl
theorem num_head {s : List UInt8} {v : Int} (h : IsNum s v) : ∃ c r, s = c :: r ∧ c ≠ 120 := by
  obtain ⟨c, r, e, hc, _⟩ := itoa_head v
  rw [h.1] at e
  exact ⟨c, r, e, by rintro rfl; rcases hc with h | h <;> simp at h⟩
theorem read_hex (m : List UInt8) : readOf (120 :: 39 :: (m ++ [39])) = (unhex m).bind fun t => if t.length ≤ 256 then some ⟨2, 0, t⟩ else none := by
  have h3 : Lib.hasPrefix (120 :: 39 :: (m ++ [39])) [120, 39] = true := by simp [Lib.hasPrefix, List.isPrefixOf]
  unfold readOf guessOf
  rw [if_neg (by simp [wTrue]), if_neg (by simp [wFalse]), if_pos h3]
  simp only [List.drop_succ_cons, List.drop_zero]
  unfold readB
  rw [suffix_last, trim_last]
  cases hu : unhex m with
  | none => simp
  | some t =>
    have he := unhex_even _ m t (Nat.le_refl _) hu
    have hb := hex_unhex _ m t (Nat.le_refl _) hu
    have : (true && m.length % 2 == 0) = true := by simp [he]
    rw [if_pos this]
    simp only [Option.map_some, Option.bind_some]
    by_cases hl : t.length ≤ 256
    · have hr : (⟨2, 0, t⟩ : Val).right = true := by simp [Val.right, hl]
      rw [if_pos hl, print_one _ hr, if_pos]
      simp [wordOf, hexWord, hb]
    · have hr : (⟨2, 0, t⟩ : Val).right = false := by simp [Val.right, hl]
      rw [if_neg hl, if_neg]
      simp [printOf, hr]
theorem read_unhex {r : List UInt8} (h : r = [] ∨ ∃ m c, r = m ++ [c] ∧ c ≠ 39) : readOf (120 :: 39 :: r) = none := by
  have h3 : Lib.hasPrefix (120 :: 39 :: r) [120, 39] = true := by simp [Lib.hasPrefix, List.isPrefixOf]
  have h4 : Lib.hasSuffix r [39] = false := by
    rcases h with rfl | ⟨m, c, rfl, hc⟩
    · rfl
    · unfold Lib.hasSuffix
      cases hh : List.isSuffixOf [39] (m ++ [c]) with
      | false => rfl
      | true =>
        obtain ⟨t, ht⟩ := List.isSuffixOf_iff_suffix.1 hh
        have := List.append_inj_right' ht rfl
        simp at this
        exact absurd this.symm hc
  unfold readOf guessOf
  rw [if_neg (by simp [wTrue]), if_neg (by simp [wFalse]), if_pos h3]
  simp only [List.drop_succ_cons, List.drop_zero]
  unfold readB
  rw [h4]
  simp
end Go.Proofs.YtkmfopdklohgnaaDoor
