/- Plain facts on frames: a frame is read as it was made, a cut one is none, one with another byte is none of its length. -/
import Derived.Test.YtjnmgnnaefiegaaDoorWE
namespace Go.Proofs.YtjnmgnnaefiegaaDoor
open Go.RowKit

theorem num4 (a b c d : UInt8) : num [a, b, c, d] = a.toNat * 16777216 + b.toNat * 65536 + c.toNat * 256 + d.toNat := by
  have := a.toNat_lt
  have := b.toNat_lt
  have := c.toNat_lt
  have := d.toNat_lt
  simp only [num, List.foldl_cons, List.foldl_nil, numStep]
  omega
theorem be4 (n : Nat) : be n 4 = [UInt8.ofNat (n / 16777216), UInt8.ofNat (n / 65536), UInt8.ofNat (n / 256), UInt8.ofNat n] := by
  simp [be, List.range, List.range.loop]
theorem num_be4 (n : Nat) (h : n < 4294967296) : num (be n 4) = n := by
  rw [be4, num4]
  simp only [UInt8.toNat_ofNat']
  omega
theorem num4_inj (l l' : List UInt8) (h : l.length = 4) (h' : l'.length = 4) (e : num l = num l') : l = l' := by
  match l, l', h, h' with
  | [a, b, c, d], [a', b', c', d'], _, _ =>
    rw [num4, num4] at e
    have := a.toNat_lt
    have := b.toNat_lt
    have := c.toNat_lt
    have := d.toNat_lt
    have := a'.toNat_lt
    have := b'.toNat_lt
    have := c'.toNat_lt
    have := d'.toNat_lt
    have e1 : a.toNat = a'.toNat := by omega
    have e2 : b.toNat = b'.toNat := by omega
    have e3 : c.toNat = c'.toNat := by omega
    have e4 : d.toNat = d'.toNat := by omega
    rw [UInt8.toNat_inj.1 e1, UInt8.toNat_inj.1 e2, UInt8.toNat_inj.1 e3, UInt8.toNat_inj.1 e4]

theorem crcHalf_inj {a b : Nat} (ha : a < 4294967296) (hb : b < 4294967296) (h : crcHalf a = crcHalf b) : a = b := by
  have key : ∀ c, c < 4294967296 → crcHalf c / 2 ^ 28 = tab (c % 16) / 2 ^ 28 := by
    intro c hc
    unfold crcHalf
    rw [Nat.xor_div_two_pow, Nat.div_eq_of_lt (show c / 16 < 2 ^ 28 by omega), Nat.zero_xor]
  have ht : tab (a % 16) / 2 ^ 28 = tab (b % 16) / 2 ^ 28 := by rw [← key a ha, ← key b hb, h]
  have hj : a % 16 = b % 16 := by
    have k : ∀ i j : Fin 16, tab i.val / 2 ^ 28 = tab j.val / 2 ^ 28 → i = j := by decide
    have := k ⟨a % 16, by omega⟩ ⟨b % 16, by omega⟩ ht
    exact congrArg Fin.val this
  unfold crcHalf at h
  rw [hj] at h
  have h2 := congrArg (· ^^^ tab (b % 16)) h
  simp only [Nat.xor_assoc, Nat.xor_self, Nat.xor_zero] at h2
  omega
theorem crcByte_inj {a b : Nat} {x y : UInt8} (ha : a < 4294967296) (hb : b < 4294967296) (h : crcByte a x = crcByte b y) : a ^^^ x.toNat = b ^^^ y.toNat := by
  unfold crcByte at h
  exact crcHalf_inj (xor_byte_lt a x ha) (xor_byte_lt b y hb) (crcHalf_inj (crcHalf_lt _ (xor_byte_lt a x ha)) (crcHalf_lt _ (xor_byte_lt b y hb)) h)
theorem crcFold_inj {a b : Nat} (l : List UInt8) (ha : a < 4294967296) (hb : b < 4294967296) (h : crcFold a l = crcFold b l) : a = b := by
  induction l generalizing a b with
  | nil => exact h
  | cons x r ih =>
    have h1 := crcByte_inj ha hb (ih (crcByte_lt a x ha) (crcByte_lt b x hb) h)
    have h2 := congrArg (· ^^^ x.toNat) h1
    simpa only [Nat.xor_assoc, Nat.xor_self, Nat.xor_zero] using h2
theorem crcFold_set {c : Nat} (l : List UInt8) (j : Nat) (y : UInt8) (hc : c < 4294967296) (hj : j < l.length) (h : crcFold c (l.set j y) = crcFold c l) : y = l[j] := by
  induction l generalizing c j with
  | nil => simp at hj
  | cons x r ih =>
    cases j with
    | zero =>
      have h0 : crcFold (crcByte c y) r = crcFold (crcByte c x) r := h
      have h1 := crcByte_inj hc hc (crcFold_inj r (crcByte_lt c y hc) (crcByte_lt c x hc) h0)
      have h2 := congrArg (c ^^^ ·) h1
      simp only [← Nat.xor_assoc, Nat.xor_self, Nat.zero_xor] at h2
      exact UInt8.toNat_inj.1 h2
    | succ j => exact ih j (crcByte_lt c x hc) (by simpa using hj) h
theorem split4 (x : Nat) : ∃ a b c d, x % 256 = a ∧ x / 256 % 256 = b ∧ x / 65536 % 256 = c ∧ x / 16777216 = d ∧ x = d * 16777216 + c * 65536 + b * 256 + a ∧ a < 256 ∧ b < 256 ∧ c < 256 := by
  refine ⟨_, _, _, _, rfl, rfl, rfl, rfl, ?_, Nat.mod_lt _ (by decide), Nat.mod_lt _ (by decide), Nat.mod_lt _ (by decide)⟩
  rw [show x / 65536 = x / 256 / 256 by rw [Nat.div_div_eq_div_mul], show x / 16777216 = x / 256 / 256 / 256 by rw [Nat.div_div_eq_div_mul, Nat.div_div_eq_div_mul]]
  omega
theorem rev4_inj {a b : Nat} (ha : a < 4294967296) (hb : b < 4294967296) (h : rev4 a = rev4 b) : a = b := by
  unfold rev4 at h
  obtain ⟨a0, a1, a2, a3, e0, e1, e2, e3, ea, l0, l1, l2⟩ := split4 a
  obtain ⟨b0, b1, b2, b3, f0, f1, f2, f3, eb, m0, m1, m2⟩ := split4 b
  rw [e0, e1, e2, e3, f0, f1, f2, f3] at h
  clear e0 e1 e2 e3 f0 f1 f2 f3
  have l3 : a3 < 256 := by omega
  have m3 : b3 < 256 := by omega
  have g0 : a0 = b0 := by clear ea eb ha hb; omega
  have g1 : a1 = b1 := by clear ea eb ha hb; omega
  have g2 : a2 = b2 := by clear ea eb ha hb; omega
  have g3 : a3 = b3 := by clear ea eb ha hb; omega
  rw [ea, eb, g0, g1, g2, g3]

/-- What it is that a frame stands at the beginning. -/
theorem firstOf_parts {F inn : List UInt8} (h : firstOf F = some inn) : 8 ≤ F.length ∧ num (F.take 4) ≤ F.length - 8 ∧ num ((F.drop 4).take 4) = rev4 (crc (F.take 4 ++ inn)) ∧ inn = (F.drop 8).take (num (F.take 4)) ∧ inn.length = num (F.take 4) := by
  unfold firstOf at h
  split at h
  · cases h
  · split at h
    · cases h
    · split at h
      · cases h
      · split at h
        · cases h
        · rename_i h1 h2 h3 h4
          cases h
          refine ⟨by omega, by omega, Decidable.of_not_not h4, rfl, ?_⟩
          simp only [List.length_take, List.length_drop]
          omega
theorem firstOf_mk {F inn : List UInt8} (h0 : 8 ≤ F.length) (h1 : num (F.take 4) ≤ 1048576) (h2 : num (F.take 4) ≤ F.length - 8) (h3 : (F.drop 8).take (num (F.take 4)) = inn) (h4 : num ((F.drop 4).take 4) = rev4 (crc (F.take 4 ++ inn))) : firstOf F = some inn := by
  unfold firstOf
  rw [if_neg (by omega), if_neg (by omega), if_neg (by omega), h3, if_neg (by rw [Decidable.not_not]; exact h4)]
theorem frameOf_length (bs : List UInt8) : (frameOf bs).length = 8 + bs.length := by simp [frameOf, be_length]; omega
theorem frame_parts (bs r : List UInt8) : (frameOf bs ++ r).take 4 = be bs.length 4 ∧ ((frameOf bs ++ r).drop 4).take 4 = be (rev4 (crc (be bs.length 4 ++ bs))) 4 ∧ (frameOf bs ++ r).drop 8 = bs ++ r := by
  unfold frameOf
  have l1 := be_length bs.length 4
  have l2 := be_length (rev4 (crc (be bs.length 4 ++ bs))) 4
  generalize be (rev4 (crc (be bs.length 4 ++ bs))) 4 = s4 at l2 ⊢
  generalize be bs.length 4 = x4 at l1 ⊢
  refine ⟨?_, ?_, ?_⟩
  · rw [List.append_assoc, List.append_assoc, ← l1]; exact List.take_left
  · rw [List.append_assoc, List.append_assoc, ← l1, List.drop_left, l1, ← l2]; exact List.take_left
  · rw [List.append_assoc, show (8 : Nat) = (x4 ++ s4).length by simp [l1, l2]]; exact List.drop_left
theorem num_len (bs : List UInt8) (h : bs.length ≤ 1048576) : num (be bs.length 4) = bs.length := num_be4 _ (by omega)
theorem num_sum (bs : List UInt8) : num (be (rev4 (crc bs)) 4) = rev4 (crc bs) := num_be4 _ (rev4_lt _ (crc_lt _))
/-- A frame is read as it was made. -/
theorem firstOf_frame (bs r : List UInt8) (h : bs.length ≤ 1048576) : firstOf (frameOf bs ++ r) = some bs := by
  obtain ⟨e1, e2, e3⟩ := frame_parts bs r
  have hl : (frameOf bs ++ r).length = 8 + bs.length + r.length := by rw [List.length_append, frameOf_length]
  have hn := num_len bs h
  exact firstOf_mk (by omega) (by rw [e1, hn]; exact h) (by rw [e1, hn]; omega) (by rw [e1, hn, e3]; exact List.take_left) (by rw [e1, e2, num_sum])
/-- A cut one is none. -/
theorem firstOf_cut (bs : List UInt8) (h : bs.length ≤ 1048576) (k : Nat) (hk : k < 8 + bs.length) : firstOf ((frameOf bs).take k) = none := by
  have hl : ((frameOf bs).take k).length = k := by rw [List.length_take, frameOf_length]; omega
  cases hf : firstOf ((frameOf bs).take k) with
  | none => rfl
  | some inn =>
    obtain ⟨h1, h2, _⟩ := firstOf_parts hf
    rw [hl] at h1 h2
    have e := (frame_parts bs []).1
    rw [List.append_nil] at e
    rw [List.take_take, Nat.min_eq_left (by omega), e, num_len bs h] at h2
    omega
theorem framesOf_row (L : List (List UInt8)) (t : List UInt8) (hL : ∀ b ∈ L, b.length ≤ 1048576) (ht : firstOf t = none) : framesOf (L.flatMap frameOf ++ t) = (L, (L.flatMap frameOf).length) := by
  induction L with
  | nil => rw [List.flatMap_nil, List.nil_append, framesOf_none ht]; rfl
  | cons b L ih =>
    have hb := hL b (List.mem_cons_self ..)
    rw [List.flatMap_cons, List.append_assoc, framesOf_some (firstOf_frame b _ hb), ← frameOf_length, List.drop_left, ih (fun x hx => hL x (List.mem_cons_of_mem _ hx)), List.length_append]
theorem framesOf_nil {F : List UInt8} (h : (framesOf F).1.length = 0) : (framesOf F).2 = 0 := by
  cases hf : firstOf F with
  | none => rw [framesOf_none hf]
  | some inn => rw [framesOf_some hf] at h; simp at h
theorem set_same {l : List UInt8} {k : Nat} {y : UInt8} (hk : k < l.length) (h : l.set k y = l) : y = l[k] := by
  have h2 : (l.set k y)[k]'(by simpa using hk) = l[k] := by simp only [h]
  rwa [List.getElem_set_self] at h2
/-- With one other byte it is no frame of its length. -/
theorem rot (bs : List UInt8) (hbs : bs.length ≤ 1048576) (k : Nat) (hk : k < (frameOf bs).length) (y : UInt8) (hy : y ≠ (frameOf bs)[k]) :
    ¬ ((framesOf ((frameOf bs).set k y)).1.length = 1 ∧ (framesOf ((frameOf bs).set k y)).2 = 8 + bs.length) := by
  rintro ⟨h1, h2⟩
  have hl := frameOf_length bs
  obtain ⟨e1, e2, e3⟩ := frame_parts bs []
  simp only [List.append_nil] at e1 e2 e3
  have l1 := be_length bs.length 4
  have l2 := be_length (rev4 (crc (be bs.length 4 ++ bs))) 4
  have n1 := num_len bs hbs
  have n2 := num_sum (be bs.length 4 ++ bs)
  cases hf : firstOf ((frameOf bs).set k y) with
  | none => rw [framesOf_none hf] at h1; simp at h1
  | some inn =>
    rw [framesOf_some hf] at h1 h2
    simp only [List.length_cons, Nat.add_eq_right] at h1 h2
    have h3 := framesOf_nil h1
    have hin : inn.length = bs.length := by omega
    obtain ⟨p1, p2, p3, p4, p5⟩ := firstOf_parts hf
    by_cases k4 : k < 4
    · rw [List.take_set, e1, hin] at p5
      have := num4_inj _ _ (by rw [List.length_set, l1]) l1 (p5.symm.trans n1.symm)
      refine hy ((set_same (by omega) this).trans ?_)
      simp only [← e1, List.getElem_take]
    have t1 : ((frameOf bs).set k y).take 4 = be bs.length 4 := by rw [List.take_set_of_le (by omega), e1]
    rw [t1] at p3 p4
    rw [n1] at p4
    by_cases k8 : k < 8
    · rw [List.drop_set_of_lt (by omega), e3, List.take_length] at p4
      rw [List.drop_set, if_neg k4, List.take_set, e2, p4] at p3
      have := num4_inj _ _ (by rw [List.length_set, l2]) l2 (p3.trans n2.symm)
      refine hy ((set_same (by omega) this).trans ?_)
      simp only [← e2, List.getElem_take, List.getElem_drop]
      congr 1
      omega
    · rw [List.drop_set, if_neg k8, e3, List.take_of_length_le (by rw [List.length_set]; exact Nat.le_refl _)] at p4
      rw [List.drop_set, if_neg k4, List.take_set_of_le (by omega), e2, n2] at p3
      have q := rev4_inj (crc_lt _) (crc_lt _) p3
      have f1 := crcFold_lt 4294967295 (be bs.length 4 ++ bs) (by decide)
      have f2 := crcFold_lt 4294967295 (be bs.length 4 ++ inn) (by decide)
      unfold crc at q
      have q2 : crcFold 4294967295 (be bs.length 4 ++ inn) = crcFold 4294967295 (be bs.length 4 ++ bs) := by omega
      simp only [crcFold, List.foldl_append] at q2
      rw [p4] at q2
      have := crcFold_set bs (k - 8) y (crcFold_lt 4294967295 (be bs.length 4) (by decide)) (by omega) q2
      refine hy (this.trans ?_)
      have hg := List.getElem_drop (xs := frameOf bs) (i := 8) (j := k - 8) (h := by rw [List.length_drop]; omega)
      simp only [e3] at hg
      rw [hg]
      congr 1
      omega
end Go.Proofs.YtjnmgnnaefiegaaDoor
