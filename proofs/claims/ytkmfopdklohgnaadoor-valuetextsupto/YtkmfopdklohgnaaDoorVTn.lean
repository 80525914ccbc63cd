/- The document's Decimal. -/
import Derived.Test.YtkmfopdklohgnaaDoorVTu
namespace Go.Proofs.YtkmfopdklohgnaaDoor
open Go.RowKit Go.Shelf
attribute [local go_sem high] eq_val eq_val0
theorem num_form {s : List UInt8} {v : Int} (h : IsNum s v) : ∃ (f m : Nat), (f = 0 ∨ f = 1) ∧ s.drop f = Lib.decDigits m ∧ s = (if f = 1 then [45] else []) ++ Lib.decDigits m ∧ v = (if f = 1 then -(m : Int) else m) ∧ m ≤ 9223372036854775808 ∧ (f = 0 → m ≤ 9223372036854775807) := by
  obtain ⟨rfl, h0, h1⟩ := h
  unfold Lib.itoa
  by_cases hn : v < 0
  · rw [if_pos hn]
    exact ⟨1, v.natAbs, .inr rfl, rfl, rfl, by simp; omega, by omega, by omega⟩
  · rw [if_neg hn]
    exact ⟨0, v.toNat, .inl rfl, rfl, rfl, by simp; omega, by omega, by omega⟩
/-- How Decimal ends at what is no number. -/
def NoEnd (w : World) (e : Ending) (w' : World) : Prop := ∃ n : Int, e = .returned (.tuple #[.int .i64 n, .bool false]) ∧ Below w.heap.size w w'
set_option maxRecDepth 100000 in
set_option maxHeartbeats 1000000 in
theorem rdec_pos (m : Nat) (hm : m ≤ 9223372036854775807) (w : World) : Calls Tryd.prog 28 #[.string ⟨(Lib.decDigits m).toArray⟩] w fun e w' => e = .returned (.tuple #[.int .i64 ((m : Int)), .bool true]) ∧ Below w.heap.size w w' := by
  have hD := fun W => rdigits_any ((m : Int)) (by omega) (by omega) W
  rw [show Lib.itoa ((m : Int)) = (Lib.decDigits m) by unfold Lib.itoa; rw [if_neg (by omega)]; rfl] at hD
  have hval := valD_digits m m (Nat.le_refl _)
  have hall := digits_are m m (Nat.le_refl _)
  have hlen : (Lib.decDigits m).length ≤ 19 := digits_len 19 m (by decide) (by omega)
  have hne := digits_ne m
  generalize Lib.decDigits m = ds at *
  have hl0 : 0 < ds.length := by cases ds with | nil => exact absurd rfl hne | cons => simp
  obtain ⟨S, hS⟩ : ∃ S, S = ds := ⟨_, rfl⟩
  have hSl : S.length = ds.length := by rw [hS]
  have hidx : Hid (∀ k (h : k < ds.length) (h' : k < S.length), (⟨S.toArray⟩ : ByteArray)[k]'(by show k < S.toArray.size; simpa using h') = ds[k]) := hidV fun k h h' => by subst hS; simp [ByteArray.getElem_eq_getElem_data]
  obtain ⟨c0, hc0, e0⟩ : ∃ c0 : UInt8, (48 ≤ c0.toNat ∧ c0.toNat ≤ 57) ∧ (⟨S.toArray⟩ : ByteArray)[0]'(by show 0 < S.toArray.size; simp; omega) = c0 := ⟨ds[0], hall _ (by simp), hidx.out 0 hl0 (by omega)⟩
  have hE : S.isEmpty = false := by subst hS; cases S with | nil => simp at hl0 | cons => rfl
  have hq : ((c0.toNat : Int) == 45) = false := by simp; omega
  rw [← hS] at hD ⊢
  clear hS
  go_enter Tryd.func28, Tryd.ntmps28
  go_wp2
  go_loopw [4, 6] (fun u i wr => ∃ (k x : Nat), k ≤ ds.length ∧ Hid (x = valD (ds.take k)) ∧ u = .int .u64 x ∧ i = .int .i64 (k) ∧ Below w.heap.size w wr) (fun _ i _ => S.length - (intOf i).toNat)
  case atStart => exact ⟨0, 0, Nat.zero_le _, hidV rfl, rfl, rfl, Below.refl _ _⟩
  case round =>
    obtain ⟨k, x, hk, hx, rfl, rfl, hb⟩ := hrel
    by_cases hlt : k < ds.length
    · have hc := hall ds[k] (by simp)
      have ht := valD_tenth ds k hlt
      have e1 := hidx.out k hlt (by omega)
      have hn := valD_next ds k hlt
      rw [← hx.out] at ht hn
      rw [hval] at ht
      generalize ds[k] = c at e1 hc hn
      obtain ⟨d, hd⟩ : ∃ d : Nat, c.toNat = d + 48 := ⟨c.toNat - 48, by omega⟩
      have hd9 : d ≤ 9 := by omega
      have hsub : IntKind.u8.wrap ((c.toNat : Int) - 48) = (d : Int) := by rw [IntKind.wrap_u8']; omega
      have hN : Hid (10 * x + d = valD (ds.take (k + 1))) := hidV (by rw [hn, hd]; omega)
      have hx1 : x ≤ 922337203685477580 := by omega
      have q1 : (48 : Int) ≤ (c.toNat : Int) := by omega
      have q2 : (c.toNat : Int) ≤ 57 := by omega
      clear hn hidx hall hd
      go_wp2
      exact ⟨⟨k + 1, 10 * x + d, by omega, hN, by go_num, by go_num, hb⟩, by simp [intOf]; omega⟩
    · have hxm : x = m := by rw [hx.out, List.take_of_length_le (by omega), hval]
      obtain rfl : k = ds.length := by omega
      subst hxm
      clear hx hidx hval hall
      have hnn : wrap64 (x : Int) = (x : Int) := by unfold wrap64; omega
      have hq1 : (0 : Int) < (ds.length : Int) := by omega
      have hq2 : (1 : Int) < (ds.length : Int) + 1 := by omega
      go_wp2_with (go_at_call 35; refine (hD _).mono ?_; rintro e w2 ⟨rfl, hb2⟩)
      go_ret2
      exact ⟨by simp, hb.trans (hb2.mono hb.size)⟩
set_option maxRecDepth 100000 in
set_option maxHeartbeats 1000000 in
theorem rdec_neg (m : Nat) (hm : m ≤ 9223372036854775808) (h0 : 0 < m) (w : World) : Calls Tryd.prog 28 #[.string ⟨(45 :: Lib.decDigits m).toArray⟩] w fun e w' => e = .returned (.tuple #[.int .i64 (-(m : Int)), .bool true]) ∧ Below w.heap.size w w' := by
  have hD := fun W => rdigits_any (-(m : Int)) (by omega) (by omega) W
  rw [show Lib.itoa (-(m : Int)) = (45 :: Lib.decDigits m) by unfold Lib.itoa; rw [if_pos (by omega)]; simp] at hD
  have hval := valD_digits m m (Nat.le_refl _)
  have hall := digits_are m m (Nat.le_refl _)
  have hlen : (Lib.decDigits m).length ≤ 19 := digits_len 19 m (by decide) (by omega)
  have hne := digits_ne m
  generalize Lib.decDigits m = ds at *
  have hl0 : 0 < ds.length := by cases ds with | nil => exact absurd rfl hne | cons => simp
  obtain ⟨S, hS⟩ : ∃ S, S = 45 :: ds := ⟨_, rfl⟩
  have hSl : S.length = ds.length + 1 := by rw [hS]; rfl
  have hidx : Hid (∀ k (h : k < ds.length) (h' : k + 1 < S.length), (⟨S.toArray⟩ : ByteArray)[k + 1]'(by show k + 1 < S.toArray.size; simpa using h') = ds[k]) := hidV fun k h h' => by subst hS; simp [ByteArray.getElem_eq_getElem_data]
  have e0 : (⟨S.toArray⟩ : ByteArray)[0]'(by show 0 < S.toArray.size; simp; omega) = 45 := by subst hS; simp [ByteArray.getElem_eq_getElem_data]
  have hE : S.isEmpty = false := by subst hS; rfl
  rw [← hS] at hD ⊢
  clear hS
  go_enter Tryd.func28, Tryd.ntmps28
  go_wp2
  go_loopw [4, 6] (fun u i wr => ∃ (k x : Nat), k ≤ ds.length ∧ Hid (x = valD (ds.take k)) ∧ u = .int .u64 x ∧ i = .int .i64 (((k + 1 : Nat) : Int)) ∧ Below w.heap.size w wr) (fun _ i _ => S.length - (intOf i).toNat)
  case atStart => exact ⟨0, 0, Nat.zero_le _, hidV rfl, rfl, rfl, Below.refl _ _⟩
  case round =>
    obtain ⟨k, x, hk, hx, rfl, rfl, hb⟩ := hrel
    by_cases hlt : k < ds.length
    · have hc := hall ds[k] (by simp)
      have ht := valD_tenth ds k hlt
      have e1 := hidx.out k hlt (by omega)
      have hn := valD_next ds k hlt
      rw [← hx.out] at ht hn
      rw [hval] at ht
      generalize ds[k] = c at e1 hc hn
      obtain ⟨d, hd⟩ : ∃ d : Nat, c.toNat = d + 48 := ⟨c.toNat - 48, by omega⟩
      have hd9 : d ≤ 9 := by omega
      have hsub : IntKind.u8.wrap ((c.toNat : Int) - 48) = (d : Int) := by rw [IntKind.wrap_u8']; omega
      have hN : Hid (10 * x + d = valD (ds.take (k + 1))) := hidV (by rw [hn, hd]; omega)
      have hx1 : x ≤ 922337203685477580 := by omega
      have q1 : (48 : Int) ≤ (c.toNat : Int) := by omega
      have q2 : (c.toNat : Int) ≤ 57 := by omega
      clear hn hidx hall hd
      go_wp2
      exact ⟨⟨k + 1, 10 * x + d, by omega, hN, by go_num, by go_num, hb⟩, by simp [intOf]; omega⟩
    · have hxm : x = m := by rw [hx.out, List.take_of_length_le (by omega), hval]
      obtain rfl : k = ds.length := by omega
      subst hxm
      clear hx hidx hval hall
      have hnn : wrap64 (IntKind.u64.wrap (-(x : Int))) = -(x : Int) := by rw [IntKind.wrap_u64]; unfold wrap64; omega
      have hq1 : (0 : Int) < (ds.length : Int) := by omega
      have hq2 : (1 : Int) < (ds.length : Int) + 1 := by omega
      go_wp2_with (go_at_call 35; refine (hD _).mono ?_; rintro e w2 ⟨rfl, hb2⟩)
      go_ret2
      exact ⟨by simp, hb.trans (hb2.mono hb.size)⟩
set_option maxRecDepth 100000 in
set_option maxHeartbeats 1000000 in
theorem rdec_no0 (S : List UInt8) (hS : S.length ≤ 1048576) (hno : ∀ v, ¬ IsNum S v) (hl0 : 0 < S.length + 0) (hl1 : 0 < S.length) (c0 : UInt8) (e0 : (⟨S.toArray⟩ : ByteArray)[0]'(by show 0 < S.toArray.size; simpa using hl1) = c0) (hq : ((c0.toNat : Int) == 45) = false) (w : World) : Calls Tryd.prog 28 #[.string ⟨S.toArray⟩] w (NoEnd w) := by
  have hE : S.isEmpty = false := by cases S with | nil => simp at hl1 | cons => rfl
  have hidx : Hid (∀ k (h : k < S.length), (⟨S.toArray⟩ : ByteArray)[k]'(by show k < S.toArray.size; simpa using h) = S[k]) := hidV fun k h => by simp [ByteArray.getElem_eq_getElem_data]
  have hD : ∀ n, -9223372036854775808 ≤ n → n ≤ 9223372036854775807 → ∀ W, Calls Tryd.prog 35 #[.int .i64 n] W fun e w' => ∃ t : List UInt8, e = .returned (.string ⟨t.toArray⟩) ∧ (t == S) = false ∧ Below W.heap.size W w' := fun n h0 h1 W => (rdigits_any n h0 h1 W).mono fun e w' ⟨he, hb⟩ => ⟨_, he, (by
      have : Lib.itoa n ≠ S := fun h => hno n ⟨h, h0, h1⟩
      simpa using this), hb⟩
  clear hno
  go_enter Tryd.func28, Tryd.ntmps28
  go_wp2
  go_loopw [4, 6] (fun u i wr => ∃ (j x : Nat), j ≤ S.length ∧ x < 18446744073709551616 ∧ u = .int .u64 x ∧ i = .int .i64 j ∧ Below w.heap.size w wr) (fun _ i _ => S.length - (intOf i).toNat)
  case atStart => exact ⟨0, 0, by omega, by decide, rfl, rfl, Below.refl _ _⟩
  case round =>
    obtain ⟨j, x, hk, hx, rfl, rfl, hb⟩ := hrel
    by_cases hlt : j < S.length
    · have e1 := hidx.out j hlt
      generalize S[j] = c at e1
      by_cases q1 : (48 : Int) ≤ (c.toNat : Int)
      · by_cases q2 : (c.toNat : Int) ≤ 57
        · by_cases q3 : (j : Int) ≤ 19
          · by_cases q4 : (x : Int) ≤ 1844674407370955161
            · obtain ⟨d, hd⟩ : ∃ d : Nat, c.toNat = d + 48 := ⟨c.toNat - 48, by omega⟩
              have hd9 : d ≤ 9 := by omega
              have hsub : IntKind.u8.wrap ((c.toNat : Int) - 48) = (d : Int) := by rw [IntKind.wrap_u8']; omega
              clear hD hidx hd
              go_wp2
              first | exact ⟨⟨j + 1, 10 * x + d, by omega, by omega, by go_num, by go_num, hb⟩, by simp [intOf]; omega⟩ | exact ⟨⟨j + 1, (10 * x + d) % 18446744073709551616, by omega, by omega, by simp [IntKind.wrap_u64], by go_num, hb⟩, by simp [intOf]; omega⟩
            · have q4' : (1844674407370955161 : Int) < (x : Int) := by omega
              clear hD hidx
              go_wp2
              go_ret2
              exact ⟨_, rfl, hb⟩
          · have q3' : (19 : Int) < (j : Int) := by omega
            clear hD hidx
            go_wp2
            go_ret2
            exact ⟨_, rfl, hb⟩
        · have q2' : (57 : Int) < (c.toNat : Int) := by omega
          clear hD hidx
          go_wp2
          go_ret2
          exact ⟨_, rfl, hb⟩
      · have q1' : (c.toNat : Int) < 48 := by omega
        clear hD hidx
        go_wp2
        go_ret2
        exact ⟨_, rfl, hb⟩
    · obtain rfl : j = S.length := by omega
      clear hidx
      obtain ⟨nn, hnn, hr1, hr2⟩ : ∃ nn : Int, wrap64 (x : Int) = nn ∧ -9223372036854775808 ≤ nn ∧ nn ≤ 9223372036854775807 := ⟨_, rfl, by unfold wrap64; omega, by unfold wrap64; omega⟩
      have hD' := fun W => hD nn hr1 hr2 W
      clear hD
      by_cases hz : 0 < S.length
      · have hz' : (0 : Int) < (S.length : Int) := by omega
        go_wp2_with (go_at_call 35; refine (hD' _).mono ?_; rintro e w2 ⟨t, rfl, hts, hb2⟩)
        go_ret2
        exact ⟨_, rfl, hb.trans (hb2.mono hb.size)⟩
      · exact absurd hl1 hz
set_option maxRecDepth 100000 in
set_option maxHeartbeats 1000000 in
theorem rdec_no1 (S : List UInt8) (hS : S.length ≤ 1048576) (hno : ∀ v, ¬ IsNum S v) (hl0 : 1 < S.length + 1) (hl1 : 0 < S.length) (c0 : UInt8) (e0 : (⟨S.toArray⟩ : ByteArray)[0]'(by show 0 < S.toArray.size; simpa using hl1) = c0) (hq : ((c0.toNat : Int) == 45) = true) (w : World) : Calls Tryd.prog 28 #[.string ⟨S.toArray⟩] w (NoEnd w) := by
  have hE : S.isEmpty = false := by cases S with | nil => simp at hl1 | cons => rfl
  have hidx : Hid (∀ k (h : k < S.length), (⟨S.toArray⟩ : ByteArray)[k]'(by show k < S.toArray.size; simpa using h) = S[k]) := hidV fun k h => by simp [ByteArray.getElem_eq_getElem_data]
  have hD : ∀ n, -9223372036854775808 ≤ n → n ≤ 9223372036854775807 → ∀ W, Calls Tryd.prog 35 #[.int .i64 n] W fun e w' => ∃ t : List UInt8, e = .returned (.string ⟨t.toArray⟩) ∧ (t == S) = false ∧ Below W.heap.size W w' := fun n h0 h1 W => (rdigits_any n h0 h1 W).mono fun e w' ⟨he, hb⟩ => ⟨_, he, (by
      have : Lib.itoa n ≠ S := fun h => hno n ⟨h, h0, h1⟩
      simpa using this), hb⟩
  clear hno
  go_enter Tryd.func28, Tryd.ntmps28
  go_wp2
  go_loopw [4, 6] (fun u i wr => ∃ (j x : Nat), j ≤ S.length ∧ x < 18446744073709551616 ∧ u = .int .u64 x ∧ i = .int .i64 j ∧ Below w.heap.size w wr) (fun _ i _ => S.length - (intOf i).toNat)
  case atStart => exact ⟨1, 0, by omega, by decide, rfl, rfl, Below.refl _ _⟩
  case round =>
    obtain ⟨j, x, hk, hx, rfl, rfl, hb⟩ := hrel
    by_cases hlt : j < S.length
    · have e1 := hidx.out j hlt
      generalize S[j] = c at e1
      by_cases q1 : (48 : Int) ≤ (c.toNat : Int)
      · by_cases q2 : (c.toNat : Int) ≤ 57
        · by_cases q3 : (j : Int) ≤ 19
          · by_cases q4 : (x : Int) ≤ 1844674407370955161
            · obtain ⟨d, hd⟩ : ∃ d : Nat, c.toNat = d + 48 := ⟨c.toNat - 48, by omega⟩
              have hd9 : d ≤ 9 := by omega
              have hsub : IntKind.u8.wrap ((c.toNat : Int) - 48) = (d : Int) := by rw [IntKind.wrap_u8']; omega
              clear hD hidx hd
              go_wp2
              first | exact ⟨⟨j + 1, 10 * x + d, by omega, by omega, by go_num, by go_num, hb⟩, by simp [intOf]; omega⟩ | exact ⟨⟨j + 1, (10 * x + d) % 18446744073709551616, by omega, by omega, by simp [IntKind.wrap_u64], by go_num, hb⟩, by simp [intOf]; omega⟩
            · have q4' : (1844674407370955161 : Int) < (x : Int) := by omega
              clear hD hidx
              go_wp2
              go_ret2
              exact ⟨_, rfl, hb⟩
          · have q3' : (19 : Int) < (j : Int) := by omega
            clear hD hidx
            go_wp2
            go_ret2
            exact ⟨_, rfl, hb⟩
        · have q2' : (57 : Int) < (c.toNat : Int) := by omega
          clear hD hidx
          go_wp2
          go_ret2
          exact ⟨_, rfl, hb⟩
      · have q1' : (c.toNat : Int) < 48 := by omega
        clear hD hidx
        go_wp2
        go_ret2
        exact ⟨_, rfl, hb⟩
    · obtain rfl : j = S.length := by omega
      clear hidx
      obtain ⟨nn, hnn, hr1, hr2⟩ : ∃ nn : Int, wrap64 (IntKind.u64.wrap (-(x : Int))) = nn ∧ -9223372036854775808 ≤ nn ∧ nn ≤ 9223372036854775807 := ⟨_, rfl, by unfold wrap64; omega, by unfold wrap64; omega⟩
      have hD' := fun W => hD nn hr1 hr2 W
      clear hD
      by_cases hz : 1 < S.length
      · have hz' : (1 : Int) < (S.length : Int) := by omega
        go_wp2_with (go_at_call 35; refine (hD' _).mono ?_; rintro e w2 ⟨t, rfl, hts, hb2⟩)
        go_ret2
        exact ⟨_, rfl, hb.trans (hb2.mono hb.size)⟩
      · have hz' : (S.length : Int) ≤ 1 := by omega
        go_wp2
        go_ret2
        exact ⟨_, rfl, hb⟩
set_option maxRecDepth 100000 in
set_option maxHeartbeats 1000000 in
theorem rdec_nil (w : World) : Calls Tryd.prog 28 #[.string ⟨#[]⟩] w (NoEnd w) := by
  go_enter Tryd.func28, Tryd.ntmps28
  go_wp2
  go_loopw [4, 6] (fun u i wr => u = .int .u64 0 ∧ i = .int .i64 0 ∧ wr = w) (fun _ _ _ => 0)
  case atStart => exact ⟨rfl, rfl, rfl⟩
  case round =>
    obtain ⟨rfl, rfl, rfl⟩ := hrel
    go_wp2
    go_ret2
    exact ⟨_, rfl, Below.refl _ _⟩
/-- How Decimal ends. -/
def DecEnd (s : List UInt8) (w : World) (e : Ending) (w' : World) : Prop := ∃ (n : Int) (ok : Bool), e = .returned (.tuple #[.int .i64 n, .bool ok]) ∧ ((ok = true ∧ IsNum s n) ∨ (ok = false ∧ ∀ v, ¬ IsNum s v)) ∧ Below w.heap.size w w'
theorem rdec_any (s : List UInt8) (hs : s.length ≤ 1048576) (w : World) : Calls Tryd.prog 28 #[.string ⟨s.toArray⟩] w (DecEnd s w) := by
  by_cases hex : ∃ v, IsNum s v
  · obtain ⟨v, hv⟩ := hex
    obtain ⟨f, m, hf, _, hS, rfl, hm1, hm2⟩ := num_form hv
    rcases hf with rfl | rfl
    · simp only [Nat.zero_ne_one, if_false, List.nil_append] at hS hv ⊢
      refine (?_ : Calls Tryd.prog 28 #[.string ⟨s.toArray⟩] w fun e w' => e = .returned (.tuple #[.int .i64 m, .bool true]) ∧ Below w.heap.size w w').mono fun e w' ⟨he, hb⟩ => ⟨m, true, he, .inl ⟨rfl, hv⟩, hb⟩
      rw [hS]
      exact rdec_pos m (hm2 rfl) w
    · simp only [if_true, List.singleton_append] at hS hv ⊢
      have h0 : 0 < m := by
        rcases Nat.eq_zero_or_pos m with rfl | h
        · have := hv.1
          rw [hS] at this
          unfold Lib.itoa at this
          simp at this
        · exact h
      refine (?_ : Calls Tryd.prog 28 #[.string ⟨s.toArray⟩] w fun e w' => e = .returned (.tuple #[.int .i64 (-(m : Int)), .bool true]) ∧ Below w.heap.size w w').mono fun e w' ⟨he, hb⟩ => ⟨-(m : Int), true, he, .inl ⟨rfl, hv⟩, hb⟩
      rw [hS]
      exact rdec_neg m hm1 h0 w
  · have hno : ∀ v, ¬ IsNum s v := fun v hv => hex ⟨v, hv⟩
    refine (?_ : Calls Tryd.prog 28 #[.string ⟨s.toArray⟩] w (NoEnd w)).mono fun e w' ⟨n, he, hb⟩ => ⟨n, false, he, .inr ⟨rfl, hno⟩, hb⟩
    cases s with
    | nil => exact rdec_nil w
    | cons c r =>
      have hl1 : 0 < (c :: r).length := by simp
      cases hq : ((c.toNat : Int) == 45) with
      | false => exact rdec_no0 (c :: r) hs hno (by simp) hl1 c (by simp [ByteArray.getElem_eq_getElem_data]) hq w
      | true => exact rdec_no1 (c :: r) hs hno (by simp) hl1 c (by simp [ByteArray.getElem_eq_getElem_data]) hq w
end Go.Proofs.YtkmfopdklohgnaaDoor
