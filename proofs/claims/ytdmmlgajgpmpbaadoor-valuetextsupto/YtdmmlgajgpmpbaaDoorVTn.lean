/- The document's Decimal. The document's Word. The document's Parse. -/
import Derived.Test.YtdmmlgajgpmpbaaDoorVTd
import Derived.Test.YtdmmlgajgpmpbaaDoorVZ
import Derived.Test.YtdmmlgajgpmpbaaDoorVO
namespace Go.Proofs.YtdmmlgajgpmpbaaDoor
open Go.RowKit Go.Shelf
attribute [local go_sem high] eq_val eq_val0
theorem num_form {s : List UInt8} {v : Int} (h : IsNum s v) : ∃ (f m : Nat), (f = 0 ∨ f = 1) ∧ s.drop f = Lib.decDigits m ∧ s = (if f = 1 then [45] else []) ++ Lib.decDigits m ∧ v = (if f = 1 then -(m : Int) else m) ∧ m ≤ 9223372036854775808 ∧ (f = 0 → m ≤ 9223372036854775807) := by
  obtain ⟨rfl, h0, h1⟩ := h
  unfold Lib.itoa
  by_cases hn : v < 0
  · rw [if_pos hn]
    exact ⟨1, v.natAbs, .inr rfl, rfl, rfl, by simp; omega, by omega, by omega⟩
  · rw [if_neg hn]
    exact ⟨0, v.toNat, .inl rfl, rfl, rfl, by simp; omega, by omega, by omega⟩
/-- How Decimal ends at what is no number. -/
def NoEnd (w : World) (e : Ending) (w' : World) : Prop := ∃ n : Int, e = .returned (.tuple #[.int .i64 n, .bool false]) ∧ Below w.heap.size w w'
set_option maxRecDepth 100000 in
set_option maxHeartbeats 1000000 in
theorem rdec_pos (m : Nat) (hm : m ≤ 9223372036854775807) (w : World) : Calls Tryd.prog 39 #[.string ⟨(Lib.decDigits m).toArray⟩] w fun e w' => e = .returned (.tuple #[.int .i64 ((m : Int)), .bool true]) ∧ Below w.heap.size w w' := by
  have hD := fun W => rdigits_any ((m : Int)) (by omega) (by omega) W
  rw [show Lib.itoa ((m : Int)) = (Lib.decDigits m) by unfold Lib.itoa; rw [if_neg (by omega)]; rfl] at hD
  have hval := valD_digits m m (Nat.le_refl _)
  have hall := digits_are m m (Nat.le_refl _)
  have hlen : (Lib.decDigits m).length ≤ 19 := digits_len 19 m (by decide) (by omega)
  have hne := digits_ne m
  generalize Lib.decDigits m = ds at *
  have hl0 : 0 < ds.length := by cases ds with | nil => exact absurd rfl hne | cons => simp
  obtain ⟨S, hS⟩ : ∃ S, S = ds := ⟨_, rfl⟩
  have hSl : S.length = ds.length := by rw [hS]
  have hidx : Hid (∀ k (h : k < ds.length) (h' : k < S.length), (⟨S.toArray⟩ : ByteArray)[k]'(by show k < S.toArray.size; simpa using h') = ds[k]) := hidV fun k h h' => by subst hS; simp [ByteArray.getElem_eq_getElem_data]
  obtain ⟨c0, hc0, e0⟩ : ∃ c0 : UInt8, (48 ≤ c0.toNat ∧ c0.toNat ≤ 57) ∧ (⟨S.toArray⟩ : ByteArray)[0]'(by show 0 < S.toArray.size; simp; omega) = c0 := ⟨ds[0], hall _ (by simp), hidx.out 0 hl0 (by omega)⟩
  have hE : S.isEmpty = false := by subst hS; cases S with | nil => simp at hl0 | cons => rfl
  have hq : ((c0.toNat : Int) == 45) = false := by simp; omega
  rw [← hS] at hD ⊢
  clear hS
  go_enter Tryd.func39, Tryd.ntmps39
  go_wp2
  go_loopw [4, 6] (fun u i wr => ∃ (k x : Nat), k ≤ ds.length ∧ Hid (x = valD (ds.take k)) ∧ u = .int .u64 x ∧ i = .int .i64 (k) ∧ Below w.heap.size w wr) (fun _ i _ => S.length - (intOf i).toNat)
  case atStart => exact ⟨0, 0, Nat.zero_le _, hidV rfl, rfl, rfl, Below.refl _ _⟩
  case round =>
    obtain ⟨k, x, hk, hx, rfl, rfl, hb⟩ := hrel
    by_cases hlt : k < ds.length
    · have hc := hall ds[k] (by simp)
      have ht := valD_tenth ds k hlt
      have e1 := hidx.out k hlt (by omega)
      have hn := valD_next ds k hlt
      rw [← hx.out] at ht hn
      rw [hval] at ht
      generalize ds[k] = c at e1 hc hn
      obtain ⟨d, hd⟩ : ∃ d : Nat, c.toNat = d + 48 := ⟨c.toNat - 48, by omega⟩
      have hd9 : d ≤ 9 := by omega
      have hsub : IntKind.u8.wrap ((c.toNat : Int) - 48) = (d : Int) := by rw [IntKind.wrap_u8']; omega
      have hN : Hid (10 * x + d = valD (ds.take (k + 1))) := hidV (by rw [hn, hd]; omega)
      have hx1 : x ≤ 922337203685477580 := by omega
      have q1 : (48 : Int) ≤ (c.toNat : Int) := by omega
      have q2 : (c.toNat : Int) ≤ 57 := by omega
      clear hn hidx hall hd
      go_wp2
      exact ⟨⟨k + 1, 10 * x + d, by omega, hN, by go_num, by go_num, hb⟩, by simp [intOf]; omega⟩
    · have hxm : x = m := by rw [hx.out, List.take_of_length_le (by omega), hval]
      obtain rfl : k = ds.length := by omega
      subst hxm
      clear hx hidx hval hall
      have hnn : wrap64 (x : Int) = (x : Int) := by unfold wrap64; omega
      have hq1 : (0 : Int) < (ds.length : Int) := by omega
      have hq2 : (1 : Int) < (ds.length : Int) + 1 := by omega
      go_wp2_with (go_at_call 45; refine (hD _).mono ?_; rintro e w2 ⟨rfl, hb2⟩)
      go_ret2
      exact ⟨by simp, hb.trans (hb2.mono hb.size)⟩
set_option maxRecDepth 100000 in
set_option maxHeartbeats 1000000 in
theorem rdec_neg (m : Nat) (hm : m ≤ 9223372036854775808) (h0 : 0 < m) (w : World) : Calls Tryd.prog 39 #[.string ⟨(45 :: Lib.decDigits m).toArray⟩] w fun e w' => e = .returned (.tuple #[.int .i64 (-(m : Int)), .bool true]) ∧ Below w.heap.size w w' := by
  have hD := fun W => rdigits_any (-(m : Int)) (by omega) (by omega) W
  rw [show Lib.itoa (-(m : Int)) = (45 :: Lib.decDigits m) by unfold Lib.itoa; rw [if_pos (by omega)]; simp] at hD
  have hval := valD_digits m m (Nat.le_refl _)
  have hall := digits_are m m (Nat.le_refl _)
  have hlen : (Lib.decDigits m).length ≤ 19 := digits_len 19 m (by decide) (by omega)
  have hne := digits_ne m
  generalize Lib.decDigits m = ds at *
  have hl0 : 0 < ds.length := by cases ds with | nil => exact absurd rfl hne | cons => simp
  obtain ⟨S, hS⟩ : ∃ S, S = 45 :: ds := ⟨_, rfl⟩
  have hSl : S.length = ds.length + 1 := by rw [hS]; rfl
  have hidx : Hid (∀ k (h : k < ds.length) (h' : k + 1 < S.length), (⟨S.toArray⟩ : ByteArray)[k + 1]'(by show k + 1 < S.toArray.size; simpa using h') = ds[k]) := hidV fun k h h' => by subst hS; simp [ByteArray.getElem_eq_getElem_data]
  have e0 : (⟨S.toArray⟩ : ByteArray)[0]'(by show 0 < S.toArray.size; simp; omega) = 45 := by subst hS; simp [ByteArray.getElem_eq_getElem_data]
  have hE : S.isEmpty = false := by subst hS; rfl
  rw [← hS] at hD ⊢
  clear hS
  go_enter Tryd.func39, Tryd.ntmps39
  go_wp2
  go_loopw [4, 6] (fun u i wr => ∃ (k x : Nat), k ≤ ds.length ∧ Hid (x = valD (ds.take k)) ∧ u = .int .u64 x ∧ i = .int .i64 (((k + 1 : Nat) : Int)) ∧ Below w.heap.size w wr) (fun _ i _ => S.length - (intOf i).toNat)
  case atStart => exact ⟨0, 0, Nat.zero_le _, hidV rfl, rfl, rfl, Below.refl _ _⟩
  case round =>
    obtain ⟨k, x, hk, hx, rfl, rfl, hb⟩ := hrel
    by_cases hlt : k < ds.length
    · have hc := hall ds[k] (by simp)
      have ht := valD_tenth ds k hlt
      have e1 := hidx.out k hlt (by omega)
      have hn := valD_next ds k hlt
      rw [← hx.out] at ht hn
      rw [hval] at ht
      generalize ds[k] = c at e1 hc hn
      obtain ⟨d, hd⟩ : ∃ d : Nat, c.toNat = d + 48 := ⟨c.toNat - 48, by omega⟩
      have hd9 : d ≤ 9 := by omega
      have hsub : IntKind.u8.wrap ((c.toNat : Int) - 48) = (d : Int) := by rw [IntKind.wrap_u8']; omega
      have hN : Hid (10 * x + d = valD (ds.take (k + 1))) := hidV (by rw [hn, hd]; omega)
      have hx1 : x ≤ 922337203685477580 := by omega
      have q1 : (48 : Int) ≤ (c.toNat : Int) := by omega
      have q2 : (c.toNat : Int) ≤ 57 := by omega
      clear hn hidx hall hd
      go_wp2
      exact ⟨⟨k + 1, 10 * x + d, by omega, hN, by go_num, by go_num, hb⟩, by simp [intOf]; omega⟩
    · have hxm : x = m := by rw [hx.out, List.take_of_length_le (by omega), hval]
      obtain rfl : k = ds.length := by omega
      subst hxm
      clear hx hidx hval hall
      have hnn : wrap64 (IntKind.u64.wrap (-(x : Int))) = -(x : Int) := by rw [IntKind.wrap_u64]; unfold wrap64; omega
      have hq1 : (0 : Int) < (ds.length : Int) := by omega
      have hq2 : (1 : Int) < (ds.length : Int) + 1 := by omega
      go_wp2_with (go_at_call 45; refine (hD _).mono ?_; rintro e w2 ⟨rfl, hb2⟩)
      go_ret2
      exact ⟨by simp, hb.trans (hb2.mono hb.size)⟩
set_option maxRecDepth 100000 in
set_option maxHeartbeats 1000000 in
theorem rdec_no0 (S : List UInt8) (hS : S.length ≤ 1048576) (hno : ∀ v, ¬ IsNum S v) (hl0 : 0 < S.length + 0) (hl1 : 0 < S.length) (c0 : UInt8) (e0 : (⟨S.toArray⟩ : ByteArray)[0]'(by show 0 < S.toArray.size; simpa using hl1) = c0) (hq : ((c0.toNat : Int) == 45) = false) (w : World) : Calls Tryd.prog 39 #[.string ⟨S.toArray⟩] w (NoEnd w) := by
  have hE : S.isEmpty = false := by cases S with | nil => simp at hl1 | cons => rfl
  have hidx : Hid (∀ k (h : k < S.length), (⟨S.toArray⟩ : ByteArray)[k]'(by show k < S.toArray.size; simpa using h) = S[k]) := hidV fun k h => by simp [ByteArray.getElem_eq_getElem_data]
  have hD : ∀ n, -9223372036854775808 ≤ n → n ≤ 9223372036854775807 → ∀ W, Calls Tryd.prog 45 #[.int .i64 n] W fun e w' => ∃ t : List UInt8, e = .returned (.string ⟨t.toArray⟩) ∧ (t == S) = false ∧ Below W.heap.size W w' := fun n h0 h1 W => (rdigits_any n h0 h1 W).mono fun e w' ⟨he, hb⟩ => ⟨_, he, (by
      have : Lib.itoa n ≠ S := fun h => hno n ⟨h, h0, h1⟩
      simpa using this), hb⟩
  clear hno
  go_enter Tryd.func39, Tryd.ntmps39
  go_wp2
  go_loopw [4, 6] (fun u i wr => ∃ (j x : Nat), j ≤ S.length ∧ x < 18446744073709551616 ∧ u = .int .u64 x ∧ i = .int .i64 j ∧ Below w.heap.size w wr) (fun _ i _ => S.length - (intOf i).toNat)
  case atStart => exact ⟨0, 0, by omega, by decide, rfl, rfl, Below.refl _ _⟩
  case round =>
    obtain ⟨j, x, hk, hx, rfl, rfl, hb⟩ := hrel
    by_cases hlt : j < S.length
    · have e1 := hidx.out j hlt
      generalize S[j] = c at e1
      by_cases q1 : (48 : Int) ≤ (c.toNat : Int)
      · by_cases q2 : (c.toNat : Int) ≤ 57
        · by_cases q3 : (j : Int) ≤ 19
          · by_cases q4 : (x : Int) ≤ 1844674407370955161
            · obtain ⟨d, hd⟩ : ∃ d : Nat, c.toNat = d + 48 := ⟨c.toNat - 48, by omega⟩
              have hd9 : d ≤ 9 := by omega
              have hsub : IntKind.u8.wrap ((c.toNat : Int) - 48) = (d : Int) := by rw [IntKind.wrap_u8']; omega
              clear hD hidx hd
              go_wp2
              first | exact ⟨⟨j + 1, 10 * x + d, by omega, by omega, by go_num, by go_num, hb⟩, by simp [intOf]; omega⟩ | exact ⟨⟨j + 1, (10 * x + d) % 18446744073709551616, by omega, by omega, by simp [IntKind.wrap_u64], by go_num, hb⟩, by simp [intOf]; omega⟩
            · have q4' : (1844674407370955161 : Int) < (x : Int) := by omega
              clear hD hidx
              go_wp2
              go_ret2
              exact ⟨_, rfl, hb⟩
          · have q3' : (19 : Int) < (j : Int) := by omega
            clear hD hidx
            go_wp2
            go_ret2
            exact ⟨_, rfl, hb⟩
        · have q2' : (57 : Int) < (c.toNat : Int) := by omega
          clear hD hidx
          go_wp2
          go_ret2
          exact ⟨_, rfl, hb⟩
      · have q1' : (c.toNat : Int) < 48 := by omega
        clear hD hidx
        go_wp2
        go_ret2
        exact ⟨_, rfl, hb⟩
    · obtain rfl : j = S.length := by omega
      clear hidx
      obtain ⟨nn, hnn, hr1, hr2⟩ : ∃ nn : Int, wrap64 (x : Int) = nn ∧ -9223372036854775808 ≤ nn ∧ nn ≤ 9223372036854775807 := ⟨_, rfl, by unfold wrap64; omega, by unfold wrap64; omega⟩
      have hD' := fun W => hD nn hr1 hr2 W
      clear hD
      by_cases hz : 0 < S.length
      · have hz' : (0 : Int) < (S.length : Int) := by omega
        go_wp2_with (go_at_call 45; refine (hD' _).mono ?_; rintro e w2 ⟨t, rfl, hts, hb2⟩)
        go_ret2
        exact ⟨_, rfl, hb.trans (hb2.mono hb.size)⟩
      · exact absurd hl1 hz
set_option maxRecDepth 100000 in
set_option maxHeartbeats 1000000 in
theorem rdec_no1 (S : List UInt8) (hS : S.length ≤ 1048576) (hno : ∀ v, ¬ IsNum S v) (hl0 : 1 < S.length + 1) (hl1 : 0 < S.length) (c0 : UInt8) (e0 : (⟨S.toArray⟩ : ByteArray)[0]'(by show 0 < S.toArray.size; simpa using hl1) = c0) (hq : ((c0.toNat : Int) == 45) = true) (w : World) : Calls Tryd.prog 39 #[.string ⟨S.toArray⟩] w (NoEnd w) := by
  have hE : S.isEmpty = false := by cases S with | nil => simp at hl1 | cons => rfl
  have hidx : Hid (∀ k (h : k < S.length), (⟨S.toArray⟩ : ByteArray)[k]'(by show k < S.toArray.size; simpa using h) = S[k]) := hidV fun k h => by simp [ByteArray.getElem_eq_getElem_data]
  have hD : ∀ n, -9223372036854775808 ≤ n → n ≤ 9223372036854775807 → ∀ W, Calls Tryd.prog 45 #[.int .i64 n] W fun e w' => ∃ t : List UInt8, e = .returned (.string ⟨t.toArray⟩) ∧ (t == S) = false ∧ Below W.heap.size W w' := fun n h0 h1 W => (rdigits_any n h0 h1 W).mono fun e w' ⟨he, hb⟩ => ⟨_, he, (by
      have : Lib.itoa n ≠ S := fun h => hno n ⟨h, h0, h1⟩
      simpa using this), hb⟩
  clear hno
  go_enter Tryd.func39, Tryd.ntmps39
  go_wp2
  go_loopw [4, 6] (fun u i wr => ∃ (j x : Nat), j ≤ S.length ∧ x < 18446744073709551616 ∧ u = .int .u64 x ∧ i = .int .i64 j ∧ Below w.heap.size w wr) (fun _ i _ => S.length - (intOf i).toNat)
  case atStart => exact ⟨1, 0, by omega, by decide, rfl, rfl, Below.refl _ _⟩
  case round =>
    obtain ⟨j, x, hk, hx, rfl, rfl, hb⟩ := hrel
    by_cases hlt : j < S.length
    · have e1 := hidx.out j hlt
      generalize S[j] = c at e1
      by_cases q1 : (48 : Int) ≤ (c.toNat : Int)
      · by_cases q2 : (c.toNat : Int) ≤ 57
        · by_cases q3 : (j : Int) ≤ 19
          · by_cases q4 : (x : Int) ≤ 1844674407370955161
            · obtain ⟨d, hd⟩ : ∃ d : Nat, c.toNat = d + 48 := ⟨c.toNat - 48, by omega⟩
              have hd9 : d ≤ 9 := by omega
              have hsub : IntKind.u8.wrap ((c.toNat : Int) - 48) = (d : Int) := by rw [IntKind.wrap_u8']; omega
              clear hD hidx hd
              go_wp2
              first | exact ⟨⟨j + 1, 10 * x + d, by omega, by omega, by go_num, by go_num, hb⟩, by simp [intOf]; omega⟩ | exact ⟨⟨j + 1, (10 * x + d) % 18446744073709551616, by omega, by omega, by simp [IntKind.wrap_u64], by go_num, hb⟩, by simp [intOf]; omega⟩
            · have q4' : (1844674407370955161 : Int) < (x : Int) := by omega
              clear hD hidx
              go_wp2
              go_ret2
              exact ⟨_, rfl, hb⟩
          · have q3' : (19 : Int) < (j : Int) := by omega
            clear hD hidx
            go_wp2
            go_ret2
            exact ⟨_, rfl, hb⟩
        · have q2' : (57 : Int) < (c.toNat : Int) := by omega
          clear hD hidx
          go_wp2
          go_ret2
          exact ⟨_, rfl, hb⟩
      · have q1' : (c.toNat : Int) < 48 := by omega
        clear hD hidx
        go_wp2
        go_ret2
        exact ⟨_, rfl, hb⟩
    · obtain rfl : j = S.length := by omega
      clear hidx
      obtain ⟨nn, hnn, hr1, hr2⟩ : ∃ nn : Int, wrap64 (IntKind.u64.wrap (-(x : Int))) = nn ∧ -9223372036854775808 ≤ nn ∧ nn ≤ 9223372036854775807 := ⟨_, rfl, by unfold wrap64; omega, by unfold wrap64; omega⟩
      have hD' := fun W => hD nn hr1 hr2 W
      clear hD
      by_cases hz : 1 < S.length
      · have hz' : (1 : Int) < (S.length : Int) := by omega
        go_wp2_with (go_at_call 45; refine (hD' _).mono ?_; rintro e w2 ⟨t, rfl, hts, hb2⟩)
        go_ret2
        exact ⟨_, rfl, hb.trans (hb2.mono hb.size)⟩
      · have hz' : (S.length : Int) ≤ 1 := by omega
        go_wp2
        go_ret2
        exact ⟨_, rfl, hb⟩
set_option maxRecDepth 100000 in
set_option maxHeartbeats 1000000 in
theorem rdec_nil (w : World) : Calls Tryd.prog 39 #[.string ⟨#[]⟩] w (NoEnd w) := by
  go_enter Tryd.func39, Tryd.ntmps39
  go_wp2
  go_loopw [4, 6] (fun u i wr => u = .int .u64 0 ∧ i = .int .i64 0 ∧ wr = w) (fun _ _ _ => 0)
  case atStart => exact ⟨rfl, rfl, rfl⟩
  case round =>
    obtain ⟨rfl, rfl, rfl⟩ := hrel
    go_wp2
    go_ret2
    exact ⟨_, rfl, Below.refl _ _⟩
/-- How Decimal ends. -/
def DecEnd (s : List UInt8) (w : World) (e : Ending) (w' : World) : Prop := ∃ (n : Int) (ok : Bool), e = .returned (.tuple #[.int .i64 n, .bool ok]) ∧ ((ok = true ∧ IsNum s n) ∨ (ok = false ∧ ∀ v, ¬ IsNum s v)) ∧ Below w.heap.size w w'
theorem rdec_any (s : List UInt8) (hs : s.length ≤ 1048576) (w : World) : Calls Tryd.prog 39 #[.string ⟨s.toArray⟩] w (DecEnd s w) := by
  by_cases hex : ∃ v, IsNum s v
  · obtain ⟨v, hv⟩ := hex
    obtain ⟨f, m, hf, _, hS, rfl, hm1, hm2⟩ := num_form hv
    rcases hf with rfl | rfl
    · simp only [Nat.zero_ne_one, if_false, List.nil_append] at hS hv ⊢
      refine (?_ : Calls Tryd.prog 39 #[.string ⟨s.toArray⟩] w fun e w' => e = .returned (.tuple #[.int .i64 m, .bool true]) ∧ Below w.heap.size w w').mono fun e w' ⟨he, hb⟩ => ⟨m, true, he, .inl ⟨rfl, hv⟩, hb⟩
      rw [hS]
      exact rdec_pos m (hm2 rfl) w
    · simp only [if_true, List.singleton_append] at hS hv ⊢
      have h0 : 0 < m := by
        rcases Nat.eq_zero_or_pos m with rfl | h
        · have := hv.1
          rw [hS] at this
          unfold Lib.itoa at this
          simp at this
        · exact h
      refine (?_ : Calls Tryd.prog 39 #[.string ⟨s.toArray⟩] w fun e w' => e = .returned (.tuple #[.int .i64 (-(m : Int)), .bool true]) ∧ Below w.heap.size w w').mono fun e w' ⟨he, hb⟩ => ⟨-(m : Int), true, he, .inl ⟨rfl, hv⟩, hb⟩
      rw [hS]
      exact rdec_neg m hm1 h0 w
  · have hno : ∀ v, ¬ IsNum s v := fun v hv => hex ⟨v, hv⟩
    refine (?_ : Calls Tryd.prog 39 #[.string ⟨s.toArray⟩] w (NoEnd w)).mono fun e w' ⟨n, he, hb⟩ => ⟨n, false, he, .inr ⟨rfl, hno⟩, hb⟩
    cases s with
    | nil => exact rdec_nil w
    | cons c r =>
      have hl1 : 0 < (c :: r).length := by simp
      cases hq : ((c.toNat : Int) == 45) with
      | false => exact rdec_no0 (c :: r) hs hno (by simp) hl1 c (by simp [ByteArray.getElem_eq_getElem_data]) hq w
      | true => exact rdec_no1 (c :: r) hs hno (by simp) hl1 c (by simp [ByteArray.getElem_eq_getElem_data]) hq w
end Go.Proofs.YtdmmlgajgpmpbaaDoor
namespace Go.Proofs.YtdmmlgajgpmpbaaDoor
open Go.RowKit Go.Shelf
attribute [local go_sem high] eq_val eq_val0
/-- How Word ends. -/
def WordEnd (s : List UInt8) (w : World) (e : Ending) (w' : World) : Prop := ∃ x : Val, e = .returned (.tuple #[x.v, .bool (readOf s).isSome]) ∧ (∀ y, readOf s = some y → x = y) ∧ Below w.heap.size w w'
theorem dec_read {s : List UInt8} (h1 : s ≠ wTrue) (h2 : s ≠ wFalse) (hx : Lib.hasPrefix s [120, 39] = true → readOf s = none) {n : Int} {ok : Bool} (h : (ok = true ∧ IsNum s n) ∨ (ok = false ∧ ∀ v, ¬ IsNum s v)) : (readOf s).isSome = ok ∧ ∀ y, readOf s = some y → ⟨1, n, []⟩ = y := by
  cases h3 : Lib.hasPrefix s [120, 39] with
  | true =>
    rw [hx h3]
    rcases h with ⟨rfl, hn⟩ | ⟨rfl, _⟩
    · obtain ⟨c, r, rfl, hc⟩ := num_head hn
      simp [Lib.hasPrefix, List.isPrefixOf] at h3
      exact absurd h3.1.symm hc
    · exact ⟨rfl, fun y hy => by cases hy⟩
  | false =>
    rcases read_num h1 h2 h3 with ⟨v, hv, he⟩ | ⟨hno, he⟩
    · rw [he]
      rcases h with ⟨rfl, hn⟩ | ⟨rfl, hno⟩
      · have : n = v := by
          have a := atoi_itoa n hn.2.1 hn.2.2
          have b := atoi_itoa v hv.2.1 hv.2.2
          rw [hn.1] at a
          rw [hv.1, a] at b
          injection b
        subst this
        exact ⟨rfl, fun y hy => Option.some.inj hy⟩
      · exact absurd hv (hno v)
    · rw [he]
      rcases h with ⟨rfl, hn⟩ | ⟨rfl, _⟩
      · exact absurd hn (hno n)
      · exact ⟨rfl, fun y hy => by cases hy⟩
set_option maxRecDepth 100000 in
set_option maxHeartbeats 1000000 in
theorem rword_any (s : List UInt8) (hs : s.length ≤ 1048576) (w : World) : Calls Tryd.prog 31 #[.string ⟨s.toArray⟩] w (WordEnd s w) := by
  have hT := fun c W => rtruth_any c W
  by_cases h1 : s = wTrue
  · have q1 : (s == [116, 114, 117, 101]) = true := by simp [h1, wTrue]
    have HR : Hid (readOf s = some (Val.truth true)) := hidV (by rw [h1]; exact read_3)
    clear h1
    go_enter Tryd.func31, Tryd.ntmps31
    go_wp2_with (go_at_call 14; refine (hT true _).mono ?_; rintro e w1 ⟨rfl, hb1⟩; have hB := boxed_new hb1; obtain ⟨⟨c0, c1, c2⟩, hf⟩ := hB.facts; have f0 := hf 0; have f1 := hf 1; have f2 := hf 2; simp only [Val.v, Val.truth])
    refine ret_read (x := Val.truth true) rfl rfl rfl rfl (set_box hB (Val.truth true)) ⟨Val.truth true, by rw [HR.out]; rfl, (fun y hy => by rw [HR.out] at hy; exact Option.some.inj hy), ?_⟩
    exact below_set3 (((Below.refl _ w).alloc (Nat.le_refl _) _).trans (hb1.mono (by simp))) (Nat.le_refl _)
  have q1 : (s == [116, 114, 117, 101]) = false := by simpa [wTrue] using h1
  by_cases h2 : s = wFalse
  · have q2 : (s == [102, 97, 108, 115, 101]) = true := by simp [h2, wFalse]
    have HR : Hid (readOf s = some (Val.truth false)) := hidV (by rw [h2]; exact (by decide +kernel : readOf wFalse = some (Val.truth false)))
    clear h1 h2
    go_enter Tryd.func31, Tryd.ntmps31
    go_wp2_with (go_at_call 14; refine (hT false _).mono ?_; rintro e w1 ⟨rfl, hb1⟩; have hB := boxed_new hb1; obtain ⟨⟨c0, c1, c2⟩, hf⟩ := hB.facts; have f0 := hf 0; have f1 := hf 1; have f2 := hf 2; simp only [Val.v, Val.truth])
    refine ret_read (x := Val.truth false) rfl rfl rfl rfl (set_box hB (Val.truth false)) ⟨Val.truth false, by rw [HR.out]; rfl, (fun y hy => by rw [HR.out] at hy; exact Option.some.inj hy), ?_⟩
    exact below_set3 (((Below.refl _ w).alloc (Nat.le_refl _) _).trans (hb1.mono (by simp))) (Nat.le_refl _)
  have q2 : (s == [102, 97, 108, 115, 101]) = false := by simpa [wFalse] using h2
  clear hT
  have hDec := fun W => rdec_any s hs W
  have HD : Hid ((Lib.hasPrefix s [120, 39] = true → readOf s = none) → ∀ (n : Int) (ok : Bool), ((ok = true ∧ IsNum s n) ∨ (ok = false ∧ ∀ v, ¬ IsNum s v)) → (readOf s).isSome = ok ∧ ∀ y, readOf s = some y → ⟨1, n, []⟩ = y) := hidV fun hx n ok h => dec_read h1 h2 hx h
  clear h1 h2
  have fin : ∀ (x : Val) (w1 : World), Below (w.alloc (Val.box ⟨0, 0, []⟩)).heap.size (w.alloc (Val.box ⟨0, 0, []⟩)) w1 → Below w.heap.size w (((w1.setCell ⟨w.heap.size, 0, none⟩ (.int .i64 x.t)).setCell ⟨w.heap.size, 1, none⟩ (.int .i64 x.n)).setCell ⟨w.heap.size, 2, none⟩ (.string ⟨x.b.toArray⟩)) := fun x w1 hb1 => below_set3 (((Below.refl _ w).alloc (Nat.le_refl _) _).trans (hb1.mono (by simp))) (Nat.le_refl _)
  by_cases hl : 3 ≤ s.length
  · have hl' : (3 : Int) ≤ (s.length : Int) := by omega
    have hcut : (⟨s.toArray⟩ : ByteArray).extract 0 2 = ⟨(s.take 2).toArray⟩ := cut_front s 2
    by_cases hp : s.take 2 = [120, 39]
    · have q3 : (s.take 2 == [120, 39]) = true := by simp [hp]
      obtain ⟨m, c, rfl⟩ : ∃ m c, s = 120 :: 39 :: (m ++ [c]) := by
        have e := List.take_append_drop 2 s
        rw [hp] at e
        have hd : s.drop 2 ≠ [] := by
          intro h
          have := congrArg List.length h
          simp at this
          omega
        exact ⟨(s.drop 2).dropLast, (s.drop 2).getLast hd, by rw [List.dropLast_concat_getLast]; exact e.symm⟩
      clear hp q3
      by_cases hc : c = 39
      · subst hc
        have HR : Hid (readOf (120 :: 39 :: (m ++ [39])) = (unhex m).bind fun t => if t.length ≤ 256 then some ⟨2, 0, t⟩ else none) := hidV (read_hex m)
        have hU := fun W => runhex_any m W (by simp at hs; omega)
        have hUl : ∀ t, unhex m = some t → m.length = 2 * t.length := fun t h => unhex_even _ m t (Nat.le_refl _) h
        obtain ⟨S, hS⟩ : ∃ S, S = 120 :: 39 :: (m ++ [39]) := ⟨_, rfl⟩
        have hSl : S.length = m.length + 3 := by rw [hS]; simp
        have hcut2 : (⟨S.toArray⟩ : ByteArray).extract 2 (m.length + 2) = ⟨m.toArray⟩ := by
          apply ByteArray.ext
          rw [ByteArray.data_extract, hS]
          simp
        have e1 : (⟨S.toArray⟩ : ByteArray)[m.length + 2]'(by show m.length + 2 < S.toArray.size; simp; omega) = 39 := by subst hS; simp [ByteArray.getElem_eq_getElem_data]
        have q3 : (S.take 2 == [120, 39]) = true := by simp [hS]
        rw [← hS] at hs q1 q2 hDec HD hl hl' hcut HR ⊢
        clear hS HD hDec
        go_enter Tryd.func31, Tryd.ntmps31
        go_wp2_with (go_at_call 38; refine (hU _).mono ?_; rintro e w1 ⟨t, rfl, ht, hb1⟩; have hB := boxed_new hb1; obtain ⟨⟨c0, c1, c2⟩, hf⟩ := hB.facts; have f0 := hf 0; have f1 := hf 1; have f2 := hf 2; have hlt := (Array.getElem?_eq_some_iff.1 hB).1)
        · rename_i hsm
          obtain ⟨u, hu⟩ := Option.isSome_iff_exists.1 hsm
          obtain rfl := ht u hu
          have ha : (readOf S).isSome = decide ((t.length : Int) ≤ 256) := by
            rw [HR.out, hu]
            simp only [Option.bind_some]
            by_cases h : t.length ≤ 256
            · rw [if_pos h, decide_eq_true (by omega)]; rfl
            · rw [if_neg h, decide_eq_false (by omega)]; rfl
          have hb : ∀ y, readOf S = some y → ⟨2, 0, t⟩ = y := fun y hy => by
            rw [HR.out, hu] at hy
            simp only [Option.bind_some] at hy
            split at hy
            · exact Option.some.inj hy
            · cases hy
          exact ret_read (x := ⟨2, 0, t⟩) rfl rfl rfl rfl (set_box hB ⟨2, 0, t⟩) ⟨_, by rw [ha], hb, fin ⟨2, 0, t⟩ w1 hb1⟩
        · rename_i hsm
          have hu : unhex m = none := by
            cases h : unhex m with
            | none => rfl
            | some u => rw [h] at hsm; simp at hsm
          have hr : readOf S = none := by rw [HR.out, hu]; rfl
          exact ret_read (x := ⟨2, 0, t⟩) rfl rfl rfl rfl (set_box hB ⟨2, 0, t⟩) ⟨_, by rw [hr]; rfl, (fun y hy => by rw [hr] at hy; cases hy), fin ⟨2, 0, t⟩ w1 hb1⟩
      · have HX : Hid (Lib.hasPrefix (120 :: 39 :: (m ++ [c])) [120, 39] = true → readOf (120 :: 39 :: (m ++ [c])) = none) := hidV fun _ => read_unhex (.inr ⟨m, c, rfl, hc⟩)
        obtain ⟨S, hS⟩ : ∃ S, S = 120 :: 39 :: (m ++ [c]) := ⟨_, rfl⟩
        have hSl : S.length = m.length + 3 := by rw [hS]; simp
        have e1 : (⟨S.toArray⟩ : ByteArray)[m.length + 2]'(by show m.length + 2 < S.toArray.size; simp; omega) = c := by subst hS; simp [ByteArray.getElem_eq_getElem_data]
        have hcn : ((c.toNat : Int) == 39) = false := by
          have : c.toNat ≠ 39 := fun h => hc (UInt8.toNat_inj.1 h)
          simp
          omega
        have q3 : (S.take 2 == [120, 39]) = true := by simp [hS]
        rw [← hS] at hs q1 q2 hDec HD hl hl' hcut HX ⊢
        clear hS
        go_enter Tryd.func31, Tryd.ntmps31
        go_wp2_with (go_at_call 39; refine (hDec _).mono ?_; rintro e w1 ⟨n, ok, rfl, hok, hb1⟩; have hB := boxed_new hb1; obtain ⟨⟨c0, c1, c2⟩, hf⟩ := hB.facts; have f0 := hf 0; have f1 := hf 1; have f2 := hf 2; have hlt := (Array.getElem?_eq_some_iff.1 hB).1)
        obtain ⟨ha, hb⟩ := HD.out HX.out n ok hok
        exact ret_read (x := ⟨1, n, []⟩) rfl rfl rfl rfl (set_box hB ⟨1, n, []⟩) ⟨_, by rw [ha], hb, fin ⟨1, n, []⟩ w1 hb1⟩
    · have q3 : (s.take 2 == [120, 39]) = false := by simpa using hp
      have HX : Hid (Lib.hasPrefix s [120, 39] = true → readOf s = none) := hidV fun h => by
        obtain ⟨t, rfl⟩ := List.isPrefixOf_iff_prefix.1 h
        simp at hp
      clear hp
      go_enter Tryd.func31, Tryd.ntmps31
      go_wp2_with (go_at_call 39; refine (hDec _).mono ?_; rintro e w1 ⟨n, ok, rfl, hok, hb1⟩; have hB := boxed_new hb1; obtain ⟨⟨c0, c1, c2⟩, hf⟩ := hB.facts; have f0 := hf 0; have f1 := hf 1; have f2 := hf 2; have hlt := (Array.getElem?_eq_some_iff.1 hB).1)
      obtain ⟨ha, hb⟩ := HD.out HX.out n ok hok
      exact ret_read (x := ⟨1, n, []⟩) rfl rfl rfl rfl (set_box hB ⟨1, n, []⟩) ⟨_, by rw [ha], hb, fin ⟨1, n, []⟩ w1 hb1⟩
  · have hl' : (s.length : Int) < 3 := by omega
    have HX : Hid (Lib.hasPrefix s [120, 39] = true → readOf s = none) := hidV fun h => by
      obtain ⟨t, rfl⟩ := List.isPrefixOf_iff_prefix.1 h
      cases t with
      | nil => exact read_unhex (.inl rfl)
      | cons => simp at hl
    go_enter Tryd.func31, Tryd.ntmps31
    go_wp2_with (go_at_call 39; refine (hDec _).mono ?_; rintro e w1 ⟨n, ok, rfl, hok, hb1⟩; have hB := boxed_new hb1; obtain ⟨⟨c0, c1, c2⟩, hf⟩ := hB.facts; have f0 := hf 0; have f1 := hf 1; have f2 := hf 2; have hlt := (Array.getElem?_eq_some_iff.1 hB).1)
    obtain ⟨ha, hb⟩ := HD.out HX.out n ok hok
    exact ret_read (x := ⟨1, n, []⟩) rfl rfl rfl rfl (set_box hB ⟨1, n, []⟩) ⟨_, by rw [ha], hb, fin ⟨1, n, []⟩ w1 hb1⟩
end Go.Proofs.YtdmmlgajgpmpbaaDoor
namespace Go.Proofs.YtdmmlgajgpmpbaaDoor
open Go.RowKit Go.Shelf
attribute [local go_sem high] eq_val eq_val0
/-- How far Parse is: some pieces are done, and a piece is begun, or all are done. -/
def PSt (s : List UInt8) (done : List (List UInt8)) (f i : Nat) : Prop :=
  (i ≤ s.length ∧ ∃ p, pieces s = done ++ pieces (p ++ s.drop i) ∧ s.drop f = p ++ s.drop i ∧ p.length + f = i ∧ ∀ c ∈ p, c ≠ 32) ∨ (i = s.length + 1 ∧ pieces s = done)
theorem PSt.start (s : List UInt8) : PSt s [] 0 0 := .inl ⟨Nat.zero_le _, [], by simp, by simp, rfl, by simp⟩
theorem PSt.next {s : List UInt8} {done : List (List UInt8)} {f i : Nat} (h : PSt s done f i) (hi : i < s.length) (hc : s[i] ≠ 32) : PSt s done f (i + 1) := by
  rcases h with ⟨_, p, h1, h2, h3, h4⟩ | ⟨h, _⟩
  · have e : s.drop i = s[i] :: s.drop (i + 1) := List.drop_eq_getElem_cons hi
    refine .inl ⟨hi, p ++ [s[i]], ?_, ?_, by simp; omega, ?_⟩
    · rw [h1, e]; simp
    · rw [h2, e]; simp
    · intro c hcm
      rcases List.mem_append.1 hcm with h | h
      · exact h4 c h
      · simp at h; rw [h]; exact hc
  · omega
/-- The piece that ends here. -/
theorem PSt.cut {s : List UInt8} {done : List (List UInt8)} {f i : Nat} (h : PSt s done f i) (hi : i ≤ s.length) (hc : ∀ (h : i < s.length), s[i] = 32) : ∃ p : List UInt8, (⟨s.toArray⟩ : ByteArray).extract f i = ⟨p.toArray⟩ ∧ f ≤ i ∧ p.length ≤ s.length ∧ p ∈ pieces s ∧ PSt s (done ++ [p]) (i + 1) (i + 1) := by
  rcases h with ⟨_, p, h1, h2, h3, h4⟩ | ⟨h, _⟩
  · refine ⟨p, ?_, by omega, by omega, ?_⟩
    · apply ByteArray.ext
      rw [ByteArray.data_extract]
      have : (s.drop f).take (i - f) = p := by rw [h2, List.take_left' (by omega)]
      rw [← this]
      simp
    · by_cases hlt : i < s.length
      · have e : s.drop i = 32 :: s.drop (i + 1) := by rw [List.drop_eq_getElem_cons hlt, hc hlt]
        have hp : pieces (p ++ s.drop i) = p :: pieces (s.drop (i + 1)) := by
          rw [e, pieces_some (idx_at p _ h4)]
          simp
        rw [hp] at h1
        refine ⟨by rw [h1]; simp, .inl ⟨hlt, [], by rw [h1]; simp, by simp, by simp, by simp⟩⟩
      · have e : s.drop i = [] := List.drop_of_length_le (by omega)
        have hp : pieces (p ++ s.drop i) = [p] := by
          rw [e, List.append_nil, pieces_none (idx_none p h4)]
        rw [hp] at h1
        exact ⟨by rw [h1]; simp, .inr ⟨by omega, h1⟩⟩
  · omega
theorem PSt.done {s : List UInt8} {done : List (List UInt8)} {f i : Nat} (h : PSt s done f i) (hi : s.length < i) : pieces s = done := by
  rcases h with ⟨h, _⟩ | ⟨_, h⟩
  · omega
  · exact h
theorem PSt.le {s : List UInt8} {done : List (List UInt8)} {f i : Nat} (h : PSt s done f i) : i ≤ s.length + 1 := by
  rcases h with ⟨h, _⟩ | ⟨h, _⟩ <;> omega
theorem PSt.len {s : List UInt8} {done : List (List UInt8)} {f i : Nat} (h : PSt s done f i) : done.length ≤ s.length + 1 := by
  have := pieces_length _ s (Nat.le_refl _)
  rcases h with ⟨_, p, h, _⟩ | ⟨_, h⟩
  · rw [h, List.length_append] at this; omega
  · rw [h] at this; omega
theorem new3q (W : World) (t n : Int) (b : List UInt8) (B : Nat) (hB : W.heap.size = B) : ∀ j u, [Value.int .i64 t, .int .i64 n, .string ⟨b.toArray⟩][j]? = some u → (W.alloc (.cells #[.int .i64 t, .int .i64 n, .string ⟨b.toArray⟩] 27)).cell? ((⟨B, 0, none⟩ : Addr).add j) = some u := by
  subst hB
  exact cells_new W [.int .i64 t, .int .i64 n, .string ⟨b.toArray⟩] 27
set_option maxRecDepth 100000 in
set_option maxHeartbeats 1000000 in
theorem rparse_any (s : List UInt8) (w : World) (hs0 : s ≠ []) (hs : s.length ≤ 1048576) : Calls Tryd.prog 21 #[.string ⟨s.toArray⟩] w (ParseEnd s readOf w) := by
  obtain ⟨i0, hi, hz0, hz1, hz2⟩ := info_parts val_info
  have hl0 : 0 < s.length := by cases s with | nil => exact absurd rfl hs0 | cons => simp
  have hl0' : (0 : Int) < (s.length : Int) := by omega
  go_enter Tryd.func21, Tryd.ntmps21
  go_wp2
  go_loopw [4, 5, 6] (fun v f i wr => ∃ (done : List (List UInt8)) (fn iN : Nat) (v' : Value), v = v' ∧ f = .int .i64 fn ∧ i = .int .i64 iN ∧ Hid (PSt s done fn iN) ∧ Hid (∀ x ∈ done, (readOf x).isSome = true) ∧ wr.ownsRow w.heap.size 27 3 v' done.length (cellsOf' (valsOf readOf done)) ∧ Below w.heap.size w wr) (fun _ _ i _ => s.length + 1 - (intOf i).toNat)
  case atStart => exact ⟨[], 0, 0, _, rfl, rfl, rfl, hidV (PSt.start s), hidV (by simp), World.ownsRow_nil _ _ _ _, Below.refl _ _⟩
  case round =>
    obtain ⟨done, fn, iN, v', rfl, rfl, rfl, hP, hall, hrow, hb⟩ := hrel
    have hle := hP.out.le
    by_cases h1 : iN ≤ s.length
    · have h1' : (iN : Int) ≤ (s.length : Int) := by omega
      by_cases h2 : ∃ (h : iN < s.length), s[iN] ≠ 32
      · obtain ⟨hlt, hc⟩ := h2
        have HN : Hid (PSt s done fn (iN + 1)) := hidV (hP.out.next hlt hc)
        have e0 : (⟨s.toArray⟩ : ByteArray)[iN]'(by show iN < s.toArray.size; simpa using hlt) = s[iN] := by simp [ByteArray.getElem_eq_getElem_data]
        generalize s[iN] = c at e0 hc
        have hlt' : (iN : Int) < (s.length : Int) := by omega
        have hcn : ((c.toNat : Int) != 32) = true := by
          have : c.toNat ≠ 32 := fun h => hc (UInt8.toNat_inj.1 h)
          simp
          omega
        go_wp2
        exact ⟨⟨done, fn, iN + 1, _, rfl, rfl, by go_num, HN, hall, hrow, hb⟩, by simp [intOf]; omega⟩
      · have hc : ∀ (h : iN < s.length), s[iN] = 32 := fun h => by
          by_cases hh : s[iN] = 32
          · exact hh
          · exact absurd ⟨h, hh⟩ h2
        obtain ⟨p, hcut, hfi, hpl, hmem, hnext⟩ := hP.out.cut h1 hc
        have HM : Hid (p ∈ pieces s) := hidV hmem
        have HN : Hid (PSt s (done ++ [p]) (iN + 1) (iN + 1)) := hidV hnext
        have hdl := hnext.len
        rw [List.length_append] at hdl
        have hW := fun W => rword_any p (by omega) W
        have HC : Hid (∀ x, readOf p = some x → cellsOf' (valsOf readOf (done ++ [p])) = cellsOf' (valsOf readOf done) ++ [.int .i64 x.t, .int .i64 x.n, .string ⟨x.b.toArray⟩]) := hidV fun x hx => by
          rw [vals_snoc, cells_snoc, hx]
          rfl
        clear hmem hnext h2
        generalize cellsOf' (valsOf readOf done) = xs at hrow HC
        cases hsm : (readOf p).isSome with
        | false =>
          have HS := hidV hsm
          have hW' : ∀ W, Calls Tryd.prog 31 #[.string ⟨p.toArray⟩] W fun e w' => ∃ x : Val, e = .returned (.tuple #[x.v, .bool false]) ∧ Below W.heap.size W w' := fun W => (hW W).mono fun e w' ⟨x, he, _, hb⟩ => ⟨x, by rw [he, hsm], hb⟩
          clear hW hsm
          by_cases hlt : iN < s.length
          · have e0 : (⟨s.toArray⟩ : ByteArray)[iN]'(by show iN < s.toArray.size; simpa using hlt) = 32 := by rw [← hc hlt]; simp [ByteArray.getElem_eq_getElem_data]
            have hlt' : (iN : Int) < (s.length : Int) := by omega
            clear hc
            go_wp2_with (go_at_call 31; refine (hW' _).mono ?_; rintro e w1 ⟨x, rfl, hb1⟩; simp only [Val.v])
            go_ret2
            exact ⟨(hb.trans (hb1.mono hb.size)).alloc (Nat.le_trans hb.size hb1.size) _, .inr ⟨⟨p, HM.out, HS.out⟩, rfl⟩⟩
          · have hge' : (s.length : Int) ≤ (iN : Int) := by omega
            clear hc
            go_wp2_with (go_at_call 31; refine (hW' _).mono ?_; rintro e w1 ⟨x, rfl, hb1⟩; simp only [Val.v])
            go_ret2
            exact ⟨(hb.trans (hb1.mono hb.size)).alloc (Nat.le_trans hb.size hb1.size) _, .inr ⟨⟨p, HM.out, HS.out⟩, rfl⟩⟩
        | true =>
          obtain ⟨y, hy⟩ := Option.isSome_iff_exists.1 hsm
          have HC2 : Hid (cellsOf' (valsOf readOf (done ++ [p])) = xs ++ [.int .i64 y.t, .int .i64 y.n, .string ⟨y.b.toArray⟩]) := hidV (HC.out y hy)
          have HA : Hid (∀ x ∈ done ++ [p], (readOf x).isSome = true) := hidV fun x hx => by
            rcases List.mem_append.1 hx with h | h
            · exact hall.out x h
            · simp at h; rw [h]; exact hsm
          have hW' : ∀ W, Calls Tryd.prog 31 #[.string ⟨p.toArray⟩] W fun e w' => e = .returned (.tuple #[y.v, .bool true]) ∧ Below W.heap.size W w' := fun W => (hW W).mono fun e w' ⟨x, he, hx, hb⟩ => ⟨by rw [he, hsm, hx y hy], hb⟩
          obtain ⟨yt, yn, yb⟩ := y
          simp only [Val.v] at hW' HC2
          clear hW hsm HC hy
          have hdl2 : done.length ≤ 1048577 := by simp at hdl; omega
          by_cases hlt : iN < s.length
          · have e0 : (⟨s.toArray⟩ : ByteArray)[iN]'(by show iN < s.toArray.size; simpa using hlt) = 32 := by rw [← hc hlt]; simp [ByteArray.getElem_eq_getElem_data]
            have hlt' : (iN : Int) < (s.length : Int) := by omega
            clear hc
            go_wp2_with (first | (go_at_call 31; refine (hW' _).mono ?_; rintro e w1 ⟨rfl, hb1⟩; have hbw1 := hb.trans (hb1.mono hb.size); have hrow1 := row_below hrow hb1) | (at_builtin; refine wpList_append_own_at _ rfl _ _ 22 rfl w.heap.size 27 i0 _ 3 32 Tryd.underlying22 hi hz0 hz1 hz2 rfl (by decide) u4 done.length _ rfl (World.ownsRow.alloc (World.ownsRow.alloc hrow1 _) _) ⟨w1.heap.size + 1, 0, none⟩ 1 1 [.int .i64 yt, .int .i64 yn, .string ⟨yb.toArray⟩] rfl rfl (new3q (w1.alloc (.cells #[.int .i64 yt, .int .i64 yn, .string ⟨yb.toArray⟩] 27)) yt yn yb (w1.heap.size + 1) (by simp)) (by simp [Value.oneCell']) (by unfold maxLen; omega) (by omega) (by have := hbw1.size; simp; omega) ?_; intro v' w6 hown2 hgrow _ _; have hb6 : Below w.heap.size w w6 := ((hbw1.alloc hbw1.size _).alloc (by have := hbw1.size; simp; omega) _).grown hgrow (by have := hbw1.size; simp; omega) (fun j hj => (hrow1.lt j hj).1)))
            rw [← HC2.out] at hown2
            refine ⟨⟨done ++ [p], iN + 1, iN + 1, _, rfl, by go_num, by go_num, HN, HA, by rw [List.length_append]; exact hown2, hb6⟩, by simp [intOf]; omega⟩
          · have hge' : (s.length : Int) ≤ (iN : Int) := by omega
            clear hc
            go_wp2_with (first | (go_at_call 31; refine (hW' _).mono ?_; rintro e w1 ⟨rfl, hb1⟩; have hbw1 := hb.trans (hb1.mono hb.size); have hrow1 := row_below hrow hb1) | (at_builtin; refine wpList_append_own_at _ rfl _ _ 22 rfl w.heap.size 27 i0 _ 3 32 Tryd.underlying22 hi hz0 hz1 hz2 rfl (by decide) u4 done.length _ rfl (World.ownsRow.alloc (World.ownsRow.alloc hrow1 _) _) ⟨w1.heap.size + 1, 0, none⟩ 1 1 [.int .i64 yt, .int .i64 yn, .string ⟨yb.toArray⟩] rfl rfl (new3q (w1.alloc (.cells #[.int .i64 yt, .int .i64 yn, .string ⟨yb.toArray⟩] 27)) yt yn yb (w1.heap.size + 1) (by simp)) (by simp [Value.oneCell']) (by unfold maxLen; omega) (by omega) (by have := hbw1.size; simp; omega) ?_; intro v' w6 hown2 hgrow _ _; have hb6 : Below w.heap.size w w6 := ((hbw1.alloc hbw1.size _).alloc (by have := hbw1.size; simp; omega) _).grown hgrow (by have := hbw1.size; simp; omega) (fun j hj => (hrow1.lt j hj).1)))
            rw [← HC2.out] at hown2
            refine ⟨⟨done ++ [p], iN + 1, iN + 1, _, rfl, by go_num, by go_num, HN, HA, by rw [List.length_append]; exact hown2, hb6⟩, by simp [intOf]; omega⟩
    · have hgt : (s.length : Int) < (iN : Int) := by omega
      have HD : Hid (pieces s = done) := hidV (hP.out.done (by omega))
      go_wp2
      go_ret2
      refine ⟨hb, .inl ⟨by rw [HD.out]; exact hall.out, _, rfl, ?_⟩⟩
      rw [HD.out]
      exact hrow
theorem rparse_none (w : World) : Calls Tryd.prog 21 #[.string ⟨#[]⟩] w fun e w' => e = .returned (.tuple #[.slice none 0 0, .int .i64 0]) ∧ Below w.heap.size w w' := by
  go_enter Tryd.func21, Tryd.ntmps21
  go_wp2
  go_loopw [4, 6] (fun v i wr => v = .slice none 0 0 ∧ i = .int .i64 0 ∧ wr = w) (fun _ _ _ => 0)
  case atStart => exact ⟨rfl, rfl, rfl⟩
  case round =>
    obtain ⟨rfl, rfl, rfl⟩ := hrel
    go_wp2
    go_ret2
    exact ⟨rfl, Below.refl _ _⟩
end Go.Proofs.YtdmmlgajgpmpbaaDoor
