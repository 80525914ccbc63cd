/- The document's Digit, Unhex. -/
import Derived.Test.YtkmfopdklohgnaaDoorVTp
import Derived.Test.YtkmfopdklohgnaaDoorVTx
import Derived.Test.YtkmfopdklohgnaaDoorSC
namespace Go.Proofs.YtkmfopdklohgnaaDoor
open Go.RowKit Go.Shelf
attribute [local go_sem high] eq_val eq_val0
set_option maxRecDepth 100000 in
theorem rdigit_any (c : UInt8) (w : World) : Calls Tryd.prog 43 #[.int .u8 (c.toNat : Int)] w fun e w' => e = .returned (.int .i64 (Lib.indexByte hexDigits c)) ∧ w' = w := by
  have hx := idx_hex c
  have hc := c.toNat_lt
  generalize Lib.indexByte hexDigits c = r at hx
  generalize c.toNat = n at hx hc ⊢
  by_cases h1 : 48 ≤ n ∧ n ≤ 57
  · rw [if_pos h1] at hx
    obtain ⟨ha, hb⟩ := h1
    have e1 : IntKind.u8.wrap ((n : Int) - 48) = (n : Int) - 48 := by rw [IntKind.wrap_u8']; omega
    subst hx
    go_enter Tryd.func43, Tryd.ntmps43
    go_wp2
    all_goals (go_ret; exact ⟨rfl, rfl⟩)
  · rw [if_neg h1] at hx
    by_cases h2 : 97 ≤ n ∧ n ≤ 102
    · rw [if_pos h2] at hx
      obtain ⟨ha, hb⟩ := h2
      have e1 : IntKind.u8.wrap ((n : Int) - 97) = (n : Int) - 97 := by rw [IntKind.wrap_u8']; omega
      have e2 : (n : Int) - 87 = (n : Int) - 97 + 10 := by omega
      rw [e2] at hx
      subst hx
      clear e2
      go_enter Tryd.func43, Tryd.ntmps43
      go_wp2
      all_goals (go_ret; exact ⟨rfl, rfl⟩)
    · rw [if_neg h2] at hx
      subst hx
      go_enter Tryd.func43, Tryd.ntmps43
      go_wp2
      all_goals first | (go_ret; exact ⟨rfl, rfl⟩) | (exfalso; omega)
theorem unhex_at {t : List UInt8} {j : Nat} (h : j + 1 < t.length) : unhex (t.drop j) = if Lib.indexByte hexDigits t[j] < 0 ∨ Lib.indexByte hexDigits t[j + 1] < 0 then none else (unhex (t.drop (j + 2))).map (UInt8.ofNat (16 * (Lib.indexByte hexDigits t[j]).toNat + (Lib.indexByte hexDigits t[j + 1]).toNat) :: ·) := by
  rw [List.drop_eq_getElem_cons (by omega), List.drop_eq_getElem_cons h, unhex]
theorem unhex_end {t : List UInt8} {j : Nat} (h : t.length ≤ j + 1) (hj : j ≤ t.length) : unhex (t.drop j) = if t.length = j then some [] else none := by
  by_cases h0 : t.length = j
  · rw [if_pos h0, List.drop_of_length_le (by omega)]
    rfl
  · rw [if_neg h0, List.drop_eq_getElem_cons (by omega), List.drop_of_length_le (by omega)]
    rfl
set_option maxRecDepth 100000 in
set_option maxHeartbeats 1000000 in
theorem runhex_any (s : List UInt8) (w : World) (hs : s.length ≤ 1048576) : Calls Tryd.prog 27 #[.string ⟨s.toArray⟩] w fun e w' => ∃ t : List UInt8, e = .returned (.tuple #[.string ⟨t.toArray⟩, .bool (unhex s).isSome]) ∧ (∀ u, unhex s = some u → t = u) ∧ Below w.heap.size w w' := by
  go_enter Tryd.func27, Tryd.ntmps27
  go_wp2
  go_loopw [4, 5] (fun v i wr => ∃ (j : Nat) (v' : Value) (xs : List UInt8), j ≤ s.length ∧ i = .int .i64 j ∧ v = v' ∧ OwnB wr w.heap.size v' xs ∧ Hid (2 * xs.length = j) ∧ Hid (unhex s = (unhex (s.drop j)).map (xs ++ ·)) ∧ Below w.heap.size w wr) (fun _ i _ => s.length - (intOf i).toNat)
  case atStart => exact ⟨0, _, [], Nat.zero_le _, rfl, rfl, Own.nil _ _ _, hidV rfl, hidV (by simp), Below.refl _ _⟩
  case round =>
    obtain ⟨j, v', xs, hk, rfl, rfl, hO, hxl, hu, hb⟩ := hrel
    have hD := fun c W => rdigit_any c W
    have hxj : xs.length ≤ 1048576 := by have := hxl.out; omega
    by_cases hlt : j + 1 < s.length
    · have l0 : j < s.length := by omega
      have hun := unhex_at hlt
      have e0 : (⟨s.toArray⟩ : ByteArray)[j]'(by show j < s.toArray.size; simpa using l0) = s[j] := by simp [ByteArray.getElem_eq_getElem_data]
      have e1 : (⟨s.toArray⟩ : ByteArray)[j + 1]'(by show j + 1 < s.toArray.size; simpa using hlt) = s[j + 1] := by simp [ByteArray.getElem_eq_getElem_data]
      generalize s[j] = x at e0 hun
      generalize s[j + 1] = y at e1 hun
      have hX := fun W => hD x W
      have hY := fun W => hD y W
      clear hD
      rcases digit_is x with hA | ⟨h, hh, hA⟩
      · have HU : Hid (unhex s = none) := hidV (by rw [hu.out, hun, if_pos (.inl (by rw [hA]; decide))]; rfl)
        clear hu hun
        rw [hA] at hX
        go_wp2_with (go_at_call 43; first | (refine (hX _).mono ?_; rintro e w' ⟨rfl, rfl⟩))
        go_ret2
        exact ⟨[], by rw [HU.out]; rfl, (fun u h => by rw [HU.out] at h; cases h), hb⟩
      rcases digit_is y with hB | ⟨l, hl, hB⟩
      · have HU : Hid (unhex s = none) := hidV (by rw [hu.out, hun, if_pos (.inr (by rw [hB]; decide))]; rfl)
        clear hu hun
        rw [hA] at hX
        rw [hB] at hY
        go_wp2_with (go_at_call 43; first | (refine (hX _).mono ?_; rintro e w' ⟨rfl, rfl⟩; clear hX) | (refine (hY _).mono ?_; rintro e w' ⟨rfl, rfl⟩))
        go_ret2
        exact ⟨[], by rw [HU.out]; rfl, (fun u h => by rw [HU.out] at h; cases h), hb⟩
      · have HU : Hid (unhex s = (unhex (s.drop (j + 2))).map ((xs ++ [UInt8.ofNat (16 * h + l)]) ++ ·)) := hidV (by
          rw [hu.out, hun, if_neg (by rw [hA, hB]; omega), hA, hB]
          simp [Function.comp_def])
        clear hu hun
        have hX2 := hX
        have hY2 := hY
        rw [hA] at hX hX2
        rw [hB] at hY hY2
        go_wp2_with (go_at_call 43; first | (refine (hX _).mono ?_; rintro e w' ⟨rfl, rfl⟩; clear hX) | (refine (hY _).mono ?_; rintro e w' ⟨rfl, rfl⟩; clear hY))
        have hm1 : IntKind.i64.wrap (16 * (h : Int)) = 16 * (h : Int) := wrap_small _ (by omega) (by omega)
        have hm2 : IntKind.i64.wrap (16 * (h : Int) + (l : Int)) = 16 * (h : Int) + (l : Int) := wrap_small _ (by omega) (by omega)
        have hm3 : IntKind.u8.wrap (16 * (h : Int) + (l : Int)) = 16 * (h : Int) + (l : Int) := by rw [IntKind.wrap_u8']; omega
        have hm4 : IntKind.i64.wrap ((j : Int) + 1) = ((j + 1 : Nat) : Int) := by rw [wrap_small _ (by omega) (by omega)]; omega
        have hbv : (Value.int .u8 (16 * (h : Int) + (l : Int))) = bv (UInt8.ofNat (16 * h + l)) := by
          simp only [bv, UInt8.toNat_ofNat']
          rw [Nat.mod_eq_of_lt (by omega)]
          congr 1
        generalize UInt8.ofNat (16 * h + l) = cc at hbv HU
        go_region_law (first
          | (refine step_call2 (by rfl) 43 _ _ (by rfl) (Go.Proofs.enters_of Tryd.func43 (by kernel_rfl) rfl) #[.int .u8 (x.toNat : Int)] (by rfl) _ (hX2 _) ?_; rintro e w'' ⟨rfl, rfl⟩; refine ⟨_, rfl, ?_⟩; clear hX2)
          | (refine step_call2 (by rfl) 43 _ _ (by rfl) (Go.Proofs.enters_of Tryd.func43 (by kernel_rfl) rfl) #[.int .u8 (y.toNat : Int)] (by rfl) _ (hY2 _) ?_; rintro e w'' ⟨rfl, rfl⟩; refine ⟨_, rfl, ?_⟩; clear hY2)
          | (refine step_app _ (by rfl) _ _ _ _ (by rfl) elem_u8 w.heap.size u4 _ (by rfl) (by exact (Own.alloc hO _)) _ (by rfl) [bv cc] (src_newB Tryd.underlying59 _ _ _ _ _ (by exact heap_alloc_new _ _) (by first | rfl | exact hbv) rfl _) (by simp only [List.length_map, List.length_cons, List.length_nil]; unfold maxLen; omega) (by simp only [List.length_map, List.length_cons, List.length_nil]; omega) (by have := hb.size; simp; omega) ?_; intro v2 w2 hO2 hs2))
        all_goals
          replace hO2 : OwnB w2 w.heap.size v2 (xs ++ [cc]) := by
            simpa [OwnB] using hO2
          have hb2 : Below w.heap.size w w2 := ((hb.drew.alloc hb.size _)).trans (hs2.below (Nat.le_trans hb.size (by simp)) (fun k h => (hO.lt k h).1))
          have hxl2 : Hid (2 * (xs ++ [cc]).length = j + 2) := hidV (by have := hxl.out; simp; omega)
          clear hs2 hO hb e0 e1 hxl
          go_wp2
          go_roundw
          case rel => exact ⟨j + 2, _, xs ++ [cc], by omega, by go_num, rfl, hO2, hxl2, HU, hb2⟩
          case measure => simp [intOf]; omega
    · have HE : Hid (unhex s = if s.length = j then some xs else none) := hidV (by
        rw [hu.out, unhex_end (by omega) hk]
        split <;> simp)
      have hev := hxl.out
      obtain ⟨ao, cap, rfl, _, _, hB, _⟩ := Own.bs hO
      have hst := run_str hB cap
      obtain ⟨nx, hnx⟩ : ∃ nx, nx = xs.length := ⟨_, rfl⟩
      by_cases h0 : s.length = j
      · have hmod : (j : Int) % 2 = 0 := by omega
        have hmod2 : (s.length : Int) % 2 = 0 := by omega
        go_wp2
        go_ret2
        exact ⟨xs, by rw [HE.out, if_pos h0]; rfl, (fun u h => by rw [HE.out, if_pos h0] at h; exact Option.some.inj h), hb⟩
      · have hmod : (s.length : Int).tmod 2 = 1 := by rw [Int.tmod_eq_emod_of_nonneg (by omega)]; omega
        go_wp2
        go_ret2
        exact ⟨xs, by rw [HE.out, if_neg h0]; rfl, (fun u h => by rw [HE.out, if_neg h0] at h; cases h), hb⟩
end Go.Proofs.YtkmfopdklohgnaaDoor
