/- The document's One, Print. -/
import Derived.Test.YtkmfopdklohgnaaDoorVTh
import Derived.Test.YtkmfopdklohgnaaDoorVX
import Derived.Test.YtkmfopdklohgnaaDoorVRc
namespace Go.Proofs.YtkmfopdklohgnaaDoor
open Go.RowKit Go.Shelf
attribute [local go_sem high] eq_val eq_val0
theorem hex2_same : hex2 = hexOf := rfl
theorem ba_app (a b : List UInt8) : (⟨a.toArray⟩ : ByteArray) ++ (⟨b.toArray⟩ : ByteArray) = ⟨(a ++ b).toArray⟩ := by
  apply ByteArray.ext
  simp
set_option maxRecDepth 100000 in
set_option maxHeartbeats 1000000 in
theorem rone_any (x : Val) (hr : x.right = true) (h0 : -9223372036854775808 ≤ x.n) (h1 : x.n ≤ 9223372036854775807) (w : World) : Calls Tryd.prog 19 #[x.v] w fun e w' => e = .returned (.string ⟨(wordOf x).toArray⟩) ∧ Below w.heap.size w w' := by
  have hB0 : ∀ o, Below w.heap.size w (w.alloc o) := fun o => (Below.refl _ w).alloc (Nat.le_refl _) o
  rcases right_ways hr with ⟨ht, hb0⟩ | ⟨ht, hn0, hb0⟩ | ⟨ht, hn0, hb0⟩
  · obtain ⟨t, n, b⟩ := x
    simp only at ht hb0 h0 h1
    subst ht hb0
    simp only [Val.v]
    have hD := fun W => rdigits_any n h0 h1 W
    go_enter Tryd.func19, Tryd.ntmps19
    go_wp2_with (go_at_call 35; refine (hD _).mono ?_; rintro e w2 ⟨rfl, hb2⟩)
    go_ret
    exact ⟨by simp [wordOf], (hB0 _).trans (hb2.mono (by simp))⟩
  · obtain ⟨t, n, b⟩ := x
    simp only at ht hn0 hb0
    subst ht hn0
    simp only [Val.v]
    have hH := fun W => rhex_any b W (by omega)
    rw [hex2_same] at hH
    have hhl := hex_length b
    have HW : Hid (wordOf ⟨2, 0, b⟩ = [120, 39] ++ b.flatMap hexOf ++ [39]) := hidV (by simp [wordOf, hexWord])
    generalize b.flatMap hexOf = hx at hH hhl HW
    go_enter Tryd.func19, Tryd.ntmps19
    go_wp2_with (go_at_call 36; refine (hH _).mono ?_; rintro e w2 ⟨rfl, hb2⟩)
    go_ret
    refine ⟨?_, (hB0 _).trans (hb2.mono (by simp))⟩
    rw [HW.out, ← ba_app, ← ba_app]
    rfl
  · obtain ⟨t, n, b⟩ := x
    simp only at ht hn0 hb0
    subst ht hb0
    simp only [Val.v]
    rcases hn0 with rfl | rfl
    · go_enter Tryd.func19, Tryd.ntmps19
      go_wp2
      go_ret
      exact ⟨rfl, hB0 _⟩
    · go_enter Tryd.func19, Tryd.ntmps19
      go_wp2
      go_ret
      exact ⟨rfl, hB0 _⟩
theorem print_snoc (l : List Val) (x : Val) : printList (l ++ [x]) = if l = [] then wordOf x else printList l ++ 32 :: wordOf x := by
  unfold printList
  induction l with
  | nil => simp [Lib.join_one]
  | cons a l ih =>
    cases l with
    | nil => simp [Lib.join]
    | cons b l => simp [Lib.join] at ih ⊢; simp [ih]
theorem word_600 (x : Val) (hr : x.right = true) (h0 : -9223372036854775808 ≤ x.n) (h1 : x.n ≤ 9223372036854775807) : (wordOf x).length ≤ 600 := by
  unfold wordOf
  split
  · have := Lib.itoa_length_le x.n h0 h1; omega
  split
  · rw [hex_len]
    rcases right_ways hr with ⟨_, e⟩ | ⟨_, _, e⟩ | ⟨_, _, e⟩
    · simp [e]
    · omega
    · simp [e]
  split <;> simp
set_option maxRecDepth 100000 in
set_option maxHeartbeats 1000000 in
theorem rprint_any (a : Option Addr) (n c : Nat) (L : List Val) (hn : L.length = n) (w : World) (hV : Vs w a L) (hG : Good L) (hl : n ≤ 4398046511104) : Calls Tryd.prog 8 #[.slice a n c] w fun e w' => e = .returned (.string ⟨(printOf L).toArray⟩) ∧ Below w.heap.size w w' := by
  have hA := rall_any a n c L hn w hV hG.fair (by omega)
  unfold printOf
  cases hR : L.all Val.right with
  | false =>
    rw [hR] at hA
    go_enter Tryd.func8, Tryd.ntmps8
    go_wp2_with (go_at_call 18; refine hA.mono ?_; rintro e w' ⟨rfl, hb⟩)
    go_ret
    exact ⟨rfl, hb⟩
  | true =>
    rw [hR] at hA
    go_enter Tryd.func8, Tryd.ntmps8
    go_wp2_with (go_at_call 18; refine hA.mono ?_; rintro e w1 ⟨rfl, hb1⟩)
    go_loopw [3, 4] (fun s i wr => ∃ k : Nat, k ≤ n ∧ i = .int .i64 k ∧ s = .string ⟨(printList (L.take k)).toArray⟩ ∧ Below w.heap.size w wr) (fun _ i _ => n - (intOf i).toNat)
    case atStart => exact ⟨0, Nat.zero_le _, rfl, rfl, hb1⟩
    case round =>
      obtain ⟨k, hk, rfl, rfl, hb⟩ := hrel
      by_cases hlt : k < n
      · rcases hV.keep hb with h0 | ⟨b, off, hao, hc⟩
        · subst h0; simp at hn; omega
        · subst hao
          obtain ⟨c0, c1, c2⟩ := hc k (by omega)
          have hxr := List.all_eq_true.1 hR L[k] (by simp)
          obtain ⟨_, hx2, hx3⟩ := hG L[k] (by simp)
          have hpl : (printList (L.take k)).length ≤ k * 601 := by
            have := join_len ((L.take k).map wordOf) 600 fun y hy => by
              obtain ⟨z, hz, rfl⟩ := List.mem_map.1 hy
              have hz' := List.mem_of_mem_take hz
              exact word_600 z (List.all_eq_true.1 hR z hz') (hG z hz').2.1 (hG z hz').2.2
            simp only [List.length_map, List.length_take] at this
            unfold printList
            have : min k L.length * 601 ≤ k * 601 := Nat.mul_le_mul_right _ (Nat.min_le_left _ _)
            omega
          have hxl := word_600 L[k] hxr hx2 hx3
          have HT : Hid (printList (L.take (k + 1)) = if k = 0 then wordOf L[k] else printList (L.take k) ++ 32 :: wordOf L[k]) := hidV (by
            rw [List.take_add_one, List.getElem?_eq_getElem (by omega), Option.toList_some, print_snoc]
            by_cases h0 : k = 0
            · subst h0; simp
            · rw [if_neg h0, if_neg]
              intro h
              rcases List.take_eq_nil_iff.1 h with h | h
              · omega
              · subst h; simp at hn; omega)
          generalize L[k] = x at c0 c1 c2 hxr hx2 hx3 HT hxl
          have hx' := fun W => rone_any x hxr hx2 hx3 W
          obtain ⟨xt, xn, xb⟩ := x
          simp only [Val.v] at hx'
          generalize wordOf ⟨xt, xn, xb⟩ = wd at hx' HT hxl
          clear hc hV hA
          by_cases h0 : k = 0
          · subst h0
            simp only [Nat.zero_mul, Nat.add_zero] at c0 c1 c2
            have HZ : Hid (printList (L.take 0) = []) := hidV rfl
            generalize printList (L.take 0) = pl at *
            go_wp2_with (go_at_call 19; refine (hx' _).mono ?_; rintro e w4 ⟨rfl, hb4⟩)
            refine ⟨⟨1, by omega, by go_num, ?_, hb.trans (hb4.mono hb.size)⟩, by simp [intOf]; omega⟩
            rw [ba_app, HT.out, if_pos trivial, HZ.out]
            rfl
          · generalize printList (L.take k) = pl at *
            go_wp2_with (go_at_call 19; refine (hx' _).mono ?_; rintro e w4 ⟨rfl, hb4⟩)
            refine ⟨⟨k + 1, by omega, by go_num, ?_, hb.trans (hb4.mono hb.size)⟩, by simp [intOf]; omega⟩
            rw [HT.out, if_neg h0]
            have e1 := ba_app pl [32]
            have e2 := ba_app (pl ++ [32]) wd
            simp at e1 e2 ⊢
            first | (rw [e1, e2]) | (simp [e1, e2])
      · have hke : L.take k = L := List.take_of_length_le (by omega)
        rw [hke]
        generalize hpp : printList L = pl
        have HP := hidV hpp
        clear hpp
        go_wp2
        go_ret
        exact ⟨by rw [HP.out]; rfl, hb⟩
end Go.Proofs.YtkmfopdklohgnaaDoor
