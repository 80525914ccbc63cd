/- What must come of layer 5. The document's Hex. Which values may be, case by case. The document's One, Print. -/
import Derived.Test.YtbjipcpoiiegkaaGreatDoorBC
import Derived.Test.YtbjipcpoiiegkaaGreatDoorVB
import Derived.Test.YtbjipcpoiiegkaaGreatDoorVTd
import Derived.Deep.RegionWith
import Derived.Test.YtbjipcpoiiegkaaGreatDoorVA
import Derived.Test.YtbjipcpoiiegkaaGreatDoorVX
namespace Go.Proofs.YtbjipcpoiiegkaaGreatDoor
open Go.RowKit Go.Shelf
theorem parse_txt5 : parseS txt5 = (scr5, 0) := by decide +kernel
theorem print_scr5 : printS scr5 = txt5 := by decide +kernel
set_option maxRecDepth 100000 in
set_option maxHeartbeats 1000000 in
theorem knows5_any (w : World) (hM : Marks w) (hL : Laid w) : Calls Tryz.prog 12 #[] w fun e w' => e = .returned (.bool true) ∧ Below w.heap.size w w' := by
  have hP := parse5_any txt5 (by decide) w hM hL
  rw [parse_txt5] at hP
  have hPr := fun V0 V1 W (hW : Below w.heap.size w W) (h : ScIs W.cell? scr5 V0 V1) => print5_any scr5 V0 V1 W (hL.keep hW).pow (hM.keep hW) h ((parse_txt5 ▸ parseS_fit txt5).fits (Nat.le_refl _))
  rw [print_scr5] at hPr
  unfold txt5 at hP hPr
  go_enter Tryz.func12, Tryz.ntmps12
  go_wp2_with fail
  refine hP.mono ?_
  rintro e w1 ⟨v0, v1, rfl, hS, hb1⟩
  simp only
  have hS1 := hS.keep upF_all
  obtain ⟨⟨a0, c0, rfl, h0⟩, ⟨a1, c1, rfl, h1⟩⟩ := id hS1
  rcases h1 with h1 | ⟨b, off, rfl, hf⟩
  · cases h1
  obtain ⟨u0, u1, u2, u3, q0, q1, q2, q3, ⟨_, _, _, ⟨a3, c3, rfl, _⟩⟩⟩ := hf 0 (by decide)
  simp only [Nat.zero_mul, Nat.add_zero] at q0 q1 q2 q3
  have hbA := (Below.refl _ w1).alloc (Nat.le_refl _) (.cells #[.slice a0 scr5.consts.length c0, .slice (some ⟨b, off, none⟩) scr5.funcs.length c1] 39)
  have hS2 := hS1.keep (below_keep hbA)
  have hPr2 := hPr _ _ _ ((hb1.trans (hbA.mono hb1.size))) hS2
  have e0 : scr5.consts.length = 0 := rfl
  have e1 : scr5.funcs.length = 1 := rfl
  have e3 : (scr5.funcs[0]'(by decide)).code.length = 3 := rfl
  rw [e0, e1] at hPr2 hbA ⊢
  rw [e3] at q3
  have hlt : b < w1.heap.size := World.block_lt_of_cell? _ _ q3
  clear hf hS hS1 hS2 hPr q0 q1 q2 hP
  go_wp2_with (go_at_call 21; refine hPr2.mono ?_; rintro e w3 ⟨rfl, hb3⟩)
  go_ret
  exact ⟨rfl, (hb1.trans (hbA.mono hb1.size)).trans (hb3.mono (by have := hb1.size; have := hbA.size; omega))⟩
end Go.Proofs.YtbjipcpoiiegkaaGreatDoor
namespace Go.Proofs.YtbjipcpoiiegkaaGreatDoor
open Go.RowKit
def hexD : List UInt8 := [48, 49, 50, 51, 52, 53, 54, 55, 56, 57, 97, 98, 99, 100, 101, 102]
def hex2 (c : UInt8) : List UInt8 := [hexD.getD (c.toNat / 16) 0, hexD.getD (c.toNat % 16) 0]
theorem src_newB {P : Program} {tx e' : TypeId} (hk : P.underlying tx = some (.slice e')) (B : Nat) (x y : Value) (t : TypeId) (W : World) (hb : W.heap[B]? = some (.cells #[x] t (0, 0))) (h : x = y) (h1 : y.oneCell' = true) (c : Nat) : Src P 1 tx (.slice (some ⟨B, 0, none⟩) 1 c) [y].length [y] W := by
  subst h
  exact Src.ofSlice _ hk _ 1 c [x] rfl (World.news_of_block hb) (by intro u hu; simp at hu; subst hu; exact h1)
theorem src_new2 {P : Program} {tx e' : TypeId} (hk : P.underlying tx = some (.slice e')) (B : Nat) (x y x' y' : Value) (t : TypeId) (W : World) (hb : W.heap[B]? = some (.cells #[x, y] t (0, 0))) (h : x = x') (h' : y = y') (h1 : x'.oneCell' = true) (h2 : y'.oneCell' = true) (c : Nat) : Src P 1 tx (.slice (some ⟨B, 0, none⟩) 2 c) [x', y'].length [x', y'] W := by
  subst h h'
  exact Src.ofSlice _ hk _ 2 c [x, y] rfl (World.news_of_block hb) (by intro u hu; simp at hu; rcases hu with rfl | rfl <;> assumption)
set_option maxRecDepth 100000 in
set_option maxHeartbeats 1000000 in
theorem rhex_any (s : List UInt8) (w : World) (hs : s.length ≤ 1048576) : Calls Tryz.prog 69 #[.string ⟨s.toArray⟩] w fun e w' => e = .returned (.string ⟨(s.flatMap hex2).toArray⟩) ∧ Below w.heap.size w w' := by
  go_enter Tryz.func69, Tryz.ntmps69
  go_wp2
  go_loopw [4, 5] (fun v i wr => ∃ (k : Nat) (v' : Value), k ≤ s.length ∧ i = .int .i64 k ∧ v = v' ∧ OwnB wr w.heap.size v' ((s.take k).flatMap hex2) ∧ Below w.heap.size w wr) (fun _ i _ => s.length - (intOf i).toNat)
  case atStart => exact ⟨0, _, Nat.zero_le _, rfl, rfl, by simp only [List.take_zero, List.flatMap_nil]; exact Own.nil _ _ _, Below.refl _ _⟩
  case round =>
    obtain ⟨k, v', hk, rfl, rfl, hO, hb⟩ := hrel
    by_cases hlt : k < s.length
    · have HE : Hid ((s.take (k + 1)).flatMap hex2 = (s.take k).flatMap hex2 ++ hex2 s[k]) := hidV (by rw [List.take_succ_eq_append_getElem hlt, List.flatMap_append, List.flatMap_cons, List.flatMap_nil, List.append_nil])
      have hyl : ((s.take k).flatMap hex2).length ≤ 2097152 := by
        have : ∀ l : List UInt8, (l.flatMap hex2).length = 2 * l.length := fun l => by
          induction l with
          | nil => rfl
          | cons a l ih => rw [List.flatMap_cons, List.length_append, ih]; simp [hex2]; omega
        rw [this, List.length_take]
        omega
      generalize (s.take k).flatMap hex2 = ys at *
      have e0 : (⟨s.toArray⟩ : ByteArray)[k]'(by show k < s.toArray.size; simpa using hlt) = s[k] := by simp [ByteArray.getElem_eq_getElem_data]
      generalize s[k] = c at e0 HE
      have hc := c.toNat_lt
      obtain ⟨m1, hm1⟩ : ∃ m1, m1 = c.toNat / 16 := ⟨_, rfl⟩
      obtain ⟨m2, hm2⟩ : ∃ m2, m2 = c.toNat % 16 := ⟨_, rfl⟩
      have hd1 : m1 < 16 := by omega
      have hd2 : m2 < 16 := by omega
      have hi1 : (m1 : Int) < 16 := by omega
      have hi2 : (m2 : Int) < 16 := by omega
      have hw1 : IntKind.u8.wrap ((c.toNat : Int) / 16) = (m1 : Int) := by rw [IntKind.wrap_u8']; omega
      have hw2 : (c.toNat : Int).tmod 16 = (m2 : Int) := by rw [Int.tmod_eq_emod_of_nonneg (by omega)]; omega
      have e1 := digit_at2 m1 hd1
      have e2 := digit_at2 m2 hd2
      generalize hg1 : ([(48 : UInt8), 49, 50, 51, 52, 53, 54, 55, 56, 57, 97, 98, 99, 100, 101, 102].getD m1 0) = x1 at e1
      generalize hg2 : ([(48 : UInt8), 49, 50, 51, 52, 53, 54, 55, 56, 57, 97, 98, 99, 100, 101, 102].getD m2 0) = x2 at e2
      have HX : Hid (hex2 c = [x1, x2]) := hidV (by rw [← hg1, ← hg2, hm1, hm2]; rfl)
      clear hg1 hg2 hm1 hm2
      go_wp2
      go_region_law ((refine step_app _ (by rfl) _ _ _ _ (by rfl) elem_u8 w.heap.size u4 _ (by rfl) (by exact (Own.alloc hO _)) _ (by rfl) [bv x1, bv x2] (src_new2 Tryz.underlying73 wr.heap.size _ _ _ _ _ _ (by exact heap_alloc_new wr _) rfl rfl rfl rfl _) (by simp only [List.length_map, List.length_cons, List.length_nil]; unfold maxLen; omega) (by simp only [List.length_map, List.length_cons, List.length_nil]; omega) (by have := hb.size; simp; omega) ?_; intro v2 w2 hO2 hs2))
      all_goals
        replace hO2 : OwnB w2 w.heap.size v2 ((s.take (k + 1)).flatMap hex2) := by
          rw [HE.out, HX.out]
          simpa [OwnB] using hO2
        have hb2 : Below w.heap.size w w2 := ((hb.alloc hb.size _).drew).trans (hs2.below (Nat.le_trans hb.size (by simp)) (fun k h => (hO.lt k h).1))
        clear hs2 hO hb e0 HE HX
        go_wp2
        go_roundw
        case rel => exact ⟨k + 1, _, by omega, by go_num, rfl, hO2, hb2⟩
        case measure => simp [intOf]; omega
    · have hke : s.take k = s := List.take_of_length_le (by omega)
      rw [hke] at hO
      obtain ⟨hx, hhx⟩ : ∃ hx, hx = s.flatMap hex2 := ⟨_, rfl⟩
      rw [← hhx] at hO
      have HH : Hid (s.flatMap hex2 = hx) := hidV hhx.symm
      clear hhx
      obtain ⟨ao, cap, rfl, _, _, hB, _⟩ := Own.bs hO
      have hst := run_str hB cap
      go_wp2
      go_ret
      exact ⟨by rw [HH.out]; rfl, hb⟩
end Go.Proofs.YtbjipcpoiiegkaaGreatDoor
namespace Go.Proofs.YtbjipcpoiiegkaaGreatDoor
theorem right_ways {x : Val} (h : x.right = true) : (x.t = 1 ∧ x.b = []) ∨ (x.t = 2 ∧ x.n = 0 ∧ x.b.length ≤ 256) ∨ (x.t = 3 ∧ (x.n = 0 ∨ x.n = 1) ∧ x.b = []) := by
  unfold Val.right at h
  by_cases h1 : x.t = 1
  · rw [if_pos h1] at h
    exact .inl ⟨h1, by simpa using h⟩
  · rw [if_neg h1] at h
    by_cases h2 : x.t = 2
    · rw [if_pos h2] at h
      exact .inr (.inl ⟨h2, by simpa using h⟩)
    · rw [if_neg h2] at h
      by_cases h3 : x.t = 3
      · rw [if_pos h3] at h
        exact .inr (.inr ⟨h3, by simpa using h⟩)
      · rw [if_neg h3] at h
        cases h
end Go.Proofs.YtbjipcpoiiegkaaGreatDoor
namespace Go.Proofs.YtbjipcpoiiegkaaGreatDoor
open Go.RowKit Go.Shelf
attribute [local go_sem high] eq_val eq_val0
theorem hex2_same : hex2 = hexOf := rfl
theorem ba_app (a b : List UInt8) : (⟨a.toArray⟩ : ByteArray) ++ (⟨b.toArray⟩ : ByteArray) = ⟨(a ++ b).toArray⟩ := by
  apply ByteArray.ext
  simp
set_option maxRecDepth 100000 in
set_option maxHeartbeats 1000000 in
theorem rone_any (x : Val) (hr : x.right = true) (h0 : -9223372036854775808 ≤ x.n) (h1 : x.n ≤ 9223372036854775807) (w : World) : Calls Tryz.prog 49 #[x.v] w fun e w' => e = .returned (.string ⟨(wordOf x).toArray⟩) ∧ Below w.heap.size w w' := by
  have hB0 : ∀ o, Below w.heap.size w (w.alloc o) := fun o => (Below.refl _ w).alloc (Nat.le_refl _) o
  rcases right_ways hr with ⟨ht, hb0⟩ | ⟨ht, hn0, hb0⟩ | ⟨ht, hn0, hb0⟩
  · obtain ⟨t, n, b⟩ := x
    simp only at ht hb0 h0 h1
    subst ht hb0
    simp only [Val.v]
    have hD := fun W => rdigits_any n h0 h1 W
    go_enter Tryz.func49, Tryz.ntmps49
    go_wp2_with (go_at_call 37; refine (hD _).mono ?_; rintro e w2 ⟨rfl, hb2⟩)
    go_ret
    exact ⟨by simp [wordOf], (hB0 _).trans (hb2.mono (by simp))⟩
  · obtain ⟨t, n, b⟩ := x
    simp only at ht hn0 hb0
    subst ht hn0
    simp only [Val.v]
    have hH := fun W => rhex_any b W (by omega)
    rw [hex2_same] at hH
    have hhl := hex_length b
    have HW : Hid (wordOf ⟨2, 0, b⟩ = [120, 39] ++ b.flatMap hexOf ++ [39]) := hidV (by simp [wordOf, hexWord])
    generalize b.flatMap hexOf = hx at hH hhl HW
    go_enter Tryz.func49, Tryz.ntmps49
    go_wp2_with (go_at_call 69; refine (hH _).mono ?_; rintro e w2 ⟨rfl, hb2⟩)
    go_ret
    refine ⟨?_, (hB0 _).trans (hb2.mono (by simp))⟩
    rw [HW.out, ← ba_app, ← ba_app]
    rfl
  · obtain ⟨t, n, b⟩ := x
    simp only at ht hn0 hb0
    subst ht hb0
    simp only [Val.v]
    rcases hn0 with rfl | rfl
    · go_enter Tryz.func49, Tryz.ntmps49
      go_wp2
      go_ret
      exact ⟨rfl, hB0 _⟩
    · go_enter Tryz.func49, Tryz.ntmps49
      go_wp2
      go_ret
      exact ⟨rfl, hB0 _⟩
theorem print_snoc (l : List Val) (x : Val) : printList (l ++ [x]) = if l = [] then wordOf x else printList l ++ 32 :: wordOf x := by
  unfold printList
  induction l with
  | nil => simp [Lib.join_one]
  | cons a l ih =>
    cases l with
    | nil => simp [Lib.join]
    | cons b l => simp [Lib.join] at ih ⊢; simp [ih]
theorem word_600 (x : Val) (hr : x.right = true) (h0 : -9223372036854775808 ≤ x.n) (h1 : x.n ≤ 9223372036854775807) : (wordOf x).length ≤ 600 := by
  unfold wordOf
  split
  · have := Lib.itoa_length_le x.n h0 h1; omega
  split
  · rw [hex_len]
    rcases right_ways hr with ⟨_, e⟩ | ⟨_, _, e⟩ | ⟨_, _, e⟩
    · simp [e]
    · omega
    · simp [e]
  split <;> simp
end Go.Proofs.YtbjipcpoiiegkaaGreatDoor
