/- What must come of layer 5. The document's Hex. Which values may be, case by case. The document's One, Print. Texts: plain facts for the document's side. A step law for a call of a Go function in a region that draws its order. The document's Digit, Unhex. -/
import Derived.Test.YtbjipcpoiiegkaaGreatDoorBC
import Derived.Test.YtbjipcpoiiegkaaGreatDoorVA
import Derived.Test.YtbjipcpoiiegkaaGreatDoorPA
import Derived.Deep.RegionWith
import Derived.Test.YtbjipcpoiiegkaaGreatDoorVX
import Derived.Deep.RegionLaw
import Derived.Shelf.Abstract
import Derived.Test.YtbjipcpoiiegkaaGreatDoorPlain
namespace Go.Proofs.YtbjipcpoiiegkaaGreatDoor
open Go.RowKit Go.Shelf
theorem parse_txt5 : parseS txt5 = (scr5, 0) := by decide +kernel
theorem print_scr5 : printS scr5 = txt5 := by decide +kernel
set_option maxRecDepth 100000 in
set_option maxHeartbeats 1000000 in
theorem knows5_any (w : World) (hM : Marks w) (hL : Laid w) : Calls Tryz.prog 12 #[] w fun e w' => e = .returned (.bool true) ∧ Below w.heap.size w w' := by
  have hP := parse5_any txt5 (by decide) w hM hL
  rw [parse_txt5] at hP
  have hPr := fun V0 V1 W (hW : Below w.heap.size w W) (h : ScIs W.cell? scr5 V0 V1) => print5_any scr5 V0 V1 W (hL.keep hW).pow (hM.keep hW) h ((parse_txt5 ▸ parseS_fit txt5).fits (Nat.le_refl _))
  rw [print_scr5] at hPr
  unfold txt5 at hP hPr
  go_enter Tryz.func12, Tryz.ntmps12
  go_wp2_with fail
  refine hP.mono ?_
  rintro e w1 ⟨v0, v1, rfl, hS, hb1⟩
  simp only
  have hS1 := hS.keep upF_all
  obtain ⟨⟨a0, c0, rfl, h0⟩, ⟨a1, c1, rfl, h1⟩⟩ := id hS1
  rcases h1 with h1 | ⟨b, off, rfl, hf⟩
  · cases h1
  obtain ⟨u0, u1, u2, u3, q0, q1, q2, q3, ⟨_, _, _, ⟨a3, c3, rfl, _⟩⟩⟩ := hf 0 (by decide)
  simp only [Nat.zero_mul, Nat.add_zero] at q0 q1 q2 q3
  have hbA := (Below.refl _ w1).alloc (Nat.le_refl _) (.cells #[.slice a0 scr5.consts.length c0, .slice (some ⟨b, off, none⟩) scr5.funcs.length c1] 39)
  have hS2 := hS1.keep (below_keep hbA)
  have hPr2 := hPr _ _ _ ((hb1.trans (hbA.mono hb1.size))) hS2
  have e0 : scr5.consts.length = 0 := rfl
  have e1 : scr5.funcs.length = 1 := rfl
  have e3 : (scr5.funcs[0]'(by decide)).code.length = 3 := rfl
  rw [e0, e1] at hPr2 hbA ⊢
  rw [e3] at q3
  have hlt : b < w1.heap.size := World.block_lt_of_cell? _ _ q3
  clear hf hS hS1 hS2 hPr q0 q1 q2 hP
  go_wp2_with (go_at_call 21; refine hPr2.mono ?_; rintro e w3 ⟨rfl, hb3⟩)
  go_ret
  exact ⟨rfl, (hb1.trans (hbA.mono hb1.size)).trans (hb3.mono (by have := hb1.size; have := hbA.size; omega))⟩
end Go.Proofs.YtbjipcpoiiegkaaGreatDoor
namespace Go.Proofs.YtbjipcpoiiegkaaGreatDoor
open Go.RowKit
def hexD : List UInt8 := [48, 49, 50, 51, 52, 53, 54, 55, 56, 57, 97, 98, 99, 100, 101, 102]
def hex2 (c : UInt8) : List UInt8 := [hexD.getD (c.toNat / 16) 0, hexD.getD (c.toNat % 16) 0]
theorem src_newB {P : Program} {tx e' : TypeId} (hk : P.underlying tx = some (.slice e')) (B : Nat) (x y : Value) (t : TypeId) (W : World) (hb : W.heap[B]? = some (.cells #[x] t (0, 0))) (h : x = y) (h1 : y.oneCell' = true) (c : Nat) : Src P 1 tx (.slice (some ⟨B, 0, none⟩) 1 c) [y].length [y] W := by
  subst h
  exact Src.ofSlice _ hk _ 1 c [x] rfl (World.news_of_block hb) (by intro u hu; simp at hu; subst hu; exact h1)
theorem src_new2 {P : Program} {tx e' : TypeId} (hk : P.underlying tx = some (.slice e')) (B : Nat) (x y x' y' : Value) (t : TypeId) (W : World) (hb : W.heap[B]? = some (.cells #[x, y] t (0, 0))) (h : x = x') (h' : y = y') (h1 : x'.oneCell' = true) (h2 : y'.oneCell' = true) (c : Nat) : Src P 1 tx (.slice (some ⟨B, 0, none⟩) 2 c) [x', y'].length [x', y'] W := by
  subst h h'
  exact Src.ofSlice _ hk _ 2 c [x, y] rfl (World.news_of_block hb) (by intro u hu; simp at hu; rcases hu with rfl | rfl <;> assumption)
set_option maxRecDepth 100000 in
set_option maxHeartbeats 1000000 in
theorem rhex_any (s : List UInt8) (w : World) (hs : s.length ≤ 1048576) : Calls Tryz.prog 69 #[.string ⟨s.toArray⟩] w fun e w' => e = .returned (.string ⟨(s.flatMap hex2).toArray⟩) ∧ Below w.heap.size w w' := by
  go_enter Tryz.func69, Tryz.ntmps69
  go_wp2
  go_loopw [4, 5] (fun v i wr => ∃ (k : Nat) (v' : Value), k ≤ s.length ∧ i = .int .i64 k ∧ v = v' ∧ OwnB wr w.heap.size v' ((s.take k).flatMap hex2) ∧ Below w.heap.size w wr) (fun _ i _ => s.length - (intOf i).toNat)
  case atStart => exact ⟨0, _, Nat.zero_le _, rfl, rfl, by simp only [List.take_zero, List.flatMap_nil]; exact Own.nil _ _ _, Below.refl _ _⟩
  case round =>
    obtain ⟨k, v', hk, rfl, rfl, hO, hb⟩ := hrel
    by_cases hlt : k < s.length
    · have HE : Hid ((s.take (k + 1)).flatMap hex2 = (s.take k).flatMap hex2 ++ hex2 s[k]) := hidV (by rw [List.take_succ_eq_append_getElem hlt, List.flatMap_append, List.flatMap_cons, List.flatMap_nil, List.append_nil])
      have hyl : ((s.take k).flatMap hex2).length ≤ 2097152 := by
        have : ∀ l : List UInt8, (l.flatMap hex2).length = 2 * l.length := fun l => by
          induction l with
          | nil => rfl
          | cons a l ih => rw [List.flatMap_cons, List.length_append, ih]; simp [hex2]; omega
        rw [this, List.length_take]
        omega
      generalize (s.take k).flatMap hex2 = ys at *
      have e0 : (⟨s.toArray⟩ : ByteArray)[k]'(by show k < s.toArray.size; simpa using hlt) = s[k] := by simp [ByteArray.getElem_eq_getElem_data]
      generalize s[k] = c at e0 HE
      have hc := c.toNat_lt
      obtain ⟨m1, hm1⟩ : ∃ m1, m1 = c.toNat / 16 := ⟨_, rfl⟩
      obtain ⟨m2, hm2⟩ : ∃ m2, m2 = c.toNat % 16 := ⟨_, rfl⟩
      have hd1 : m1 < 16 := by omega
      have hd2 : m2 < 16 := by omega
      have hi1 : (m1 : Int) < 16 := by omega
      have hi2 : (m2 : Int) < 16 := by omega
      have hw1 : IntKind.u8.wrap ((c.toNat : Int) / 16) = (m1 : Int) := by rw [IntKind.wrap_u8']; omega
      have hw2 : (c.toNat : Int).tmod 16 = (m2 : Int) := by rw [Int.tmod_eq_emod_of_nonneg (by omega)]; omega
      have e1 := digit_at2 m1 hd1
      have e2 := digit_at2 m2 hd2
      generalize hg1 : ([(48 : UInt8), 49, 50, 51, 52, 53, 54, 55, 56, 57, 97, 98, 99, 100, 101, 102].getD m1 0) = x1 at e1
      generalize hg2 : ([(48 : UInt8), 49, 50, 51, 52, 53, 54, 55, 56, 57, 97, 98, 99, 100, 101, 102].getD m2 0) = x2 at e2
      have HX : Hid (hex2 c = [x1, x2]) := hidV (by rw [← hg1, ← hg2, hm1, hm2]; rfl)
      clear hg1 hg2 hm1 hm2
      go_wp2
      go_region_law ((refine step_app _ (by rfl) _ _ _ _ (by rfl) elem_u8 w.heap.size u4 _ (by rfl) (by exact (Own.alloc hO _)) _ (by rfl) [bv x1, bv x2] (src_new2 Tryz.underlying73 wr.heap.size _ _ _ _ _ _ (by exact heap_alloc_new wr _) rfl rfl rfl rfl _) (by simp only [List.length_map, List.length_cons, List.length_nil]; unfold maxLen; omega) (by simp only [List.length_map, List.length_cons, List.length_nil]; omega) (by have := hb.size; simp; omega) ?_; intro v2 w2 hO2 hs2))
      all_goals
        replace hO2 : OwnB w2 w.heap.size v2 ((s.take (k + 1)).flatMap hex2) := by
          rw [HE.out, HX.out]
          simpa [OwnB] using hO2
        have hb2 : Below w.heap.size w w2 := ((hb.alloc hb.size _).drew).trans (hs2.below (Nat.le_trans hb.size (by simp)) (fun k h => (hO.lt k h).1))
        clear hs2 hO hb e0 HE HX
        go_wp2
        go_roundw
        case rel => exact ⟨k + 1, _, by omega, by go_num, rfl, hO2, hb2⟩
        case measure => simp [intOf]; omega
    · have hke : s.take k = s := List.take_of_length_le (by omega)
      rw [hke] at hO
      obtain ⟨hx, hhx⟩ : ∃ hx, hx = s.flatMap hex2 := ⟨_, rfl⟩
      rw [← hhx] at hO
      have HH : Hid (s.flatMap hex2 = hx) := hidV hhx.symm
      clear hhx
      obtain ⟨ao, cap, rfl, _, _, hB, _⟩ := Own.bs hO
      have hst := run_str hB cap
      go_wp2
      go_ret
      exact ⟨by rw [HH.out]; rfl, hb⟩
end Go.Proofs.YtbjipcpoiiegkaaGreatDoor
namespace Go.Proofs.YtbjipcpoiiegkaaGreatDoor
theorem right_ways {x : Val} (h : x.right = true) : (x.t = 1 ∧ x.b = []) ∨ (x.t = 2 ∧ x.n = 0 ∧ x.b.length ≤ 256) ∨ (x.t = 3 ∧ (x.n = 0 ∨ x.n = 1) ∧ x.b = []) := by
  unfold Val.right at h
  by_cases h1 : x.t = 1
  · rw [if_pos h1] at h
    exact .inl ⟨h1, by simpa using h⟩
  · rw [if_neg h1] at h
    by_cases h2 : x.t = 2
    · rw [if_pos h2] at h
      exact .inr (.inl ⟨h2, by simpa using h⟩)
    · rw [if_neg h2] at h
      by_cases h3 : x.t = 3
      · rw [if_pos h3] at h
        exact .inr (.inr ⟨h3, by simpa using h⟩)
      · rw [if_neg h3] at h
        cases h
end Go.Proofs.YtbjipcpoiiegkaaGreatDoor
namespace Go.Proofs.YtbjipcpoiiegkaaGreatDoor
open Go.RowKit Go.Shelf
attribute [local go_sem high] eq_val eq_val0
theorem hex2_same : hex2 = hexOf := rfl
theorem ba_app (a b : List UInt8) : (⟨a.toArray⟩ : ByteArray) ++ (⟨b.toArray⟩ : ByteArray) = ⟨(a ++ b).toArray⟩ := by
  apply ByteArray.ext
  simp
set_option maxRecDepth 100000 in
set_option maxHeartbeats 1000000 in
theorem rone_any (x : Val) (hr : x.right = true) (h0 : -9223372036854775808 ≤ x.n) (h1 : x.n ≤ 9223372036854775807) (w : World) : Calls Tryz.prog 49 #[x.v] w fun e w' => e = .returned (.string ⟨(wordOf x).toArray⟩) ∧ Below w.heap.size w w' := by
  have hB0 : ∀ o, Below w.heap.size w (w.alloc o) := fun o => (Below.refl _ w).alloc (Nat.le_refl _) o
  rcases right_ways hr with ⟨ht, hb0⟩ | ⟨ht, hn0, hb0⟩ | ⟨ht, hn0, hb0⟩
  · obtain ⟨t, n, b⟩ := x
    simp only at ht hb0 h0 h1
    subst ht hb0
    simp only [Val.v]
    have hD := fun W => rdigits_any n h0 h1 W
    go_enter Tryz.func49, Tryz.ntmps49
    go_wp2_with (go_at_call 37; refine (hD _).mono ?_; rintro e w2 ⟨rfl, hb2⟩)
    go_ret
    exact ⟨by simp [wordOf], (hB0 _).trans (hb2.mono (by simp))⟩
  · obtain ⟨t, n, b⟩ := x
    simp only at ht hn0 hb0
    subst ht hn0
    simp only [Val.v]
    have hH := fun W => rhex_any b W (by omega)
    rw [hex2_same] at hH
    have hhl := hex_length b
    have HW : Hid (wordOf ⟨2, 0, b⟩ = [120, 39] ++ b.flatMap hexOf ++ [39]) := hidV (by simp [wordOf, hexWord])
    generalize b.flatMap hexOf = hx at hH hhl HW
    go_enter Tryz.func49, Tryz.ntmps49
    go_wp2_with (go_at_call 69; refine (hH _).mono ?_; rintro e w2 ⟨rfl, hb2⟩)
    go_ret
    refine ⟨?_, (hB0 _).trans (hb2.mono (by simp))⟩
    rw [HW.out, ← ba_app, ← ba_app]
    rfl
  · obtain ⟨t, n, b⟩ := x
    simp only at ht hn0 hb0
    subst ht hb0
    simp only [Val.v]
    rcases hn0 with rfl | rfl
    · go_enter Tryz.func49, Tryz.ntmps49
      go_wp2
      go_ret
      exact ⟨rfl, hB0 _⟩
    · go_enter Tryz.func49, Tryz.ntmps49
      go_wp2
      go_ret
      exact ⟨rfl, hB0 _⟩
theorem print_snoc (l : List Val) (x : Val) : printList (l ++ [x]) = if l = [] then wordOf x else printList l ++ 32 :: wordOf x := by
  unfold printList
  induction l with
  | nil => simp [Lib.join_one]
  | cons a l ih =>
    cases l with
    | nil => simp [Lib.join]
    | cons b l => simp [Lib.join] at ih ⊢; simp [ih]
theorem word_600 (x : Val) (hr : x.right = true) (h0 : -9223372036854775808 ≤ x.n) (h1 : x.n ≤ 9223372036854775807) : (wordOf x).length ≤ 600 := by
  unfold wordOf
  split
  · have := Lib.itoa_length_le x.n h0 h1; omega
  split
  · rw [hex_len]
    rcases right_ways hr with ⟨_, e⟩ | ⟨_, _, e⟩ | ⟨_, _, e⟩
    · simp [e]
    · omega
    · simp [e]
  split <;> simp
end Go.Proofs.YtbjipcpoiiegkaaGreatDoor
namespace Go.Proofs.YtbjipcpoiiegkaaGreatDoor
open Go.Shelf
/-- The number that digits say. -/
def valD (l : List UInt8) : Nat := l.foldl (fun a c => 10 * a + (c.toNat - 48)) 0
theorem valD_snoc (l : List UInt8) (c : UInt8) : valD (l ++ [c]) = 10 * valD l + (c.toNat - 48) := by simp [valD]
theorem valD_digits : ∀ (n u : Nat), u ≤ n → valD (Lib.decDigits u) = u
  | n, u, hn => by
    rw [Lib.decDigits]
    split
    · rename_i h
      simp only [valD, List.foldl_cons, List.foldl_nil, UInt8.toNat_ofNat']
      omega
    · rename_i h
      cases n with
      | zero => omega
      | succ n =>
        rw [valD_snoc, valD_digits n (u / 10) (by omega), UInt8.toNat_ofNat']
        omega
theorem valD_le (l r : List UInt8) : valD l ≤ valD (l ++ r) := by
  induction r generalizing l with
  | nil => simp
  | cons c r ih =>
    have := ih (l ++ [c])
    rw [valD_snoc] at this
    rw [show l ++ c :: r = l ++ [c] ++ r by simp]
    omega
/-- Ahead of one more digit a number is at most a tenth. -/
theorem valD_tenth (l : List UInt8) (k : Nat) (h : k < l.length) : 10 * valD (l.take k) ≤ valD l := by
  have e : l.take k ++ [l[k]] ++ l.drop (k + 1) = l := by
    have := List.take_append_drop (k + 1) l
    rw [List.take_add_one, List.getElem?_eq_getElem h] at this
    simp
  have h1 := valD_le (l.take k ++ [l[k]]) (l.drop (k + 1))
  rw [e, valD_snoc] at h1
  omega
theorem valD_next (l : List UInt8) (k : Nat) (h : k < l.length) : valD (l.take (k + 1)) = 10 * valD (l.take k) + (l[k].toNat - 48) := by
  rw [List.take_add_one, List.getElem?_eq_getElem h]
  exact valD_snoc _ _
/-- A digit of the base 16, by its place. -/
theorem idx_hex (c : UInt8) : Lib.indexByte hexDigits c = if 48 ≤ c.toNat ∧ c.toNat ≤ 57 then (c.toNat : Int) - 48 else if 97 ≤ c.toNat ∧ c.toNat ≤ 102 then (c.toNat : Int) - 87 else -1 := by
  have H : ∀ k : Fin 256, Lib.indexByte hexDigits (UInt8.ofNat k.1) = if 48 ≤ k.1 ∧ k.1 ≤ 57 then (k.1 : Int) - 48 else if 97 ≤ k.1 ∧ k.1 ≤ 102 then (k.1 : Int) - 87 else -1 := by decide +kernel
  have := H ⟨c.toNat, c.toNat_lt⟩
  simpa using this
theorem hex_back (a : UInt8) (h : 0 ≤ Lib.indexByte hexDigits a) : (Lib.indexByte hexDigits a).toNat < 16 ∧ hexDigits.getD (Lib.indexByte hexDigits a).toNat 0 = a := by
  have H : ∀ k : Fin 256, 0 ≤ Lib.indexByte hexDigits (UInt8.ofNat k.1) → (Lib.indexByte hexDigits (UInt8.ofNat k.1)).toNat < 16 ∧ hexDigits.getD (Lib.indexByte hexDigits (UInt8.ofNat k.1)).toNat 0 = UInt8.ofNat k.1 := by decide +kernel
  have := H ⟨a.toNat, a.toNat_lt⟩
  simp only [UInt8.ofNat_toNat] at this
  exact this h
/-- What was read is written as it was. -/
theorem hex_unhex : ∀ (n : Nat) (s t : List UInt8), s.length ≤ n → unhex s = some t → t.flatMap hexOf = s
  | _, [], t, _, h => by simp [unhex] at h; subst h; rfl
  | _, [_], t, _, h => by simp [unhex] at h
  | 0, _ :: _ :: _, _, hn, _ => by simp at hn
  | n + 1, a :: b :: r, t, hn, h => by
    rw [unhex] at h
    split at h
    · cases h
    · rename_i h1
      obtain ⟨u, hu, rfl⟩ := Option.map_eq_some_iff.1 h
      obtain ⟨ha1, ha2⟩ := hex_back a (by omega)
      obtain ⟨hb1, hb2⟩ := hex_back b (by omega)
      have ih := hex_unhex n r u (by simp at hn; omega) hu
      rw [List.flatMap_cons, ih]
      have e : (UInt8.ofNat (16 * (Lib.indexByte hexDigits a).toNat + (Lib.indexByte hexDigits b).toNat)).toNat = 16 * (Lib.indexByte hexDigits a).toNat + (Lib.indexByte hexDigits b).toNat := by
        rw [UInt8.toNat_ofNat']; omega
      simp only [hexOf, e]
      rw [show (16 * (Lib.indexByte hexDigits a).toNat + (Lib.indexByte hexDigits b).toNat) / 16 = (Lib.indexByte hexDigits a).toNat by omega, show (16 * (Lib.indexByte hexDigits a).toNat + (Lib.indexByte hexDigits b).toNat) % 16 = (Lib.indexByte hexDigits b).toNat by omega, ha2, hb2]
      rfl
theorem unhex_even : ∀ (n : Nat) (s t : List UInt8), s.length ≤ n → unhex s = some t → s.length = 2 * t.length
  | _, [], t, _, h => by simp [unhex] at h; subst h; rfl
  | _, [_], t, _, h => by simp [unhex] at h
  | 0, _ :: _ :: _, _, hn, _ => by simp at hn
  | n + 1, a :: b :: r, t, hn, h => by
    rw [unhex] at h
    split at h
    · cases h
    · obtain ⟨u, hu, rfl⟩ := Option.map_eq_some_iff.1 h
      have := unhex_even n r u (by simp at hn; omega) hu
      simp only [List.length_cons]
      omega

/-- The text of a number. -/
def IsNum (s : List UInt8) (v : Int) : Prop := Lib.itoa v = s ∧ -9223372036854775808 ≤ v ∧ v ≤ 9223372036854775807
theorem read_num {s : List UInt8} (h1 : s ≠ wTrue) (h2 : s ≠ wFalse) (h3 : Lib.hasPrefix s [120, 39] = false) : (∃ v, IsNum s v ∧ readOf s = some ⟨1, v, []⟩) ∨ ((∀ v, ¬ IsNum s v) ∧ readOf s = none) := by
  by_cases hex : ∃ v, IsNum s v
  · obtain ⟨v, rfl, ha, hb⟩ := hex
    exact .inl ⟨v, ⟨rfl, ha, hb⟩, read_word ⟨1, v, []⟩ (by simp [Val.right]) ha hb⟩
  · refine .inr ⟨fun v hv => hex ⟨v, hv⟩, ?_⟩
    unfold readOf guessOf
    rw [if_neg h1, if_neg h2, h3]
    simp only [Bool.false_eq_true, if_false]
    split
    · rename_i v hv
      simp only [Option.bind_some]
      rw [if_neg]
      intro h
      have hp := print_one ⟨1, v, []⟩ (by simp [Val.right])
      rw [hp] at h
      have hr := Lib.atoiAll_bounds hv
      exact hex ⟨v, by simpa [wordOf] using h, hr.1, hr.2⟩
    · rfl
theorem num_head {s : List UInt8} {v : Int} (h : IsNum s v) : ∃ c r, s = c :: r ∧ c ≠ 120 := by
  obtain ⟨c, r, e, hc, _⟩ := itoa_head v
  rw [h.1] at e
  exact ⟨c, r, e, by rintro rfl; rcases hc with h | h <;> simp at h⟩
theorem read_hex (m : List UInt8) : readOf (120 :: 39 :: (m ++ [39])) = (unhex m).bind fun t => if t.length ≤ 256 then some ⟨2, 0, t⟩ else none := by
  have h3 : Lib.hasPrefix (120 :: 39 :: (m ++ [39])) [120, 39] = true := by simp [Lib.hasPrefix, List.isPrefixOf]
  unfold readOf guessOf
  rw [if_neg (by simp [wTrue]), if_neg (by simp [wFalse]), if_pos h3]
  simp only [List.drop_succ_cons, List.drop_zero]
  unfold readB
  rw [suffix_last, trim_last]
  cases hu : unhex m with
  | none => simp
  | some t =>
    have he := unhex_even _ m t (Nat.le_refl _) hu
    have hb := hex_unhex _ m t (Nat.le_refl _) hu
    have : (true && m.length % 2 == 0) = true := by simp [he]
    rw [if_pos this]
    simp only [Option.map_some, Option.bind_some]
    by_cases hl : t.length ≤ 256
    · have hr : (⟨2, 0, t⟩ : Val).right = true := by simp [Val.right, hl]
      rw [if_pos hl, print_one _ hr, if_pos]
      simp [wordOf, hexWord, hb]
    · have hr : (⟨2, 0, t⟩ : Val).right = false := by simp [Val.right, hl]
      rw [if_neg hl, if_neg]
      simp [printOf, hr]
theorem read_unhex {r : List UInt8} (h : r = [] ∨ ∃ m c, r = m ++ [c] ∧ c ≠ 39) : readOf (120 :: 39 :: r) = none := by
  have h3 : Lib.hasPrefix (120 :: 39 :: r) [120, 39] = true := by simp [Lib.hasPrefix, List.isPrefixOf]
  have h4 : Lib.hasSuffix r [39] = false := by
    rcases h with rfl | ⟨m, c, rfl, hc⟩
    · rfl
    · unfold Lib.hasSuffix
      cases hh : List.isSuffixOf [39] (m ++ [c]) with
      | false => rfl
      | true =>
        obtain ⟨t, ht⟩ := List.isSuffixOf_iff_suffix.1 hh
        have := List.append_inj_right' ht rfl
        simp at this
        exact absurd this.symm hc
  unfold readOf guessOf
  rw [if_neg (by simp [wTrue]), if_neg (by simp [wFalse]), if_pos h3]
  simp only [List.drop_succ_cons, List.drop_zero]
  unfold readB
  rw [h4]
  simp
end Go.Proofs.YtbjipcpoiiegkaaGreatDoor
namespace Go.Proofs.YtbjipcpoiiegkaaGreatDoor
open Go.RowKit
theorem step_call2 {P : Program} {ops : Array Oper} {o : Oper} {a : Act} {w : World} {K : Act → World → Prop} {Q : Exit → Act → World → Prop} {X : Prop} (hgd : o.guard = none) (f : FuncId) (xs : Array Operand) (ts : Array TypeId)
    (ho : o.op = .call { callee := .value (.func f), args := xs, argTypes := ts }) (eg : ∀ args w, (callFunc f args).run P w = .ok (.enter f args) w) (args : Array Value) (hargs0 : xs.toList.map a.eval = args.toList) (post : Ending → World → Prop)
    (h : Calls P f args w post) (hp : ∀ e w', post e w' → ∃ v, e = .returned v ∧ K (a.put o.dst v) w') : if Region.wanted o (yielded ops a.tmps) = true then Oper.wp P o a w K Q else X := by
  have hw : Region.wanted o (yielded ops a.tmps) = true := by simp [Region.wanted, hgd]
  have hargs : xs.map a.eval = args := by
    apply Array.toList_inj.1
    rw [Array.toList_map]
    exact hargs0
  rw [if_pos hw]
  unfold Oper.wp
  have e1 : (execOp a.eval o).run P w = .ok (.enter f args) w := by
    unfold execOp
    simp [ho, resolve, invoke, go_sem, eg, hargs]
  rw [e1]
  refine h.mono fun e w' hpost => ?_
  obtain ⟨v, rfl, hk⟩ := hp e w' hpost
  exact hk

end Go.Proofs.YtbjipcpoiiegkaaGreatDoor
namespace Go.Proofs.YtbjipcpoiiegkaaGreatDoor
open Go.RowKit Go.Shelf
attribute [local go_sem high] eq_val eq_val0
set_option maxRecDepth 100000 in
theorem rdigit_any (c : UInt8) (w : World) : Calls Tryz.prog 97 #[.int .u8 (c.toNat : Int)] w fun e w' => e = .returned (.int .i64 (Lib.indexByte hexDigits c)) ∧ w' = w := by
  have hx := idx_hex c
  have hc := c.toNat_lt
  generalize Lib.indexByte hexDigits c = r at hx
  generalize c.toNat = n at hx hc ⊢
  by_cases h1 : 48 ≤ n ∧ n ≤ 57
  · rw [if_pos h1] at hx
    obtain ⟨ha, hb⟩ := h1
    have e1 : IntKind.u8.wrap ((n : Int) - 48) = (n : Int) - 48 := by rw [IntKind.wrap_u8']; omega
    subst hx
    go_enter Tryz.func97, Tryz.ntmps97
    go_wp2
    all_goals (go_ret; exact ⟨rfl, rfl⟩)
  · rw [if_neg h1] at hx
    by_cases h2 : 97 ≤ n ∧ n ≤ 102
    · rw [if_pos h2] at hx
      obtain ⟨ha, hb⟩ := h2
      have e1 : IntKind.u8.wrap ((n : Int) - 97) = (n : Int) - 97 := by rw [IntKind.wrap_u8']; omega
      have e2 : (n : Int) - 87 = (n : Int) - 97 + 10 := by omega
      rw [e2] at hx
      subst hx
      clear e2
      go_enter Tryz.func97, Tryz.ntmps97
      go_wp2
      all_goals (go_ret; exact ⟨rfl, rfl⟩)
    · rw [if_neg h2] at hx
      subst hx
      go_enter Tryz.func97, Tryz.ntmps97
      go_wp2
      all_goals first | (go_ret; exact ⟨rfl, rfl⟩) | (exfalso; omega)
theorem unhex_at {t : List UInt8} {j : Nat} (h : j + 1 < t.length) : unhex (t.drop j) = if Lib.indexByte hexDigits t[j] < 0 ∨ Lib.indexByte hexDigits t[j + 1] < 0 then none else (unhex (t.drop (j + 2))).map (UInt8.ofNat (16 * (Lib.indexByte hexDigits t[j]).toNat + (Lib.indexByte hexDigits t[j + 1]).toNat) :: ·) := by
  rw [List.drop_eq_getElem_cons (by omega), List.drop_eq_getElem_cons h, unhex]
theorem unhex_end {t : List UInt8} {j : Nat} (h : t.length ≤ j + 1) (hj : j ≤ t.length) : unhex (t.drop j) = if t.length = j then some [] else none := by
  by_cases h0 : t.length = j
  · rw [if_pos h0, List.drop_of_length_le (by omega)]
    rfl
  · rw [if_neg h0, List.drop_eq_getElem_cons (by omega), List.drop_of_length_le (by omega)]
    rfl
set_option maxRecDepth 100000 in
set_option maxHeartbeats 1000000 in
theorem runhex_any (s : List UInt8) (w : World) (hs : s.length ≤ 1048576) : Calls Tryz.prog 86 #[.string ⟨s.toArray⟩] w fun e w' => ∃ t : List UInt8, e = .returned (.tuple #[.string ⟨t.toArray⟩, .bool (unhex s).isSome]) ∧ (∀ u, unhex s = some u → t = u) ∧ Below w.heap.size w w' := by
  go_enter Tryz.func86, Tryz.ntmps86
  go_wp2
  go_loopw [4, 5] (fun v i wr => ∃ (j : Nat) (v' : Value) (xs : List UInt8), j ≤ s.length ∧ i = .int .i64 j ∧ v = v' ∧ OwnB wr w.heap.size v' xs ∧ Hid (2 * xs.length = j) ∧ Hid (unhex s = (unhex (s.drop j)).map (xs ++ ·)) ∧ Below w.heap.size w wr) (fun _ i _ => s.length - (intOf i).toNat)
  case atStart => exact ⟨0, _, [], Nat.zero_le _, rfl, rfl, Own.nil _ _ _, hidV rfl, hidV (by simp), Below.refl _ _⟩
  case round =>
    obtain ⟨j, v', xs, hk, rfl, rfl, hO, hxl, hu, hb⟩ := hrel
    have hD := fun c W => rdigit_any c W
    have hxj : xs.length ≤ 1048576 := by have := hxl.out; omega
    by_cases hlt : j + 1 < s.length
    · have l0 : j < s.length := by omega
      have hun := unhex_at hlt
      have e0 : (⟨s.toArray⟩ : ByteArray)[j]'(by show j < s.toArray.size; simpa using l0) = s[j] := by simp [ByteArray.getElem_eq_getElem_data]
      have e1 : (⟨s.toArray⟩ : ByteArray)[j + 1]'(by show j + 1 < s.toArray.size; simpa using hlt) = s[j + 1] := by simp [ByteArray.getElem_eq_getElem_data]
      generalize s[j] = x at e0 hun
      generalize s[j + 1] = y at e1 hun
      have hX := fun W => hD x W
      have hY := fun W => hD y W
      clear hD
      rcases digit_is x with hA | ⟨h, hh, hA⟩
      · have HU : Hid (unhex s = none) := hidV (by rw [hu.out, hun, if_pos (.inl (by rw [hA]; decide))]; rfl)
        clear hu hun
        rw [hA] at hX
        go_wp2_with (go_at_call 97; first | (refine (hX _).mono ?_; rintro e w' ⟨rfl, rfl⟩))
        go_ret2
        exact ⟨[], by rw [HU.out]; rfl, (fun u h => by rw [HU.out] at h; cases h), hb⟩
      rcases digit_is y with hB | ⟨l, hl, hB⟩
      · have HU : Hid (unhex s = none) := hidV (by rw [hu.out, hun, if_pos (.inr (by rw [hB]; decide))]; rfl)
        clear hu hun
        rw [hA] at hX
        rw [hB] at hY
        go_wp2_with (go_at_call 97; first | (refine (hX _).mono ?_; rintro e w' ⟨rfl, rfl⟩; clear hX) | (refine (hY _).mono ?_; rintro e w' ⟨rfl, rfl⟩))
        go_ret2
        exact ⟨[], by rw [HU.out]; rfl, (fun u h => by rw [HU.out] at h; cases h), hb⟩
      · have HU : Hid (unhex s = (unhex (s.drop (j + 2))).map ((xs ++ [UInt8.ofNat (16 * h + l)]) ++ ·)) := hidV (by
          rw [hu.out, hun, if_neg (by rw [hA, hB]; omega), hA, hB]
          simp [Function.comp_def])
        clear hu hun
        have hX2 := hX
        have hY2 := hY
        rw [hA] at hX hX2
        rw [hB] at hY hY2
        go_wp2_with (go_at_call 97; first | (refine (hX _).mono ?_; rintro e w' ⟨rfl, rfl⟩; clear hX) | (refine (hY _).mono ?_; rintro e w' ⟨rfl, rfl⟩; clear hY))
        have hm1 : IntKind.i64.wrap (16 * (h : Int)) = 16 * (h : Int) := wrap_small _ (by omega) (by omega)
        have hm2 : IntKind.i64.wrap (16 * (h : Int) + (l : Int)) = 16 * (h : Int) + (l : Int) := wrap_small _ (by omega) (by omega)
        have hm3 : IntKind.u8.wrap (16 * (h : Int) + (l : Int)) = 16 * (h : Int) + (l : Int) := by rw [IntKind.wrap_u8']; omega
        have hm4 : IntKind.i64.wrap ((j : Int) + 1) = ((j + 1 : Nat) : Int) := by rw [wrap_small _ (by omega) (by omega)]; omega
        have hbv : (Value.int .u8 (16 * (h : Int) + (l : Int))) = bv (UInt8.ofNat (16 * h + l)) := by
          simp only [bv, UInt8.toNat_ofNat']
          rw [Nat.mod_eq_of_lt (by omega)]
          congr 1
        generalize UInt8.ofNat (16 * h + l) = cc at hbv HU
        go_region_law (first
          | (refine step_call2 (by rfl) 97 _ _ (by rfl) (Go.Proofs.enters_of Tryz.func97 (by kernel_rfl) rfl) #[.int .u8 (x.toNat : Int)] (by rfl) _ (hX2 _) ?_; rintro e w'' ⟨rfl, rfl⟩; refine ⟨_, rfl, ?_⟩; clear hX2)
          | (refine step_call2 (by rfl) 97 _ _ (by rfl) (Go.Proofs.enters_of Tryz.func97 (by kernel_rfl) rfl) #[.int .u8 (y.toNat : Int)] (by rfl) _ (hY2 _) ?_; rintro e w'' ⟨rfl, rfl⟩; refine ⟨_, rfl, ?_⟩; clear hY2)
          | (refine step_app _ (by rfl) _ _ _ _ (by rfl) elem_u8 w.heap.size u4 _ (by rfl) (by exact (Own.alloc hO _)) _ (by rfl) [bv cc] (src_newB Tryz.underlying73 _ _ _ _ _ (by exact heap_alloc_new _ _) (by first | rfl | exact hbv) rfl _) (by simp only [List.length_map, List.length_cons, List.length_nil]; unfold maxLen; omega) (by simp only [List.length_map, List.length_cons, List.length_nil]; omega) (by have := hb.size; simp; omega) ?_; intro v2 w2 hO2 hs2))
        all_goals
          replace hO2 : OwnB w2 w.heap.size v2 (xs ++ [cc]) := by
            simpa [OwnB] using hO2
          have hb2 : Below w.heap.size w w2 := ((hb.drew.alloc hb.size _)).trans (hs2.below (Nat.le_trans hb.size (by simp)) (fun k h => (hO.lt k h).1))
          have hxl2 : Hid (2 * (xs ++ [cc]).length = j + 2) := hidV (by have := hxl.out; simp; omega)
          clear hs2 hO hb e0 e1 hxl
          go_wp2
          go_roundw
          case rel => exact ⟨j + 2, _, xs ++ [cc], by omega, by go_num, rfl, hO2, hxl2, HU, hb2⟩
          case measure => simp [intOf]; omega
    · have HE : Hid (unhex s = if s.length = j then some xs else none) := hidV (by
        rw [hu.out, unhex_end (by omega) hk]
        split <;> simp)
      have hev := hxl.out
      obtain ⟨ao, cap, rfl, _, _, hB, _⟩ := Own.bs hO
      have hst := run_str hB cap
      obtain ⟨nx, hnx⟩ : ∃ nx, nx = xs.length := ⟨_, rfl⟩
      by_cases h0 : s.length = j
      · have hmod : (j : Int) % 2 = 0 := by omega
        have hmod2 : (s.length : Int) % 2 = 0 := by omega
        go_wp2
        go_ret2
        exact ⟨xs, by rw [HE.out, if_pos h0]; rfl, (fun u h => by rw [HE.out, if_pos h0] at h; exact Option.some.inj h), hb⟩
      · have hmod : (s.length : Int).tmod 2 = 1 := by rw [Int.tmod_eq_emod_of_nonneg (by omega)]; omega
        go_wp2
        go_ret2
        exact ⟨xs, by rw [HE.out, if_neg h0]; rfl, (fun u h => by rw [HE.out, if_neg h0] at h; cases h), hb⟩
end Go.Proofs.YtbjipcpoiiegkaaGreatDoor
