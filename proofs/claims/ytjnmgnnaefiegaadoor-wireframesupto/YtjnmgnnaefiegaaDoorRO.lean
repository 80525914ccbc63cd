/- What ref's one and Frames come to: the frames that bytes begin with. -/
import Derived.Test.YtjnmgnnaefiegaaDoorWS
import Derived.Test.YtjnmgnnaefiegaaDoorFA
import Derived.Test.YtjnmgnnaefiegaaDoorWH
import Derived.Deep.RegionLaw
import Derived.Deep.QuietTactic
namespace Go.Proofs.YtjnmgnnaefiegaaDoor
open Go.RowKit

/-- What a call of ref's one leaves. -/
def OneEnd (w : World) (bs : List UInt8) (e : Ending) (w' : World) : Prop :=
  (firstOf bs = none ∧ e = .returned (.tuple #[.slice none 0 0, .int .i64 0, .bool false]) ∧ Below w.heap.size w w') ∨
  ∃ inn v, firstOf bs = some inn ∧ e = .returned (.tuple #[v, .int .i64 ((8 + inn.length : Nat) : Int), .bool true]) ∧ OwnB w' w.heap.size v inn ∧ Below w.heap.size w w'

theorem num_small (bs : List UInt8) (h : bs.length ≤ 4) : num bs < 4294967296 := by
  match bs, h with
  | [], _ => decide
  | [a], _ => have := a.toNat_lt; simp only [num, List.foldl_cons, List.foldl_nil, numStep]; omega
  | [a, b], _ => have := a.toNat_lt; have := b.toNat_lt; simp only [num, List.foldl_cons, List.foldl_nil, numStep]; omega
  | [a, b, c], _ => have := a.toNat_lt; have := b.toNat_lt; have := c.toNat_lt; simp only [num, List.foldl_cons, List.foldl_nil, numStep]; omega
  | [a, b, c, d], _ => have := a.toNat_lt; have := b.toNat_lt; have := c.toNat_lt; have := d.toNat_lt; simp only [num, List.foldl_cons, List.foldl_nil, numStep]; omega
  | _ :: _ :: _ :: _ :: _ :: _, h => simp at h

theorem refOne_short (ao : Option Addr) (len cap : Nat) (bs : List UInt8) (w : World) (hl : bs.length = len) (h8 : len < 8) :
    Calls Tryd.prog 57 #[.slice ao len cap] w fun e w' => OneEnd w bs e w' := by
  have HF : Hid (firstOf bs = none) := hid (by simp [firstOf]; omega)
  go_enter Tryd.func57, Tryd.ntmps57
  go_wp2
  go_ret3
  exact .inl ⟨HF.out, rfl, Below.refl _ _⟩

set_option maxHeartbeats 2000000 in
theorem refOne_long (b off len cap : Nat) (bs : List UInt8) (w : World) (hl : bs.length = len) (hm : len ≤ 140737488355328) (hcap : len ≤ cap) (h8 : 8 ≤ len) (hc : ∀ j (h : j < bs.length), w.cell? ⟨b, off + j, none⟩ = some (.int .u8 (bs[j].toNat : Int))) :
    Calls Tryd.prog 57 #[.slice (some ⟨b, off, none⟩) len cap] w fun e w' => OneEnd w bs e w' := by
  have hF0 : firstOf bs = if 1048576 < num (bs.take 4) then none else if len - 8 < num (bs.take 4) then none
    else if num ((bs.drop 4).take 4) ≠ rev4 (crc (bs.take 4 ++ (bs.drop 8).take (num (bs.take 4)))) then none else some ((bs.drop 8).take (num (bs.take 4))) := by
    rw [firstOf, if_neg (by omega), hl]
  have HF : Hid _ := hid hF0
  clear hF0
  go_enter Tryd.func57, Tryd.ntmps57
  go_wp2
  go_loop [5, 6] (fun n i => ∃ k : Nat, k ≤ 4 ∧ i = .int .i64 k ∧ n = .int .i64 (num (bs.take k) : Nat)) (fun _ i => 4 - (intOf i).toNat)
  case atStart => exact ⟨0, Nat.zero_le _, rfl, rfl⟩
  case round =>
    obtain ⟨k, hk, rfl, rfl⟩ := hrel
    by_cases hlt : k < 4
    · have hck := hc k (by omega)
      have HS : Hid (num (bs.take (k + 1)) = numStep (num (bs.take k)) (bs[k]'(by omega))) := hid (num_snoc bs k (by omega))
      have hsm := num_small (bs.take k) (by simp; omega)
      generalize bs[k]'(by omega) = x at hck HS
      generalize num (bs.take k) = n at HS hsm
      have hx := x.toNat_lt
      clear hc HF
      go_wp2
      go_round
      case rel => exact ⟨k + 1, by omega, by go_num, by rw [HS.out]; unfold numStep; congr 1; omega⟩
      case measure => simp [intOf]; omega
    · obtain rfl : k = 4 := by omega
      have l4 : (bs.take 4).length = 4 := by simp; omega
      have l48 : ((bs.drop 4).take 4).length = 4 := by simp; omega
      have hB4 : Bs w (some ⟨b, off, none⟩) (bs.take 4) := by simpa using Bs.cut hc 0 4
      have hB8 := Bs.cut hc 8 (num (bs.take 4))
      have c4 := hc 4 (by omega)
      have c5 := hc 5 (by omega)
      have c6 := hc 6 (by omega)
      have c7 := hc 7 (by omega)
      have e48 : (bs.drop 4).take 4 = [bs[4], bs[5], bs[6], bs[7]] := by
        apply List.ext_getElem
        · rw [l48]; rfl
        · intro i h1 h2
          rw [l48] at h1
          rw [List.getElem_take, List.getElem_drop]
          match i, h1 with
          | 0, _ => rfl
          | 1, _ => rfl
          | 2, _ => rfl
          | 3, _ => rfl
      have hin : len - 8 < num (bs.take 4) ∨ ((bs.drop 8).take (num (bs.take 4))).length = num (bs.take 4) := by
        by_cases h : len - 8 < num (bs.take 4)
        · exact .inl h
        · right; simp only [List.length_take, List.length_drop]; omega
      have hsm := num_small (bs.take 4) (by omega)
      have HF1 := HF.out
      rw [e48] at HF1
      generalize bs[4] = y0 at *
      generalize bs[5] = y1 at *
      generalize bs[6] = y2 at *
      generalize bs[7] = y3 at *
      generalize bs.take 4 = x4 at *
      generalize hnn : num x4 = n at *
      generalize (bs.drop 8).take n = inn at *
      have HF2 : Hid _ := hid HF1
      clear HF1 hnn hc HF e48 l48
      by_cases h1 : 1048576 < n
      · have HF' : Hid (firstOf bs = none) := hid (by have := HF2.out; rw [if_pos h1] at this; exact this)
        go_wp2
        go_ret3
        exact .inl ⟨HF'.out, rfl, Below.refl _ _⟩
      by_cases h2 : len - 8 < n
      · have HF' : Hid (firstOf bs = none) := hid (by have := HF2.out; rw [if_neg h1, if_pos h2] at this; exact this)
        go_wp2
        go_ret3
        exact .inl ⟨HF'.out, rfl, Below.refl _ _⟩
      have hinl : inn.length = n := by omega
      have HF3 : Hid (firstOf bs = if num [y0, y1, y2, y3] ≠ rev4 (crc (x4 ++ inn)) then none else some inn) := hid (by have := HF2.out; rw [if_neg h1, if_neg h2] at this; exact this)
      clear HF2 hin
      obtain ⟨aS, hBS, hsl⟩ : ∃ aS, Bs w aS inn ∧ ((cap = 8 ∧ n = 0 ∧ aS = some ⟨b, off, none⟩) ∨ (¬ cap = 8 ∧ aS = some ⟨b, off + 8, none⟩)) := by
        by_cases h : cap = 8
        · exact ⟨_, .inl (List.eq_nil_of_length_eq_zero (by omega)), .inl ⟨h, by omega, rfl⟩⟩
        · exact ⟨_, hB8, .inr ⟨h, rfl⟩⟩
      clear hB8
      have hba : Below w.heap.size w (w.alloc (.cells #[] 5)) := (Below.refl _ _).alloc (Nat.le_refl _) _
      have hO1 : OwnB (w.alloc (.cells #[] 5)) w.heap.size (.slice (some ⟨w.heap.size, 0, none⟩) 0 0) [] := World.ownsRow_lit w #[] 0 (Nat.le_refl _) (Nat.zero_le _) rfl
      have hS1 := src_bs (P := Tryd.prog) _ Tryd.underlying26 (hBS.keep (below_keep hba)) (cap - 8)
      have hbe : be (rev4 (crc (x4 ++ inn))) 4 = [UInt8.ofNat (crc (x4 ++ inn)), UInt8.ofNat (crc (x4 ++ inn) / 256), UInt8.ofNat (crc (x4 ++ inn) / 65536), UInt8.ofNat (crc (x4 ++ inn) / 16777216)] := be_rev4 _ (crc_lt _)
      have hnb := num_be4 (rev4 (crc (x4 ++ inn))) (rev4_lt _ (crc_lt _))
      rw [hbe] at hnb
      have HN : Hid (num [y0, y1, y2, y3] ≠ rev4 (crc (x4 ++ inn)) ↔ ¬ (y0 = UInt8.ofNat (crc (x4 ++ inn)) ∧ y1 = UInt8.ofNat (crc (x4 ++ inn) / 256) ∧ y2 = UInt8.ofNat (crc (x4 ++ inn) / 65536) ∧ y3 = UInt8.ofNat (crc (x4 ++ inn) / 16777216))) := hid (by
        rw [← hnb]
        constructor
        · rintro h ⟨rfl, rfl, rfl, rfl⟩
          exact h rfl
        · intro h h'
          have := num4_inj _ _ rfl rfl h'
          simp only [List.cons.injEq, and_true] at this
          exact h this)
      clear hbe hnb
      subst hinl
      have hl8 : inn.length ≤ cap - 8 := by omega
      rcases hsl with ⟨rfl, hn0, rfl⟩ | ⟨hc8, rfl⟩
      · obtain rfl : inn = [] := List.eq_nil_of_length_eq_zero hn0
        have HF4 : Hid (firstOf bs = if num [y0, y1, y2, y3] ≠ rev4 (crc x4) then none else some []) := hid (by have := HF3.out; rwa [List.append_nil] at this)
        have HN4 : Hid (num [y0, y1, y2, y3] ≠ rev4 (crc x4) ↔ ¬ (y0 = UInt8.ofNat (crc x4) ∧ y1 = UInt8.ofNat (crc x4 / 256) ∧ y2 = UInt8.ofNat (crc x4 / 65536) ∧ y3 = UInt8.ofNat (crc x4 / 16777216))) := hid (by have := HN.out; rwa [List.append_nil] at this)
        clear HF3 HN
        have hS1' : Src Tryd.prog 1 26 (.slice (some ⟨b, off, none⟩) 0 0) ([] : List Value).length [] (w.alloc (.cells #[] 5)) := hS1
        go_wp2_with (at_builtin; go_loud (refine wpList_app _ rfl (.tmp 33) (.tmp 37) _ _ rfl elem_u8 w.heap.size _ _ rfl hO1 _ rfl [] hS1' (by simp only [List.length_map, List.length_nil]; unfold maxLen; omega) (by simp only [List.length_map, List.length_nil]; omega) (by simp) ?_))
        intro v1 w1 ho1 hs1
        replace ho1 : OwnB w1 w.heap.size v1 [] := ho1
        have hb1 : Below w.heap.size w w1 := hba.trans (hs1.below (by simp) (fun k h => (hO1.lt k h).1))
        obtain ⟨ao1, cap1, hv1, hle1, hmx1, hB1, _, _⟩ := Own.bs ho1
        subst hv1
        have hba2 : Below w1.heap.size w1 (w1.alloc (.cells #[] 5)) := (Below.refl _ _).alloc (Nat.le_refl _) _
        have hO2 : OwnB (w1.alloc (.cells #[] 5)) w1.heap.size (.slice (some ⟨w1.heap.size, 0, none⟩) 0 0) [] := World.ownsRow_lit w1 #[] 0 (Nat.le_refl _) (Nat.zero_le _) rfl
        have hS2 := src_bs (P := Tryd.prog) _ Tryd.underlying26 (hB4.keep (below_keep (hb1.trans (hba2.mono hb1.size)))) 8
        have hlt1 := ho1.lt
        rw [l4] at hS2
        clear hO1 hS1 hS1' hs1 hba hBS
        go_wp2_with (at_builtin; go_loud (refine wpList_app _ rfl (.tmp 39) (.tmp 41) _ _ rfl elem_u8 w1.heap.size _ _ rfl hO2 _ rfl (x4.map bv) hS2 (by simp only [List.length_map, List.length_nil, l4]; unfold maxLen; omega) (by simp only [List.length_map, List.length_nil, l4]; omega) (by simp) ?_))
        intro v2 w2 ho2 hs2
        replace ho2 : OwnB w2 w1.heap.size v2 x4 := ho2
        have hb2' : Below w1.heap.size w1 w2 := hba2.trans (hs2.below (by simp) (fun k h => (hO2.lt k h).1))
        have ho1' : OwnB w2 w.heap.size (.slice ao1 0 cap1) [] := Own.below ho1 hb2'
        have hB1' := hB1.keep (below_keep hb2')
        have hb2 := hb1.trans (hb2'.mono hb1.size)
        have hS3 := src_bs (P := Tryd.prog) w2 Tryd.underlying26 hB1' cap1
        clear hO2 hS2 hs2 hba2 ho1 hB1
        go_wp2_with (at_builtin; go_loud (refine wpList_app _ rfl (.tmp 42) (.tmp 43) _ _ rfl elem_u8 w1.heap.size _ _ rfl ho2 _ rfl ([].map bv) hS3 (by simp only [List.length_map, l4, List.length_nil]; unfold maxLen; omega) (by simp only [List.length_map, l4, List.length_nil]; omega) hb2'.size ?_))
        intro v3 w3 ho3 hs3
        replace ho3 : OwnB w3 w1.heap.size v3 x4 := by simpa [OwnB] using ho3
        have hb3' : Below w1.heap.size w2 w3 := hs3.below hb2'.size (fun k h => (ho2.lt k h).1)
        have hb3 := hb2.trans (hb3'.mono hb1.size)
        have ho1z : OwnB w3 w.heap.size (.slice ao1 0 cap1) [] := Own.chg ho1' (Chg.of_grown hs3.1) (fun g hg e => by have := (ho2.lt g e).1; have := (hlt1 g hg).2; omega)
        obtain ⟨ao3, cap3, hv3, hle3, hmx3, hB3, _, _⟩ := Own.bs ho3
        have hl3 : x4.length = 4 := by exact l4
        rw [hl3] at hv3
        subst hv3
        have k4 := below_keep hb3 _ _ c4
        have k5 := below_keep hb3 _ _ c5
        have k6 := below_keep hb3 _ _ c6
        have k7 := below_keep hb3 _ _ c7
        clear hs3 ho3 hS3 ho1' hB1' ho2 hb2 hb2' hb3' hlt1
        go_wp2_with fail
        refine (refSum_any ao3 4 cap3 x4 w3 hl3 (by omega) hB3).mono ?_
        rintro e w4 ⟨rfl, hw⟩
        replace hw := hw.symm
        subst hw
        have hC := crc_lt x4
        generalize crc x4 = C at *
        have q0 := low_byte C
        have q1 := low_byte (C / 256)
        have q2 := low_byte (C / 65536)
        have q3 := low_byte (C / 16777216)
        rw [show ((C / 256 : Nat) : Int) = (C : Int) / 256 by omega] at q1
        rw [show ((C / 65536 : Nat) : Int) = (C : Int) / 65536 by omega] at q2
        rw [show ((C / 16777216 : Nat) : Int) % 256 = (C : Int) / 16777216 by omega] at q3
        generalize UInt8.ofNat C = x0 at *
        generalize UInt8.ofNat (C / 256) = x1 at *
        generalize UInt8.ofNat (C / 65536) = x2 at *
        generalize UInt8.ofNat (C / 16777216) = x3 at *
        clear hB3 c4 c5 c6 c7 hB4
        have hno : ¬ (y0 = x0 ∧ y1 = x1 ∧ y2 = x2 ∧ y3 = x3) → firstOf bs = none := fun h => by have := HF4.out; rwa [if_pos (HN4.out.2 h)] at this
        have hyes : (y0 = x0 ∧ y1 = x1 ∧ y2 = x2 ∧ y3 = x3) → firstOf bs = some [] := fun h => by have := HF4.out; rwa [if_neg (fun h' => HN4.out.1 h' h)] at this
        clear HF4 HN4
        by_cases e0 : y0 = x0
        case neg =>
          have HE : Hid (firstOf bs = none) := hid (hno (fun h => e0 h.1))
          have n0 : ((y0.toNat : Int) != (x0.toNat : Int)) = true := by rw [bne_iff_ne]; intro h; exact e0 (UInt8.toNat_inj.1 (by omega))
          clear hno hyes
          go_wp2
          go_ret3
          exact .inl ⟨HE.out, rfl, hb3⟩
        have n0 : ((y0.toNat : Int) != (x0.toNat : Int)) = false := by rw [e0]; simp
        by_cases e1 : y1 = x1
        case neg =>
          have HE : Hid (firstOf bs = none) := hid (hno (fun h => e1 h.2.1))
          have n1 : ((y1.toNat : Int) != (x1.toNat : Int)) = true := by rw [bne_iff_ne]; intro h; exact e1 (UInt8.toNat_inj.1 (by omega))
          clear hno hyes
          go_wp2
          go_ret3
          exact .inl ⟨HE.out, rfl, hb3⟩
        have n1 : ((y1.toNat : Int) != (x1.toNat : Int)) = false := by rw [e1]; simp
        by_cases e2 : y2 = x2
        case neg =>
          have HE : Hid (firstOf bs = none) := hid (hno (fun h => e2 h.2.2.1))
          have n2 : ((y2.toNat : Int) != (x2.toNat : Int)) = true := by rw [bne_iff_ne]; intro h; exact e2 (UInt8.toNat_inj.1 (by omega))
          clear hno hyes
          go_wp2
          go_ret3
          exact .inl ⟨HE.out, rfl, hb3⟩
        have n2 : ((y2.toNat : Int) != (x2.toNat : Int)) = false := by rw [e2]; simp
        by_cases e3 : y3 = x3
        case neg =>
          have HE : Hid (firstOf bs = none) := hid (hno (fun h => e3 h.2.2.2))
          have n3 : ((y3.toNat : Int) != (x3.toNat : Int)) = true := by rw [bne_iff_ne]; intro h; exact e3 (UInt8.toNat_inj.1 (by omega))
          clear hno hyes
          go_wp2
          go_ret3
          exact .inl ⟨HE.out, rfl, hb3⟩
        have n3 : ((y3.toNat : Int) != (x3.toNat : Int)) = false := by rw [e3]; simp
        have HE : Hid (firstOf bs = some []) := hid (hyes ⟨e0, e1, e2, e3⟩)
        clear hno hyes e0 e1 e2 e3
        go_wp2
        go_ret3
        exact .inr ⟨_, _, HE.out, by first | rfl | (congr 3; simp), ho1z, hb3⟩
      · have hS1' : Src Tryd.prog 1 26 (.slice (some ⟨b, off + 8, none⟩) (8 + inn.length - 8) (cap - 8)) (inn.map bv).length (inn.map bv) (w.alloc (.cells #[] 5)) := by rw [Nat.add_sub_cancel_left]; exact hS1
        have HF4 := HF3
        have HN4 := HN
        clear HF3 HN
        go_wp2_with (at_builtin; go_loud (refine wpList_app _ rfl (.tmp 33) (.tmp 37) _ _ rfl elem_u8 w.heap.size _ _ rfl hO1 _ rfl (inn.map bv) hS1' (by simp only [List.length_map, List.length_nil]; unfold maxLen; omega) (by simp only [List.length_map, List.length_nil]; omega) (by simp) ?_))
        intro v1 w1 ho1 hs1
        replace ho1 : OwnB w1 w.heap.size v1 inn := ho1
        have hb1 : Below w.heap.size w w1 := hba.trans (hs1.below (by simp) (fun k h => (hO1.lt k h).1))
        obtain ⟨ao1, cap1, hv1, hle1, hmx1, hB1, _, _⟩ := Own.bs ho1
        subst hv1
        have hba2 : Below w1.heap.size w1 (w1.alloc (.cells #[] 5)) := (Below.refl _ _).alloc (Nat.le_refl _) _
        have hO2 : OwnB (w1.alloc (.cells #[] 5)) w1.heap.size (.slice (some ⟨w1.heap.size, 0, none⟩) 0 0) [] := World.ownsRow_lit w1 #[] 0 (Nat.le_refl _) (Nat.zero_le _) rfl
        have hS2 := src_bs (P := Tryd.prog) _ Tryd.underlying26 (hB4.keep (below_keep (hb1.trans (hba2.mono hb1.size)))) cap
        have hlt1 := ho1.lt
        rw [l4] at hS2
        clear hO1 hS1 hS1' hs1 hba hBS
        go_wp2_with (at_builtin; go_loud (refine wpList_app _ rfl (.tmp 39) (.tmp 41) _ _ rfl elem_u8 w1.heap.size _ _ rfl hO2 _ rfl (x4.map bv) hS2 (by simp only [List.length_map, List.length_nil, l4]; unfold maxLen; omega) (by simp only [List.length_map, List.length_nil, l4]; omega) (by simp) ?_))
        intro v2 w2 ho2 hs2
        replace ho2 : OwnB w2 w1.heap.size v2 x4 := ho2
        have hb2' : Below w1.heap.size w1 w2 := hba2.trans (hs2.below (by simp) (fun k h => (hO2.lt k h).1))
        have ho1' : OwnB w2 w.heap.size (.slice ao1 inn.length cap1) inn := Own.below ho1 hb2'
        have hB1' := hB1.keep (below_keep hb2')
        have hb2 := hb1.trans (hb2'.mono hb1.size)
        have hS3 := src_bs (P := Tryd.prog) w2 Tryd.underlying26 hB1' cap1
        clear hO2 hS2 hs2 hba2 ho1 hB1
        go_wp2_with (at_builtin; go_loud (refine wpList_app _ rfl (.tmp 42) (.tmp 43) _ _ rfl elem_u8 w1.heap.size _ _ rfl ho2 _ rfl (inn.map bv) hS3 (by simp only [List.length_map, l4]; unfold maxLen; omega) (by simp only [List.length_map, l4]; omega) hb2'.size ?_))
        intro v3 w3 ho3 hs3
        replace ho3 : OwnB w3 w1.heap.size v3 (x4 ++ inn) := by unfold OwnB; rw [List.map_append]; exact ho3
        have hb3' : Below w1.heap.size w2 w3 := hs3.below hb2'.size (fun k h => (ho2.lt k h).1)
        have hb3 := hb2.trans (hb3'.mono hb1.size)
        have ho1z : OwnB w3 w.heap.size (.slice ao1 inn.length cap1) inn := Own.chg ho1' (Chg.of_grown hs3.1) (fun g hg e => by have := (ho2.lt g e).1; have := (hlt1 g hg).2; omega)
        obtain ⟨ao3, cap3, hv3, hle3, hmx3, hB3, _, _⟩ := Own.bs ho3
        have hl3 : (x4 ++ inn).length = (4 + inn.length) := by rw [List.length_append, l4]
        rw [hl3] at hv3
        subst hv3
        have k4 := below_keep hb3 _ _ c4
        have k5 := below_keep hb3 _ _ c5
        have k6 := below_keep hb3 _ _ c6
        have k7 := below_keep hb3 _ _ c7
        clear hs3 ho3 hS3 ho1' hB1' ho2 hb2 hb2' hb3' hlt1
        go_wp2_with fail
        refine (refSum_any ao3 (4 + inn.length) cap3 (x4 ++ inn) w3 hl3 (by omega) hB3).mono ?_
        rintro e w4 ⟨rfl, hw⟩
        replace hw := hw.symm
        subst hw
        have hC := crc_lt (x4 ++ inn)
        generalize crc (x4 ++ inn) = C at *
        have q0 := low_byte C
        have q1 := low_byte (C / 256)
        have q2 := low_byte (C / 65536)
        have q3 := low_byte (C / 16777216)
        rw [show ((C / 256 : Nat) : Int) = (C : Int) / 256 by omega] at q1
        rw [show ((C / 65536 : Nat) : Int) = (C : Int) / 65536 by omega] at q2
        rw [show ((C / 16777216 : Nat) : Int) % 256 = (C : Int) / 16777216 by omega] at q3
        generalize UInt8.ofNat C = x0 at *
        generalize UInt8.ofNat (C / 256) = x1 at *
        generalize UInt8.ofNat (C / 65536) = x2 at *
        generalize UInt8.ofNat (C / 16777216) = x3 at *
        clear hB3 c4 c5 c6 c7 hB4
        have hno : ¬ (y0 = x0 ∧ y1 = x1 ∧ y2 = x2 ∧ y3 = x3) → firstOf bs = none := fun h => by have := HF4.out; rwa [if_pos (HN4.out.2 h)] at this
        have hyes : (y0 = x0 ∧ y1 = x1 ∧ y2 = x2 ∧ y3 = x3) → firstOf bs = some inn := fun h => by have := HF4.out; rwa [if_neg (fun h' => HN4.out.1 h' h)] at this
        clear HF4 HN4
        by_cases e0 : y0 = x0
        case neg =>
          have HE : Hid (firstOf bs = none) := hid (hno (fun h => e0 h.1))
          have n0 : ((y0.toNat : Int) != (x0.toNat : Int)) = true := by rw [bne_iff_ne]; intro h; exact e0 (UInt8.toNat_inj.1 (by omega))
          clear hno hyes
          go_wp2
          go_ret3
          exact .inl ⟨HE.out, rfl, hb3⟩
        have n0 : ((y0.toNat : Int) != (x0.toNat : Int)) = false := by rw [e0]; simp
        by_cases e1 : y1 = x1
        case neg =>
          have HE : Hid (firstOf bs = none) := hid (hno (fun h => e1 h.2.1))
          have n1 : ((y1.toNat : Int) != (x1.toNat : Int)) = true := by rw [bne_iff_ne]; intro h; exact e1 (UInt8.toNat_inj.1 (by omega))
          clear hno hyes
          go_wp2
          go_ret3
          exact .inl ⟨HE.out, rfl, hb3⟩
        have n1 : ((y1.toNat : Int) != (x1.toNat : Int)) = false := by rw [e1]; simp
        by_cases e2 : y2 = x2
        case neg =>
          have HE : Hid (firstOf bs = none) := hid (hno (fun h => e2 h.2.2.1))
          have n2 : ((y2.toNat : Int) != (x2.toNat : Int)) = true := by rw [bne_iff_ne]; intro h; exact e2 (UInt8.toNat_inj.1 (by omega))
          clear hno hyes
          go_wp2
          go_ret3
          exact .inl ⟨HE.out, rfl, hb3⟩
        have n2 : ((y2.toNat : Int) != (x2.toNat : Int)) = false := by rw [e2]; simp
        by_cases e3 : y3 = x3
        case neg =>
          have HE : Hid (firstOf bs = none) := hid (hno (fun h => e3 h.2.2.2))
          have n3 : ((y3.toNat : Int) != (x3.toNat : Int)) = true := by rw [bne_iff_ne]; intro h; exact e3 (UInt8.toNat_inj.1 (by omega))
          clear hno hyes
          go_wp2
          go_ret3
          exact .inl ⟨HE.out, rfl, hb3⟩
        have n3 : ((y3.toNat : Int) != (x3.toNat : Int)) = false := by rw [e3]; simp
        have HE : Hid (firstOf bs = some inn) := hid (hyes ⟨e0, e1, e2, e3⟩)
        clear hno hyes e0 e1 e2 e3
        go_wp2
        go_ret3
        exact .inr ⟨_, _, HE.out, by first | rfl | (congr 3; simp), ho1z, hb3⟩

theorem refOne_any (ao : Option Addr) (len cap : Nat) (bs : List UInt8) (w : World) (hl : bs.length = len) (hm : len ≤ 140737488355328) (hcap : len ≤ cap) (hb : Bs w ao bs) :
    Calls Tryd.prog 57 #[.slice ao len cap] w fun e w' => OneEnd w bs e w' := by
  by_cases h8 : len < 8
  · exact refOne_short ao len cap bs w hl h8
  · rcases hb with rfl | ⟨b, off, rfl, hc⟩
    · simp at hl; omega
    · exact refOne_long b off len cap bs w hl hm hcap (by omega) hc
end Go.Proofs.YtjnmgnnaefiegaaDoor
