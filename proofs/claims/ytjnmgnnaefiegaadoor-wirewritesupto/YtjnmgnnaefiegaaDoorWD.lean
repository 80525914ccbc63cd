/- What wire's Frames comes to. -/
import Derived.Test.YtjnmgnnaefiegaaDoorWC
import Derived.BigQuiet
import Derived.Deep.QuietTactic
import Derived.WalkSmall
namespace Go.Proofs.YtjnmgnnaefiegaaDoor
open Go.RowKit

/-- What is in the frame that bytes begin with. -/
def firstOf (bs : List UInt8) : Option (List UInt8) :=
  if bs.length < 8 then none
  else if 1048576 < num (bs.take 4) then none
  else if bs.length - 8 < num (bs.take 4) then none
  else if num ((bs.drop 4).take 4) ≠ rev4 (crc (bs.take 4 ++ (bs.drop 8).take (num (bs.take 4)))) then none
  else some ((bs.drop 8).take (num (bs.take 4)))

theorem Bs.cut {w : World} {b off : Nat} {bs : List UInt8} (hc : ∀ j (h : j < bs.length), w.cell? ⟨b, off + j, none⟩ = some (.int .u8 (bs[j].toNat : Int))) (k n : Nat) : Bs w (some ⟨b, off + k, none⟩) ((bs.drop k).take n) := by
  refine .inr ⟨b, off + k, rfl, fun j hj => ?_⟩
  simp only [List.length_take, List.length_drop] at hj
  have := hc (k + j) (by omega)
  rw [← Nat.add_assoc] at this
  rw [this]
  simp

/-- What a call of firstFrame leaves. -/
def FirstEnd (w : World) (bs : List UInt8) (e : Ending) (w' : World) : Prop :=
  ∃ ao' c', e = .returned (.tuple #[.slice ao' ((firstOf bs).getD []).length c', .bool (firstOf bs).isSome]) ∧ ((firstOf bs).getD []).length ≤ c' ∧ Bs w ao' ((firstOf bs).getD []) ∧ Below w.heap.size w w'
theorem FirstEnd.no {w w' : World} {bs : List UInt8} (h : firstOf bs = none) (hb : Below w.heap.size w w') : FirstEnd w bs (.returned (.tuple #[.slice none 0 0, .bool false])) w' :=
  ⟨none, 0, by rw [h]; rfl, by rw [h]; exact Nat.le_refl _, by rw [h]; exact .inl rfl, hb⟩

theorem FirstEnd.yes {w w' : World} {bs inn : List UInt8} {ao : Option Addr} {n c : Nat} (h : firstOf bs = some inn) (hn : inn.length = n) (hc : n ≤ c) (hB : Bs w ao inn) (hb : Below w.heap.size w w') : FirstEnd w bs (.returned (.tuple #[.slice ao n c, .bool true])) w' := by
  subst hn
  exact ⟨ao, c, by rw [h]; rfl, by rw [h]; exact hc, by rw [h]; exact hB, hb⟩

theorem FirstEnd.elim_no {w w' : World} {bs : List UInt8} {e : Ending} (H : FirstEnd w bs e w') (h : firstOf bs = none) : ∃ ao c, e = .returned (.tuple #[.slice ao 0 c, .bool false]) ∧ Below w.heap.size w w' := by
  obtain ⟨ao, c, he, _, _, hb⟩ := H
  rw [h] at he
  exact ⟨ao, c, he, hb⟩
theorem FirstEnd.elim_yes {w w' : World} {bs inn : List UInt8} {e : Ending} (H : FirstEnd w bs e w') (h : firstOf bs = some inn) : ∃ ao c, e = .returned (.tuple #[.slice ao inn.length c, .bool true]) ∧ inn.length ≤ c ∧ Bs w ao inn ∧ Below w.heap.size w w' := by
  obtain ⟨ao, c, he, hc, hB, hb⟩ := H
  rw [h] at he hc hB
  exact ⟨ao, c, he, hc, hB, hb⟩

theorem firstFrame_short (ao : Option Addr) (len cap : Nat) (bs : List UInt8) (w : World) (hl : bs.length = len) (h8 : len < 8) :
    Calls Tryd.prog 56 #[.slice ao len cap] w fun e w' => FirstEnd w bs e w' := by
  have hF : firstOf bs = none := by simp [firstOf]; omega
  have HF : Hid (firstOf bs = none) := hF
  clear hF
  go_enter Tryd.func56, Tryd.ntmps56
  go_wp2
  go_ret2
  exact FirstEnd.no HF.out (Below.refl _ _)

set_option maxHeartbeats 1000000 in
theorem firstFrame_long (b off len cap : Nat) (bs : List UInt8) (w : World) (hl : bs.length = len) (hm : len ≤ 140737488355328) (hcap : len ≤ cap) (h8 : 8 ≤ len) (hc : ∀ j (h : j < bs.length), w.cell? ⟨b, off + j, none⟩ = some (.int .u8 (bs[j].toNat : Int))) (ht : Tab w) :
    Calls Tryd.prog 56 #[.slice (some ⟨b, off, none⟩) len cap] w fun e w' => FirstEnd w bs e w' := by
  have hB4 : Bs w (some ⟨b, off, none⟩) (bs.take 4) := by simpa using Bs.cut hc 0 4
  have hB48 : Bs w (some ⟨b, off + 4, none⟩) ((bs.drop 4).take 4) := Bs.cut hc 4 4
  have hB8 := Bs.cut hc 8 (num (bs.take 4))
  have l4 : (bs.take 4).length = 4 := by simp; omega
  have l48 : ((bs.drop 4).take 4).length = 4 := by simp; omega
  have hF0 : firstOf bs = if 1048576 < num (bs.take 4) then none else if len - 8 < num (bs.take 4) then none
    else if num ((bs.drop 4).take 4) ≠ rev4 (crc (bs.take 4 ++ (bs.drop 8).take (num (bs.take 4)))) then none else some ((bs.drop 8).take (num (bs.take 4))) := by
    rw [firstOf, if_neg (by omega), hl]
  have hin : len - 8 < num (bs.take 4) ∨ ((bs.drop 8).take (num (bs.take 4))).length = num (bs.take 4) := by
    by_cases h : len - 8 < num (bs.take 4)
    · exact .inl h
    · right; simp only [List.length_take, List.length_drop]; omega
  have hn64 := num_lt (bs.take 4)
  generalize hx4 : bs.take 4 = x4 at *
  generalize hx48 : (bs.drop 4).take 4 = x48 at *
  generalize hnn : num x4 = n at *
  generalize hinn : (bs.drop 8).take n = inn at *
  have Hn : Hid (num x4 = n) := hnn
  have HF : Hid (firstOf bs = if 1048576 < n then none else if len - 8 < n then none else if num x48 ≠ rev4 (crc (x4 ++ inn)) then none else some inn) := hF0
  clear hnn hF0 hx4 hx48 hinn hc
  go_enter Tryd.func56, Tryd.ntmps56
  go_wp2
  go_quiet (fail)
  have hB9 : ¬ len - 8 < n → Bs w (if cap = 8 then some ⟨b, off, none⟩ else some ⟨b, off + 8, none⟩) inn := by
    intro h
    split
    · exact .inl (List.eq_nil_of_length_eq_zero (by omega))
    · exact hB8
  generalize (if cap = 8 then some (⟨b, off, none⟩ : Addr) else some ⟨b, off + 8, none⟩) = ao5 at *
  clear hB8
  go_wp2_with fail
  refine (number_any _ 4 _ x4 _ l4 (by decide) (hB4.keep (fun a v h => by simpa using h))).mono ?_
  rintro e w1 ⟨rfl, rfl⟩
  rw [Hn.out]
  by_cases h1 : 1048576 < n
  · have hF := HF.out
    rw [if_pos h1] at hF
    have HF' : Hid (firstOf bs = none) := hF
    clear hF
    go_wp2
    go_ret2
    exact FirstEnd.no HF'.out (below_drewN (Below.refl _ _) _)
  by_cases h2 : len - 8 < n
  · have hF := HF.out
    rw [if_neg h1, if_pos h2] at hF
    have HF' : Hid (firstOf bs = none) := hF
    clear hF
    go_wp2
    go_ret2
    exact FirstEnd.no HF'.out (below_drewN (Below.refl _ _) _)
  have hB9' := hB9 h2
  have hinl : inn.length = n := by omega
  clear hB9 hin
  go_wp2_with fail
  refine (number_any _ 4 _ x48 _ l48 (by decide) (hB48.keep (fun a v h => by simpa using h))).mono ?_
  rintro e w1 ⟨rfl, rfl⟩
  go_wp2_with fail
  refine (sum_two _ _ 4 n _ _ x4 inn _ _ l4 hinl (by decide) (by omega) (hB4.keep (fun a v h => by simpa using h)) (hB9'.keep (fun a v h => by simpa using h)) (ht.keep (fun a v h => by simpa using h))).mono ?_
  rintro e w2 ⟨rfl, rfl⟩
  go_wp2_with fail
  refine (lowestFirst_any _ _ (crc_lt _)).mono ?_
  rintro e w2 ⟨rfl, rfl⟩
  by_cases h3 : num x48 ≠ rev4 (crc (x4 ++ inn))
  · have hF := HF.out
    rw [if_neg h1, if_neg h2, if_pos h3] at hF
    have HF' : Hid (firstOf bs = none) := hF
    clear hF
    have hne : (((num x48 : Nat) : Int) != ((rev4 (crc (x4 ++ inn)) : Nat) : Int)) = true := by rw [bne_iff_ne]; omega
    go_wp2
    go_ret2
    exact FirstEnd.no HF'.out (below_drewN ((Below.refl _ _).alloc (Nat.le_refl _) _) _)
  · have hF := HF.out
    rw [if_neg h1, if_neg h2, if_neg h3] at hF
    have HF' : Hid (firstOf bs = some inn) := hF
    clear hF
    have hne : (((num x48 : Nat) : Int) != ((rev4 (crc (x4 ++ inn)) : Nat) : Int)) = false := by rw [bne_eq_false_iff_eq]; omega
    go_wp2
    go_ret2
    exact FirstEnd.yes HF'.out hinl (by omega) hB9' (below_drewN ((Below.refl _ _).alloc (Nat.le_refl _) _) _)

theorem firstFrame_any (ao : Option Addr) (len cap : Nat) (bs : List UInt8) (w : World) (hl : bs.length = len) (hm : len ≤ 140737488355328) (hcap : len ≤ cap) (hb : Bs w ao bs) (ht : Tab w) :
    Calls Tryd.prog 56 #[.slice ao len cap] w fun e w' => FirstEnd w bs e w' := by
  by_cases h8 : len < 8
  · exact firstFrame_short ao len cap bs w hl h8
  · rcases hb with rfl | ⟨b, off, rfl, hc⟩
    · simp at hl; omega
    · exact firstFrame_long b off len cap bs w hl hm hcap (by omega) hc ht

end Go.Proofs.YtjnmgnnaefiegaaDoor
