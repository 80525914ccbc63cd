/- The document's Read. -/
import Derived.Test.YtbjipcpoiiegkaaGreatDoorVZ
import Derived.Test.YtbjipcpoiiegkaaGreatDoorOU
namespace Go.Proofs.YtbjipcpoiiegkaaGreatDoor
open Go.RowKit Go.Shelf
theorem find_ok (s : List UInt8) : ∀ (m k : Nat), 54 - k ≤ m → (findFrom s k).2 = true → nameT (findFrom s k).1 = s
  | 0, k, hm, h => by
    rw [findFrom, if_neg (by omega)] at h
    cases h
  | m + 1, k, hm, h => by
    by_cases hk : k ≤ 53
    · by_cases hn : nameT k = s
      · rw [find_yes hk hn]; exact hn
      · rw [find_on hk hn] at h ⊢
        exact find_ok s m (k + 1) (by omega) h
    · rw [find_no hk] at h
      cases h
theorem find_named {s : List UInt8} {n : Int} (h : findFrom s 1 = (n, true)) : nameT n = s := by
  have := find_ok s 54 1 (by omega) (by rw [h])
  rwa [h] at this
theorem find_ne {s : List UInt8} {n : Int} (h : findFrom s 1 = (n, true)) : nameT n ≠ [] := by
  intro e
  have h1 := find_named h
  rw [e] at h1
  subst h1
  have : (findFrom [] 1).2 = false := by decide +kernel
  rw [h] at this
  cases this
theorem oneV_num {s : List UInt8} {d : Int} (hi : Lib.indexByte s 32 = -1) (h : IsNum s d) : oneV s 1 = some ⟨1, d, []⟩ := by
  obtain ⟨rfl, h0, h1⟩ := h
  have hr : readOf (Lib.itoa d) = some ⟨1, d, []⟩ := read_word ⟨1, d, []⟩ (by simp [Val.right]) h0 h1
  unfold oneV
  rw [if_pos hi, hr]
  simp [fitsB, Val.right]
theorem oneV_no {s : List UInt8} (hs : s.length ≤ 1048576) (h : ∀ v, ¬ IsNum s v) : oneV s 1 = none := by
  unfold oneV
  split
  · cases hr : readOf s with
    | none => rfl
    | some v =>
      simp only [Option.bind_some]
      split
      · rename_i hf
        exfalso
        obtain ⟨_, g1, g2⟩ := readOf_good hs hr
        simp [fitsB] at hf
        refine h v.n ⟨?_, g1, g2⟩
        unfold readOf at hr
        cases hg : guessOf s with
        | none => rw [hg] at hr; cases hr
        | some x =>
          rw [hg] at hr
          simp only [Option.bind_some] at hr
          split at hr
          · rename_i hp
            cases hr
            rw [← hp]
            simp [printOf, hf.2, printList, Lib.join, wordOf, hf.1]
          · cases hr
      · rfl
  · rfl
theorem insS_def (s : List UInt8) : insS s = if (findFrom (cutAt s 32).1 1).2 = false then none else if (cutAt s 32).2.2 ≠ (takesN (findFrom (cutAt s 32).1 1).1 != 0) then none else if (cutAt s 32).2.2 = false then some ((findFrom (cutAt s 32).1 1).1, 0) else (oneV (cutAt s 32).2.1 1).map fun v => ((findFrom (cutAt s 32).1 1).1, v.n) := rfl
/-- One word. -/
theorem ins_one {s : List UInt8} (hi : Lib.indexByte s 32 = -1) {n : Int} {ok : Bool} (hf : findFrom s 1 = (n, ok)) : insS s = if ok = true ∧ lineS (n, 0) = s then some (n, 0) else none := by
  have hc : cutAt s 32 = (s, [], false) := if_pos hi
  rw [insS_def, hc]
  simp only [hf]
  cases ok with
  | false => simp
  | true =>
    have hn := find_named hf
    have he := find_ne hf
    unfold lineS
    rw [takes_same]
    simp only [if_neg he]
    by_cases ht : takesN n = 0
    · simp [ht, hn]
    · rw [if_pos ht, hn]
      have : s ++ 32 :: Lib.itoa 0 ≠ s := fun e => by
        have := congrArg List.length e
        simp at this
      simp [ht, this]
/-- Two words. -/
theorem ins_two {s : List UInt8} {o : Nat} (hi : Lib.indexByte s 32 = o) (hs : s.length ≤ 1048576) (h2 : Lib.indexByte (s.drop (o + 1)) 32 = -1) {n : Int} {ok : Bool} (hf : findFrom (s.take o) 1 = (n, ok)) {d : Int} {ok2 : Bool} (hd : (ok2 = true ∧ IsNum (s.drop (o + 1)) d) ∨ (ok2 = false ∧ ∀ v, ¬ IsNum (s.drop (o + 1)) v)) :
    insS s = if ok = true ∧ ok2 = true ∧ lineS (n, d) = s then some (n, d) else none := by
  have hc : cutAt s 32 = (s.take o, s.drop (o + 1), true) := by unfold cutAt; rw [if_neg (by omega), hi]; rfl
  have ho := idx_lt hi
  have hse : s = s.take o ++ 32 :: s.drop (o + 1) := by
    have h32 : s[o]? = some 32 := (Lib.indexByte_some hi).1
    have : s.drop o = 32 :: s.drop (o + 1) := by
      rw [List.drop_eq_getElem_cons ho]
      rw [List.getElem?_eq_getElem ho] at h32
      rw [Option.some.inj h32]
    rw [← this, List.take_append_drop]
  rw [insS_def, hc]
  simp only [hf]
  cases ok with
  | false => simp
  | true =>
    have hn := find_named hf
    have he := find_ne hf
    rcases hd with ⟨rfl, hd⟩ | ⟨rfl, hd⟩
    · rw [oneV_num h2 hd]
      unfold lineS
      rw [takes_same]
      simp only [if_neg he]
      by_cases ht : takesN n = 0
      · have h1 : ¬ (if d ≠ 0 then [] else nameT n) = s := fun e => by
          split at e
          · rw [← e] at ho; simp at ho
          · rw [hn] at e
            have := congrArg List.length e
            simp at this
            omega
        simp only [ht]
        simp
        intro h; exact absurd h (by simpa using h1)
      · rw [if_pos ht, hn, hd.1]
        simp [ht, ← hse]
    · rw [oneV_no (by simp; omega) hd]
      simp
/-- More words. -/
theorem ins_more {s : List UInt8} {o o2 : Nat} (hi : Lib.indexByte s 32 = o) (h2 : Lib.indexByte (s.drop (o + 1)) 32 = o2) : insS s = none := by
  have hc : cutAt s 32 = (s.take o, s.drop (o + 1), true) := by unfold cutAt; rw [if_neg (by omega), hi]; rfl
  have h1 : oneV (s.drop (o + 1)) 1 = none := if_neg (by omega)
  rw [insS_def, hc]
  simp [h1]
end Go.Proofs.YtbjipcpoiiegkaaGreatDoor
