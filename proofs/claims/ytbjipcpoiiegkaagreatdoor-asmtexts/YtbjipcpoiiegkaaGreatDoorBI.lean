/- Plain: a line is read the same by both. -/
import Derived.Test.YtbjipcpoiiegkaaGreatDoorBH
import Derived.Test.YtbjipcpoiiegkaaGreatDoorBR
namespace Go.Proofs.YtbjipcpoiiegkaaGreatDoor
open Go.RowKit Go.Shelf
theorem find_func : (findFrom wFunc 1).2 = false := by decide +kernel
theorem ins_func {l : List UInt8} (h : (cutAt l 32).1 = wFunc) : insS l = none := by
  rw [insS_def, h, if_pos find_func]
theorem instrS_func {S : Scr} {l : List UInt8} (h : (cutAt l 32).1 = wFunc) : instrS S l = none := by
  unfold instrS
  rw [ins_func h]
  simp
theorem pieces_head_cut (l : List UInt8) : ∃ r, pieces l = (cutAt l 32).1 :: r := by
  unfold cutAt
  rcases idx_cases l with hi | ⟨o, hi⟩
  · rw [if_pos hi, pieces_none hi]
    exact ⟨[], rfl⟩
  · rw [if_neg (by omega), hi, pieces_some hi]
    exact ⟨_, rfl⟩
theorem head_other {l : List UInt8} (h : (cutAt l 32).1 ≠ wFunc) : headOf (pieces l) = none := by
  obtain ⟨r, e⟩ := pieces_head_cut l
  rw [e]
  exact headOf_no h
theorem read_no32 {s : List UInt8} {v : Val} (h : readOf s = some v) : No 32 s ∧ v.right = true := by
  unfold readOf at h
  cases hg : guessOf s with
  | none => rw [hg] at h; cases h
  | some x =>
    rw [hg] at h
    simp only [Option.bind_some] at h
    split at h
    · rename_i hp
      cases h
      cases hR : v.right with
      | true =>
        rw [print_one _ hR] at hp
        rw [← hp]
        exact ⟨word_no v, rfl⟩
      | false =>
        have : printOf [v] = [] := by simp [printOf, hR]
        rw [this] at hp
        subst hp
        have h2 : readOf [] = some v := by unfold readOf; rw [hg]; simp [this]
        rw [read_nil] at h2
        cases h2
    · cases h
theorem oneV_two {s : List UInt8} : oneV s 2 = if (readOf s).map Val.t = some 2 then readOf s else none := by
  unfold oneV
  cases hr : readOf s with
  | none => simp
  | some v =>
    obtain ⟨h32, hR⟩ := read_no32 hr
    rw [if_pos (idx_no 32 s h32)]
    simp only [Option.bind_some, Option.map_some, Option.some.injEq]
    by_cases ht : v.t = 2
    · rw [if_pos (fits_two.2 ⟨ht, hR⟩), if_pos ht]
    · rw [if_neg (fun q => ht (fits_two.1 q).1), if_neg ht]
theorem const_cut {l : List UInt8} : (l.take 6 = constB ↔ (cutAt l 32).1 = wConst ∧ (cutAt l 32).2.2 = true) ∧ (l.take 6 = constB → (cutAt l 32).2.1 = l.drop 6) := by
  have key : l.take 6 = constB → cutAt l 32 = (wConst, l.drop 6, true) := fun h => by
    have e : l = wConst ++ 32 :: l.drop 6 := by
      conv => lhs; rw [← List.take_append_drop 6 l, h]
      rfl
    conv => lhs; rw [e]
    exact cut_app (by intro x hx; revert x; decide)
  refine ⟨⟨fun h => by rw [key h]; exact ⟨rfl, rfl⟩, fun ⟨h1, h2⟩ => ?_⟩, fun h => by rw [key h]⟩
  have := (cut_split h2).1
  rw [h1] at this
  rw [this]
  rfl
/-- The document's reading of a line is the program's. -/
theorem addS_same (S : Scr) (l : List UInt8) : addS S l = rlStep S l := by
  unfold addS rlStep
  by_cases hf : (cutAt l 32).1 = wFunc
  · have hc : l.take 6 ≠ constB := fun q => by
      have := (const_cut.1.1 q).1
      rw [hf] at this
      exact absurd this (by decide)
    rw [if_neg hc, if_pos hf]
    cases ho : headOf (pieces l) with
    | none =>
      rw [if_neg (by simp), instrS_func hf]
      rfl
    | some f => rfl
  · rw [if_neg hf]
    by_cases hc : l.take 6 = constB
    · rw [if_pos hc]
      obtain ⟨hw, _⟩ := const_cut.1.1 hc
      have hr := const_cut.2 hc
      rw [hw, hr, if_pos rfl, oneV_two]
      by_cases hS : S.funcs = []
      · have hS' : ¬ S.funcs ≠ [] := by simpa using hS
        by_cases ht : (readOf (l.drop 6)).map Val.t = some 2
        · rw [if_pos ⟨ht, hS⟩, if_neg hS', if_pos ht]
        · rw [if_neg (fun q => ht q.1), if_neg hS', if_neg ht]
          unfold instrS
          rw [if_pos hS]
          rfl
      · rw [if_neg (fun q => hS q.2), if_pos hS]
        unfold instrS
        rw [if_neg hS]
    · rw [if_neg hc, head_other hf, if_neg (by simp)]
      unfold instrS
      by_cases hS : S.funcs = []
      · rw [if_pos hS, if_neg (by simpa using hS)]
        by_cases hw : (cutAt l 32).1 = wConst
        · rw [if_pos hw]
          have hm : (cutAt l 32).2.2 = false := by
            cases hm : (cutAt l 32).2.2 with
            | false => rfl
            | true => exact absurd (const_cut.1.2 ⟨hw, hm⟩) hc
          have : (cutAt l 32).2.1 = [] := by
            unfold cutAt at hm ⊢
            split
            · rfl
            · rename_i q
              rw [if_neg q] at hm
              cases hm
          rw [this, oneV_nil]
          rfl
        · rw [if_neg hw]
      · rw [if_neg hS, if_pos hS]
theorem ins_num {s : List UInt8} {x : Int × Int} (hs : s.length ≤ 1048576) (h : insS s = some x) : -9223372036854775808 ≤ x.2 ∧ x.2 ≤ 9223372036854775807 := by
  rw [insS_def] at h
  split at h
  · cases h
  split at h
  · cases h
  split at h
  · cases h
    exact ⟨by simp, by simp⟩
  · cases ho : oneV (cutAt s 32).2.1 1 with
    | none => rw [ho] at h; cases h
    | some v =>
      rw [ho] at h
      cases h
      unfold oneV at ho
      split at ho
      · cases hr : readOf (cutAt s 32).2.1 with
        | none => rw [hr] at ho; cases ho
        | some u =>
          rw [hr] at ho
          simp only [Option.bind_some] at ho
          split at ho
          · cases ho
            exact (readOf_good (by have := (cutAt_len s 32).2; omega) hr).2
          · cases ho
      · cases ho
def NumsOk (S : Scr) : Prop := ∀ f ∈ S.funcs, ∀ x ∈ f.code, -9223372036854775808 ≤ x.2 ∧ x.2 ≤ 9223372036854775807
theorem nums_step {S T : Scr} {l : List UInt8} (hl : l.length ≤ 1048576) (hS : NumsOk S) (h : rlStep S l = some T) : NumsOk T := by
  unfold rlStep at h
  split at h
  · cases ho : headOf (pieces l) with
    | none => rw [ho] at h; cases h
    | some f =>
      rw [ho] at h
      cases h
      have hc := (headOf_small ho).2.2.2
      intro g hg x hx
      rcases List.mem_append.1 hg with hg | hg
      · exact hS g hg x hx
      · obtain rfl : g = f := by simpa using hg
        rw [hc] at hx
        cases hx
  · split at h
    · rename_i hne
      cases ho : insS l with
      | none => rw [ho] at h; cases h
      | some y =>
        rw [ho] at h
        cases h
        obtain ⟨L, g, hL⟩ := (List.eq_nil_or_concat S.funcs).resolve_left hne
        rw [List.concat_eq_append] at hL
        have ea : addLast S.funcs y = L ++ [g.add y] := by rw [hL]; simp [addLast]
        intro f hf x hx
        simp only [ea] at hf
        rcases List.mem_append.1 hf with hf | hf
        · exact hS f (by rw [hL]; exact List.mem_append_left _ hf) x hx
        · obtain rfl : f = g.add y := by simpa using hf
          rcases List.mem_append.1 hx with hx | hx
          · exact hS g (by rw [hL]; simp) x hx
          · obtain rfl : x = y := by simpa using hx
            exact ins_num hl ho
    · split at h
      · cases ho : oneV (cutAt l 32).2.1 2 with
        | none => rw [ho] at h; cases h
        | some v =>
          rw [ho] at h
          cases h
          exact hS
      · cases h
theorem nums_run : ∀ (n k : Nat) (S : Scr) (t : List UInt8), t.length ≤ 1048576 → NumsOk S → NumsOk (rlRun n k S t).1
  | 0, k, S, t, _, h => h
  | n + 1, k, S, t, hl, h => by
    have h0 : NumsOk noScr := fun f hf => by cases hf
    rw [rlRun]
    split
    · exact h
    · split
      · exact h0
      · rename_i he
        have he' : (cutAt t 10).2.2 = true := by simpa using he
        have hle := cutAt_ended he'
        cases hs : rlStep S (cutAt t 10).1 with
        | none => exact h0
        | some S' => exact nums_run n (k + 1) S' _ (by omega) (nums_step (by omega) h hs)
end Go.Proofs.YtbjipcpoiiegkaaGreatDoor
