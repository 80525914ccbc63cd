/- The document's Parse. The document's words: a text cut at its blanks. The document's Read. -/
import Derived.Test.YtbjipcpoiiegkaaGreatDoorVZ
import Derived.Test.YtbjipcpoiiegkaaGreatDoorVX
import Derived.Test.YtbjipcpoiiegkaaGreatDoorAH
import Derived.Test.YtbjipcpoiiegkaaGreatDoorOU
namespace Go.Proofs.YtbjipcpoiiegkaaGreatDoor
open Go.RowKit Go.Shelf
attribute [local go_sem high] eq_val eq_val0
/-- How far Parse is: some pieces are done, and a piece is begun, or all are done. -/
def PSt (s : List UInt8) (done : List (List UInt8)) (f i : Nat) : Prop :=
  (i ≤ s.length ∧ ∃ p, pieces s = done ++ pieces (p ++ s.drop i) ∧ s.drop f = p ++ s.drop i ∧ p.length + f = i ∧ ∀ c ∈ p, c ≠ 32) ∨ (i = s.length + 1 ∧ pieces s = done)
theorem PSt.start (s : List UInt8) : PSt s [] 0 0 := .inl ⟨Nat.zero_le _, [], by simp, by simp, rfl, by simp⟩
theorem PSt.next {s : List UInt8} {done : List (List UInt8)} {f i : Nat} (h : PSt s done f i) (hi : i < s.length) (hc : s[i] ≠ 32) : PSt s done f (i + 1) := by
  rcases h with ⟨_, p, h1, h2, h3, h4⟩ | ⟨h, _⟩
  · have e : s.drop i = s[i] :: s.drop (i + 1) := List.drop_eq_getElem_cons hi
    refine .inl ⟨hi, p ++ [s[i]], ?_, ?_, by simp; omega, ?_⟩
    · rw [h1, e]; simp
    · rw [h2, e]; simp
    · intro c hcm
      rcases List.mem_append.1 hcm with h | h
      · exact h4 c h
      · simp at h; rw [h]; exact hc
  · omega
/-- The piece that ends here. -/
theorem PSt.cut {s : List UInt8} {done : List (List UInt8)} {f i : Nat} (h : PSt s done f i) (hi : i ≤ s.length) (hc : ∀ (h : i < s.length), s[i] = 32) : ∃ p : List UInt8, (⟨s.toArray⟩ : ByteArray).extract f i = ⟨p.toArray⟩ ∧ f ≤ i ∧ p.length ≤ s.length ∧ p ∈ pieces s ∧ PSt s (done ++ [p]) (i + 1) (i + 1) := by
  rcases h with ⟨_, p, h1, h2, h3, h4⟩ | ⟨h, _⟩
  · refine ⟨p, ?_, by omega, by omega, ?_⟩
    · apply ByteArray.ext
      rw [ByteArray.data_extract]
      have : (s.drop f).take (i - f) = p := by rw [h2, List.take_left' (by omega)]
      rw [← this]
      simp
    · by_cases hlt : i < s.length
      · have e : s.drop i = 32 :: s.drop (i + 1) := by rw [List.drop_eq_getElem_cons hlt, hc hlt]
        have hp : pieces (p ++ s.drop i) = p :: pieces (s.drop (i + 1)) := by
          rw [e, pieces_some (idx_at p _ h4)]
          simp
        rw [hp] at h1
        refine ⟨by rw [h1]; simp, .inl ⟨hlt, [], by rw [h1]; simp, by simp, by simp, by simp⟩⟩
      · have e : s.drop i = [] := List.drop_of_length_le (by omega)
        have hp : pieces (p ++ s.drop i) = [p] := by
          rw [e, List.append_nil, pieces_none (idx_none p h4)]
        rw [hp] at h1
        exact ⟨by rw [h1]; simp, .inr ⟨by omega, h1⟩⟩
  · omega
theorem PSt.done {s : List UInt8} {done : List (List UInt8)} {f i : Nat} (h : PSt s done f i) (hi : s.length < i) : pieces s = done := by
  rcases h with ⟨h, _⟩ | ⟨_, h⟩
  · omega
  · exact h
theorem PSt.le {s : List UInt8} {done : List (List UInt8)} {f i : Nat} (h : PSt s done f i) : i ≤ s.length + 1 := by
  rcases h with ⟨h, _⟩ | ⟨h, _⟩ <;> omega
theorem PSt.len {s : List UInt8} {done : List (List UInt8)} {f i : Nat} (h : PSt s done f i) : done.length ≤ s.length + 1 := by
  have := pieces_length _ s (Nat.le_refl _)
  rcases h with ⟨_, p, h, _⟩ | ⟨_, h⟩
  · rw [h, List.length_append] at this; omega
  · rw [h] at this; omega
theorem new3q (W : World) (t n : Int) (b : List UInt8) (B : Nat) (hB : W.heap.size = B) : ∀ j u, [Value.int .i64 t, .int .i64 n, .string ⟨b.toArray⟩][j]? = some u → (W.alloc (.cells #[.int .i64 t, .int .i64 n, .string ⟨b.toArray⟩] 54)).cell? ((⟨B, 0, none⟩ : Addr).add j) = some u := by
  subst hB
  exact cells_new W [.int .i64 t, .int .i64 n, .string ⟨b.toArray⟩] 54
end Go.Proofs.YtbjipcpoiiegkaaGreatDoor
namespace Go.Proofs.YtbjipcpoiiegkaaGreatDoor
open Go.RowKit Go.Shelf
set_option maxRecDepth 100000 in
set_option maxHeartbeats 2000000 in
theorem rwords_any (s : List UInt8) (w : World) (hs : s.length ≤ 1048576) : Calls Tryz.prog 28 #[.string ⟨s.toArray⟩] w fun e w' => ∃ v, e = .returned v ∧ w'.ownsRow w.heap.size 9 1 v (pieces s).length (cellsS (pieces s)) ∧ Below w.heap.size w w' := by
  go_enter Tryz.func28, Tryz.ntmps28
  go_wp2
  go_loopw [3, 4, 5] (fun v f i wr => ∃ (done : List (List UInt8)) (fn iN : Nat), f = .int .i64 fn ∧ i = .int .i64 iN ∧ Hid (PSt s done fn iN) ∧ wr.ownsRow w.heap.size 9 1 v done.length (cellsS done) ∧ Below w.heap.size w wr) (fun _ _ i _ => s.length + 1 - (intOf i).toNat)
  case atStart => exact ⟨[], 0, 0, rfl, rfl, hid (PSt.start s), World.ownsRow_nil _ _ _ _, Below.refl _ _⟩
  case round =>
    obtain ⟨done, fn, iN, rfl, rfl, hP, hrow, hb⟩ := hrel
    have hle := hP.out.le
    by_cases h1 : iN ≤ s.length
    · have h1' : (iN : Int) ≤ (s.length : Int) := by omega
      by_cases h2 : ∃ (h : iN < s.length), s[iN] ≠ 32
      · obtain ⟨hlt, hc⟩ := h2
        have HN : Hid (PSt s done fn (iN + 1)) := hid (hP.out.next hlt hc)
        have e0 : (⟨s.toArray⟩ : ByteArray)[iN]'(by show iN < s.toArray.size; simpa using hlt) = s[iN] := by simp [ByteArray.getElem_eq_getElem_data]
        generalize s[iN] = c at e0 hc
        have hlt' : (iN : Int) < (s.length : Int) := by omega
        have hne : ((iN : Int) == (s.length : Int)) = false := by simp; omega
        have hcn : ((c.toNat : Int) == 32) = false := by
          have : c.toNat ≠ 32 := fun h => hc (UInt8.toNat_inj.1 h)
          simp
          omega
        go_wp2
        exact ⟨⟨done, fn, iN + 1, rfl, by go_num, HN, hrow, hb⟩, by simp [intOf]; omega⟩
      · have hc : ∀ (h : iN < s.length), s[iN] = 32 := fun h => by
          by_cases hh : s[iN] = 32
          · exact hh
          · exact absurd ⟨h, hh⟩ h2
        obtain ⟨p, hcut, hfi, hpl, hmem, hnext⟩ := hP.out.cut h1 hc
        have HN : Hid (PSt s (done ++ [p]) (iN + 1) (iN + 1)) := hid hnext
        have hdl := hnext.len
        rw [List.length_append] at hdl
        have hdl2 : done.length ≤ 1048577 := by simp at hdl; omega
        have HC := hid (cellsS_snoc done p)
        obtain ⟨nd, hnd⟩ : ∃ nd, nd = done.length := ⟨_, rfl⟩
        have HL := hid hnd
        rw [← hnd] at hrow hdl2
        clear hmem hnext h2 hP hdl hnd
        generalize cellsS done = xs at hrow HC
        by_cases hlt : iN < s.length
        · have e0 : (⟨s.toArray⟩ : ByteArray)[iN]'(by show iN < s.toArray.size; simpa using hlt) = 32 := by rw [← hc hlt]; simp [ByteArray.getElem_eq_getElem_data]
          have hlt' : (iN : Int) < (s.length : Int) := by omega
          have hne : ((iN : Int) == (s.length : Int)) = false := by simp; omega
          clear hc
          go_wp2_with (at_builtin; refine wpList_appN _ rfl _ _ 37 rfl elemN_str w.heap.size _ nd xs rfl (World.ownsRow.alloc hrow _) _ rfl 1 [Value.string ⟨p.toArray⟩] (.inr ⟨⟨wr.heap.size, 0, none⟩, 1, rfl, cells_new5 wr [Value.string ⟨p.toArray⟩] 9 _ rfl⟩) rfl (by simp [Value.oneCell']) (by unfold maxLen; omega) (by omega) (by have := hb.size; simp; omega) ?_; intro v' w6 hr6 hs6)
          rw [← HC.out] at hr6
          exact ⟨⟨done ++ [p], iN + 1, iN + 1, by go_num, by go_num, HN, by rw [List.length_append, ← HL.out]; exact hr6, words_step hb hrow hs6⟩, by simp [intOf]; omega⟩
        · have hge' : (s.length : Int) ≤ (iN : Int) := by omega
          have heq : ((iN : Int) == (s.length : Int)) = true := by simp; omega
          clear hc
          go_wp2_with (at_builtin; refine wpList_appN _ rfl _ _ 37 rfl elemN_str w.heap.size _ nd xs rfl (World.ownsRow.alloc hrow _) _ rfl 1 [Value.string ⟨p.toArray⟩] (.inr ⟨⟨wr.heap.size, 0, none⟩, 1, rfl, cells_new5 wr [Value.string ⟨p.toArray⟩] 9 _ rfl⟩) rfl (by simp [Value.oneCell']) (by unfold maxLen; omega) (by omega) (by have := hb.size; simp; omega) ?_; intro v' w6 hr6 hs6)
          rw [← HC.out] at hr6
          exact ⟨⟨done ++ [p], iN + 1, iN + 1, by go_num, by go_num, HN, by rw [List.length_append, ← HL.out]; exact hr6, words_step hb hrow hs6⟩, by simp [intOf]; omega⟩
    · have hgt : (s.length : Int) < (iN : Int) := by omega
      have HD : Hid (pieces s = done) := hid (hP.out.done (by omega))
      go_wp2
      go_ret
      exact ⟨_, rfl, by rw [HD.out]; exact hrow, hb⟩
end Go.Proofs.YtbjipcpoiiegkaaGreatDoor
namespace Go.Proofs.YtbjipcpoiiegkaaGreatDoor
open Go.RowKit Go.Shelf
theorem find_ok (s : List UInt8) : ∀ (m k : Nat), 54 - k ≤ m → (findFrom s k).2 = true → nameT (findFrom s k).1 = s
  | 0, k, hm, h => by
    rw [findFrom, if_neg (by omega)] at h
    cases h
  | m + 1, k, hm, h => by
    by_cases hk : k ≤ 53
    · by_cases hn : nameT k = s
      · rw [find_yes hk hn]; exact hn
      · rw [find_on hk hn] at h ⊢
        exact find_ok s m (k + 1) (by omega) h
    · rw [find_no hk] at h
      cases h
theorem find_named {s : List UInt8} {n : Int} (h : findFrom s 1 = (n, true)) : nameT n = s := by
  have := find_ok s 54 1 (by omega) (by rw [h])
  rwa [h] at this
theorem find_ne {s : List UInt8} {n : Int} (h : findFrom s 1 = (n, true)) : nameT n ≠ [] := by
  intro e
  have h1 := find_named h
  rw [e] at h1
  subst h1
  have : (findFrom [] 1).2 = false := by decide +kernel
  rw [h] at this
  cases this
theorem oneV_num {s : List UInt8} {d : Int} (hi : Lib.indexByte s 32 = -1) (h : IsNum s d) : oneV s 1 = some ⟨1, d, []⟩ := by
  obtain ⟨rfl, h0, h1⟩ := h
  have hr : readOf (Lib.itoa d) = some ⟨1, d, []⟩ := read_word ⟨1, d, []⟩ (by simp [Val.right]) h0 h1
  unfold oneV
  rw [if_pos hi, hr]
  simp [fitsB, Val.right]
theorem oneV_no {s : List UInt8} (hs : s.length ≤ 1048576) (h : ∀ v, ¬ IsNum s v) : oneV s 1 = none := by
  unfold oneV
  split
  · cases hr : readOf s with
    | none => rfl
    | some v =>
      simp only [Option.bind_some]
      split
      · rename_i hf
        exfalso
        obtain ⟨_, g1, g2⟩ := readOf_good hs hr
        simp [fitsB] at hf
        refine h v.n ⟨?_, g1, g2⟩
        unfold readOf at hr
        cases hg : guessOf s with
        | none => rw [hg] at hr; cases hr
        | some x =>
          rw [hg] at hr
          simp only [Option.bind_some] at hr
          split at hr
          · rename_i hp
            cases hr
            rw [← hp]
            simp [printOf, hf.2, printList, Lib.join, wordOf, hf.1]
          · cases hr
      · rfl
  · rfl
theorem insS_def (s : List UInt8) : insS s = if (findFrom (cutAt s 32).1 1).2 = false then none else if (cutAt s 32).2.2 ≠ (takesN (findFrom (cutAt s 32).1 1).1 != 0) then none else if (cutAt s 32).2.2 = false then some ((findFrom (cutAt s 32).1 1).1, 0) else (oneV (cutAt s 32).2.1 1).map fun v => ((findFrom (cutAt s 32).1 1).1, v.n) := rfl
/-- One word. -/
theorem ins_one {s : List UInt8} (hi : Lib.indexByte s 32 = -1) {n : Int} {ok : Bool} (hf : findFrom s 1 = (n, ok)) : insS s = if ok = true ∧ lineS (n, 0) = s then some (n, 0) else none := by
  have hc : cutAt s 32 = (s, [], false) := if_pos hi
  rw [insS_def, hc]
  simp only [hf]
  cases ok with
  | false => simp
  | true =>
    have hn := find_named hf
    have he := find_ne hf
    unfold lineS
    rw [takes_same]
    simp only [if_neg he]
    by_cases ht : takesN n = 0
    · simp [ht, hn]
    · rw [if_pos ht, hn]
      have : s ++ 32 :: Lib.itoa 0 ≠ s := fun e => by
        have := congrArg List.length e
        simp at this
      simp [ht, this]
/-- Two words. -/
theorem ins_two {s : List UInt8} {o : Nat} (hi : Lib.indexByte s 32 = o) (hs : s.length ≤ 1048576) (h2 : Lib.indexByte (s.drop (o + 1)) 32 = -1) {n : Int} {ok : Bool} (hf : findFrom (s.take o) 1 = (n, ok)) {d : Int} {ok2 : Bool} (hd : (ok2 = true ∧ IsNum (s.drop (o + 1)) d) ∨ (ok2 = false ∧ ∀ v, ¬ IsNum (s.drop (o + 1)) v)) :
    insS s = if ok = true ∧ ok2 = true ∧ lineS (n, d) = s then some (n, d) else none := by
  have hc : cutAt s 32 = (s.take o, s.drop (o + 1), true) := by unfold cutAt; rw [if_neg (by omega), hi]; rfl
  have ho := idx_lt hi
  have hse : s = s.take o ++ 32 :: s.drop (o + 1) := by
    have h32 : s[o]? = some 32 := (Lib.indexByte_some hi).1
    have : s.drop o = 32 :: s.drop (o + 1) := by
      rw [List.drop_eq_getElem_cons ho]
      rw [List.getElem?_eq_getElem ho] at h32
      rw [Option.some.inj h32]
    rw [← this, List.take_append_drop]
  rw [insS_def, hc]
  simp only [hf]
  cases ok with
  | false => simp
  | true =>
    have hn := find_named hf
    have he := find_ne hf
    rcases hd with ⟨rfl, hd⟩ | ⟨rfl, hd⟩
    · rw [oneV_num h2 hd]
      unfold lineS
      rw [takes_same]
      simp only [if_neg he]
      by_cases ht : takesN n = 0
      · have h1 : ¬ (if d ≠ 0 then [] else nameT n) = s := fun e => by
          split at e
          · rw [← e] at ho; simp at ho
          · rw [hn] at e
            have := congrArg List.length e
            simp at this
            omega
        simp only [ht]
        simp
        intro h; exact absurd h (by simpa using h1)
      · rw [if_pos ht, hn, hd.1]
        simp [ht, ← hse]
    · rw [oneV_no (by simp; omega) hd]
      simp
/-- More words. -/
theorem ins_more {s : List UInt8} {o o2 : Nat} (hi : Lib.indexByte s 32 = o) (h2 : Lib.indexByte (s.drop (o + 1)) 32 = o2) : insS s = none := by
  have hc : cutAt s 32 = (s.take o, s.drop (o + 1), true) := by unfold cutAt; rw [if_neg (by omega), hi]; rfl
  have h1 : oneV (s.drop (o + 1)) 1 = none := if_neg (by omega)
  rw [insS_def, hc]
  simp [h1]
end Go.Proofs.YtbjipcpoiiegkaaGreatDoor
