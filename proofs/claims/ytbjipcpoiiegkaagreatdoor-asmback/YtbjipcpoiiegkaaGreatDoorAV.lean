/- The document's words: a text cut at its blanks. The document's Read. Plain: a script's text and its lines. -/
import Derived.Test.YtbjipcpoiiegkaaGreatDoorVTq
import Derived.Test.YtbjipcpoiiegkaaGreatDoorAH
import Derived.Test.YtbjipcpoiiegkaaGreatDoorOU
import Derived.Test.YtbjipcpoiiegkaaGreatDoorBC
import Derived.Test.YtbjipcpoiiegkaaGreatDoorCRd
import Derived.Test.YtbjipcpoiiegkaaGreatDoorVX
namespace Go.Proofs.YtbjipcpoiiegkaaGreatDoor
open Go.RowKit Go.Shelf
set_option maxRecDepth 100000 in
set_option maxHeartbeats 2000000 in
theorem rwords_any (s : List UInt8) (w : World) (hs : s.length ≤ 1048576) : Calls Tryz.prog 28 #[.string ⟨s.toArray⟩] w fun e w' => ∃ v, e = .returned v ∧ w'.ownsRow w.heap.size 9 1 v (pieces s).length (cellsS (pieces s)) ∧ Below w.heap.size w w' := by
  go_enter Tryz.func28, Tryz.ntmps28
  go_wp2
  go_loopw [3, 4, 5] (fun v f i wr => ∃ (done : List (List UInt8)) (fn iN : Nat), f = .int .i64 fn ∧ i = .int .i64 iN ∧ Hid (PSt s done fn iN) ∧ wr.ownsRow w.heap.size 9 1 v done.length (cellsS done) ∧ Below w.heap.size w wr) (fun _ _ i _ => s.length + 1 - (intOf i).toNat)
  case atStart => exact ⟨[], 0, 0, rfl, rfl, hid (PSt.start s), World.ownsRow_nil _ _ _ _, Below.refl _ _⟩
  case round =>
    obtain ⟨done, fn, iN, rfl, rfl, hP, hrow, hb⟩ := hrel
    have hle := hP.out.le
    by_cases h1 : iN ≤ s.length
    · have h1' : (iN : Int) ≤ (s.length : Int) := by omega
      by_cases h2 : ∃ (h : iN < s.length), s[iN] ≠ 32
      · obtain ⟨hlt, hc⟩ := h2
        have HN : Hid (PSt s done fn (iN + 1)) := hid (hP.out.next hlt hc)
        have e0 : (⟨s.toArray⟩ : ByteArray)[iN]'(by show iN < s.toArray.size; simpa using hlt) = s[iN] := by simp [ByteArray.getElem_eq_getElem_data]
        generalize s[iN] = c at e0 hc
        have hlt' : (iN : Int) < (s.length : Int) := by omega
        have hne : ((iN : Int) == (s.length : Int)) = false := by simp; omega
        have hcn : ((c.toNat : Int) == 32) = false := by
          have : c.toNat ≠ 32 := fun h => hc (UInt8.toNat_inj.1 h)
          simp
          omega
        go_wp2
        exact ⟨⟨done, fn, iN + 1, rfl, by go_num, HN, hrow, hb⟩, by simp [intOf]; omega⟩
      · have hc : ∀ (h : iN < s.length), s[iN] = 32 := fun h => by
          by_cases hh : s[iN] = 32
          · exact hh
          · exact absurd ⟨h, hh⟩ h2
        obtain ⟨p, hcut, hfi, hpl, hmem, hnext⟩ := hP.out.cut h1 hc
        have HN : Hid (PSt s (done ++ [p]) (iN + 1) (iN + 1)) := hid hnext
        have hdl := hnext.len
        rw [List.length_append] at hdl
        have hdl2 : done.length ≤ 1048577 := by simp at hdl; omega
        have HC := hid (cellsS_snoc done p)
        obtain ⟨nd, hnd⟩ : ∃ nd, nd = done.length := ⟨_, rfl⟩
        have HL := hid hnd
        rw [← hnd] at hrow hdl2
        clear hmem hnext h2 hP hdl hnd
        generalize cellsS done = xs at hrow HC
        by_cases hlt : iN < s.length
        · have e0 : (⟨s.toArray⟩ : ByteArray)[iN]'(by show iN < s.toArray.size; simpa using hlt) = 32 := by rw [← hc hlt]; simp [ByteArray.getElem_eq_getElem_data]
          have hlt' : (iN : Int) < (s.length : Int) := by omega
          have hne : ((iN : Int) == (s.length : Int)) = false := by simp; omega
          clear hc
          go_wp2_with (at_builtin; refine wpList_appN _ rfl _ _ 37 rfl elemN_str w.heap.size _ nd xs rfl (World.ownsRow.alloc hrow _) _ rfl 1 [Value.string ⟨p.toArray⟩] (.inr ⟨⟨wr.heap.size, 0, none⟩, 1, rfl, cells_new5 wr [Value.string ⟨p.toArray⟩] 9 _ rfl⟩) rfl (by simp [Value.oneCell']) (by unfold maxLen; omega) (by omega) (by have := hb.size; simp; omega) ?_; intro v' w6 hr6 hs6)
          rw [← HC.out] at hr6
          exact ⟨⟨done ++ [p], iN + 1, iN + 1, by go_num, by go_num, HN, by rw [List.length_append, ← HL.out]; exact hr6, words_step hb hrow hs6⟩, by simp [intOf]; omega⟩
        · have hge' : (s.length : Int) ≤ (iN : Int) := by omega
          have heq : ((iN : Int) == (s.length : Int)) = true := by simp; omega
          clear hc
          go_wp2_with (at_builtin; refine wpList_appN _ rfl _ _ 37 rfl elemN_str w.heap.size _ nd xs rfl (World.ownsRow.alloc hrow _) _ rfl 1 [Value.string ⟨p.toArray⟩] (.inr ⟨⟨wr.heap.size, 0, none⟩, 1, rfl, cells_new5 wr [Value.string ⟨p.toArray⟩] 9 _ rfl⟩) rfl (by simp [Value.oneCell']) (by unfold maxLen; omega) (by omega) (by have := hb.size; simp; omega) ?_; intro v' w6 hr6 hs6)
          rw [← HC.out] at hr6
          exact ⟨⟨done ++ [p], iN + 1, iN + 1, by go_num, by go_num, HN, by rw [List.length_append, ← HL.out]; exact hr6, words_step hb hrow hs6⟩, by simp [intOf]; omega⟩
    · have hgt : (s.length : Int) < (iN : Int) := by omega
      have HD : Hid (pieces s = done) := hid (hP.out.done (by omega))
      go_wp2
      go_ret
      exact ⟨_, rfl, by rw [HD.out]; exact hrow, hb⟩
end Go.Proofs.YtbjipcpoiiegkaaGreatDoor
namespace Go.Proofs.YtbjipcpoiiegkaaGreatDoor
open Go.RowKit Go.Shelf
theorem find_ok (s : List UInt8) : ∀ (m k : Nat), 54 - k ≤ m → (findFrom s k).2 = true → nameT (findFrom s k).1 = s
  | 0, k, hm, h => by
    rw [findFrom, if_neg (by omega)] at h
    cases h
  | m + 1, k, hm, h => by
    by_cases hk : k ≤ 53
    · by_cases hn : nameT k = s
      · rw [find_yes hk hn]; exact hn
      · rw [find_on hk hn] at h ⊢
        exact find_ok s m (k + 1) (by omega) h
    · rw [find_no hk] at h
      cases h
theorem find_named {s : List UInt8} {n : Int} (h : findFrom s 1 = (n, true)) : nameT n = s := by
  have := find_ok s 54 1 (by omega) (by rw [h])
  rwa [h] at this
theorem find_ne {s : List UInt8} {n : Int} (h : findFrom s 1 = (n, true)) : nameT n ≠ [] := by
  intro e
  have h1 := find_named h
  rw [e] at h1
  subst h1
  have : (findFrom [] 1).2 = false := by decide +kernel
  rw [h] at this
  cases this
theorem oneV_num {s : List UInt8} {d : Int} (hi : Lib.indexByte s 32 = -1) (h : IsNum s d) : oneV s 1 = some ⟨1, d, []⟩ := by
  obtain ⟨rfl, h0, h1⟩ := h
  have hr : readOf (Lib.itoa d) = some ⟨1, d, []⟩ := read_word ⟨1, d, []⟩ (by simp [Val.right]) h0 h1
  unfold oneV
  rw [if_pos hi, hr]
  simp [fitsB, Val.right]
theorem oneV_no {s : List UInt8} (hs : s.length ≤ 1048576) (h : ∀ v, ¬ IsNum s v) : oneV s 1 = none := by
  unfold oneV
  split
  · cases hr : readOf s with
    | none => rfl
    | some v =>
      simp only [Option.bind_some]
      split
      · rename_i hf
        exfalso
        obtain ⟨_, g1, g2⟩ := readOf_good hs hr
        simp [fitsB] at hf
        refine h v.n ⟨?_, g1, g2⟩
        unfold readOf at hr
        cases hg : guessOf s with
        | none => rw [hg] at hr; cases hr
        | some x =>
          rw [hg] at hr
          simp only [Option.bind_some] at hr
          split at hr
          · rename_i hp
            cases hr
            rw [← hp]
            simp [printOf, hf.2, printList, Lib.join, wordOf, hf.1]
          · cases hr
      · rfl
  · rfl
theorem insS_def (s : List UInt8) : insS s = if (findFrom (cutAt s 32).1 1).2 = false then none else if (cutAt s 32).2.2 ≠ (takesN (findFrom (cutAt s 32).1 1).1 != 0) then none else if (cutAt s 32).2.2 = false then some ((findFrom (cutAt s 32).1 1).1, 0) else (oneV (cutAt s 32).2.1 1).map fun v => ((findFrom (cutAt s 32).1 1).1, v.n) := rfl
/-- One word. -/
theorem ins_one {s : List UInt8} (hi : Lib.indexByte s 32 = -1) {n : Int} {ok : Bool} (hf : findFrom s 1 = (n, ok)) : insS s = if ok = true ∧ lineS (n, 0) = s then some (n, 0) else none := by
  have hc : cutAt s 32 = (s, [], false) := if_pos hi
  rw [insS_def, hc]
  simp only [hf]
  cases ok with
  | false => simp
  | true =>
    have hn := find_named hf
    have he := find_ne hf
    unfold lineS
    rw [takes_same]
    simp only [if_neg he]
    by_cases ht : takesN n = 0
    · simp [ht, hn]
    · rw [if_pos ht, hn]
      have : s ++ 32 :: Lib.itoa 0 ≠ s := fun e => by
        have := congrArg List.length e
        simp at this
      simp [ht, this]
/-- Two words. -/
theorem ins_two {s : List UInt8} {o : Nat} (hi : Lib.indexByte s 32 = o) (hs : s.length ≤ 1048576) (h2 : Lib.indexByte (s.drop (o + 1)) 32 = -1) {n : Int} {ok : Bool} (hf : findFrom (s.take o) 1 = (n, ok)) {d : Int} {ok2 : Bool} (hd : (ok2 = true ∧ IsNum (s.drop (o + 1)) d) ∨ (ok2 = false ∧ ∀ v, ¬ IsNum (s.drop (o + 1)) v)) :
    insS s = if ok = true ∧ ok2 = true ∧ lineS (n, d) = s then some (n, d) else none := by
  have hc : cutAt s 32 = (s.take o, s.drop (o + 1), true) := by unfold cutAt; rw [if_neg (by omega), hi]; rfl
  have ho := idx_lt hi
  have hse : s = s.take o ++ 32 :: s.drop (o + 1) := by
    have h32 : s[o]? = some 32 := (Lib.indexByte_some hi).1
    have : s.drop o = 32 :: s.drop (o + 1) := by
      rw [List.drop_eq_getElem_cons ho]
      rw [List.getElem?_eq_getElem ho] at h32
      rw [Option.some.inj h32]
    rw [← this, List.take_append_drop]
  rw [insS_def, hc]
  simp only [hf]
  cases ok with
  | false => simp
  | true =>
    have hn := find_named hf
    have he := find_ne hf
    rcases hd with ⟨rfl, hd⟩ | ⟨rfl, hd⟩
    · rw [oneV_num h2 hd]
      unfold lineS
      rw [takes_same]
      simp only [if_neg he]
      by_cases ht : takesN n = 0
      · have h1 : ¬ (if d ≠ 0 then [] else nameT n) = s := fun e => by
          split at e
          · rw [← e] at ho; simp at ho
          · rw [hn] at e
            have := congrArg List.length e
            simp at this
            omega
        simp only [ht]
        simp
        intro h; exact absurd h (by simpa using h1)
      · rw [if_pos ht, hn, hd.1]
        simp [ht, ← hse]
    · rw [oneV_no (by simp; omega) hd]
      simp
/-- More words. -/
theorem ins_more {s : List UInt8} {o o2 : Nat} (hi : Lib.indexByte s 32 = o) (h2 : Lib.indexByte (s.drop (o + 1)) 32 = o2) : insS s = none := by
  have hc : cutAt s 32 = (s.take o, s.drop (o + 1), true) := by unfold cutAt; rw [if_neg (by omega), hi]; rfl
  have h1 : oneV (s.drop (o + 1)) 1 = none := if_neg (by omega)
  rw [insS_def, hc]
  simp [h1]
end Go.Proofs.YtbjipcpoiiegkaaGreatDoor
namespace Go.Proofs.YtbjipcpoiiegkaaGreatDoor
open Go.RowKit Go.Shelf
/-- No sign of the text is this one. -/
def No (c : UInt8) (l : List UInt8) : Prop := ∀ x ∈ l, x ≠ c
theorem No.app {c : UInt8} {a b : List UInt8} (ha : No c a) (hb : No c b) : No c (a ++ b) := fun x hx => (List.mem_append.1 hx).elim (ha x) (hb x)
theorem No.cons {c d : UInt8} {a : List UInt8} (h : d ≠ c) (ha : No c a) : No c (d :: a) := fun x hx => by
  rcases List.mem_cons.1 hx with rfl | hx
  · exact h
  · exact ha x hx
theorem idx_no (c : UInt8) : ∀ l : List UInt8, No c l → Lib.indexByte l c = -1
  | [], _ => rfl
  | x :: l, h => by
    have h1 := idx_no c l fun y hy => h y (List.mem_cons_of_mem _ hy)
    have h2 := h x (by simp)
    simp [Lib.indexByte, h2, h1]
theorem idx_app (c : UInt8) : ∀ (l r : List UInt8), No c l → Lib.indexByte (l ++ c :: r) c = l.length
  | [], r, _ => by simp [Lib.indexByte]
  | x :: l, r, h => by
    have h1 := idx_app c l r fun y hy => h y (List.mem_cons_of_mem _ hy)
    have h2 := h x (by simp)
    simp [Lib.indexByte, h2, h1]
theorem cut_app {c : UInt8} {l r : List UInt8} (h : No c l) : cutAt (l ++ c :: r) c = (l, r, true) := by
  unfold cutAt
  rw [if_neg (by rw [idx_app c l r h]; omega), idx_app c l r h]
  simp
theorem cut_no {c : UInt8} {l : List UInt8} (h : No c l) : cutAt l c = (l, [], false) := by
  unfold cutAt
  rw [if_pos (idx_no c l h)]
theorem no_take {c : UInt8} {l : List UInt8} {o : Nat} (h : Lib.indexByte l c = o) : No c (l.take o) := by
  induction l generalizing o with
  | nil => intro x hx; simp at hx
  | cons y l ih =>
    by_cases hy : y = c
    · subst hy
      have : Lib.indexByte (y :: l) y = 0 := by simp [Lib.indexByte]
      rw [this] at h
      obtain rfl : o = 0 := by omega
      intro x hx; simp at hx
    · rcases idx_any l c with hi | ⟨o', hi⟩
      · have : Lib.indexByte (y :: l) c = -1 := by simp [Lib.indexByte, hy, hi]
        omega
      · have : Lib.indexByte (y :: l) c = o' + 1 := by
          simp [Lib.indexByte, hy, hi]
        obtain rfl : o = o' + 1 := by omega
        rw [List.take_succ_cons]
        exact No.cons hy (ih hi)
theorem cut_split {c : UInt8} {t : List UInt8} (h : (cutAt t c).2.2 = true) : t = (cutAt t c).1 ++ c :: (cutAt t c).2.1 ∧ No c (cutAt t c).1 := by
  unfold cutAt at h ⊢
  rcases idx_any t c with hi | ⟨o, hi⟩
  · rw [if_pos hi] at h
    cases h
  · rw [if_neg (by omega), hi]
    simp only [Int.toNat_natCast]
    have ho := idx_lt hi
    refine ⟨?_, no_take hi⟩
    have h32 : t[o]? = some c := (Lib.indexByte_some hi).1
    have : t.drop o = c :: t.drop (o + 1) := by
      rw [List.drop_eq_getElem_cons ho]
      rw [List.getElem?_eq_getElem ho] at h32
      rw [Option.some.inj h32]
    rw [← this, List.take_append_drop]
/-- The lines, one after the other. -/
def runL (S : Scr) (ls : List (List UInt8)) : Option Scr := ls.foldlM rlStep S
theorem runL_nil (S : Scr) : runL S [] = some S := rfl
theorem runL_cons (S : Scr) (l : List UInt8) (ls : List (List UInt8)) : runL S (l :: ls) = (rlStep S l).bind fun T => runL T ls := rfl
theorem runL_app (ls ms : List (List UInt8)) : ∀ S, runL S (ls ++ ms) = (runL S ls).bind fun T => runL T ms := by
  induction ls with
  | nil => intro S; rfl
  | cons l ls ih =>
    intro S
    rw [List.cons_append, runL_cons, runL_cons]
    cases rlStep S l with
    | none => rfl
    | some T => exact ih T
def joinL (ls : List (List UInt8)) : List UInt8 := ls.flatMap fun l => l ++ [10]
theorem rlRun_lines : ∀ (ls : List (List UInt8)) (n k : Nat) (S T : Scr), (∀ l ∈ ls, No 10 l) → ls.length ≤ n → runL S ls = some T → rlRun n k S (joinL ls) = (T, 0)
  | [], n, k, S, T, _, _, h => by
    cases h
    exact rlRun_nil _ _ _
  | l :: ls, 0, k, S, T, _, hn, _ => by simp at hn
  | l :: ls, n + 1, k, S, T, hno, hn, h => by
    have e : joinL (l :: ls) = l ++ 10 :: joinL ls := by simp [joinL]
    rw [e, rlRun, if_neg (by simp), cut_app (hno l (by simp)), if_neg (by simp)]
    rw [runL_cons] at h
    cases hs : rlStep S l with
    | none => rw [hs] at h; cases h
    | some S' =>
      rw [hs] at h
      exact rlRun_lines ls n (k + 1) S' T (fun x hx => hno x (List.mem_cons_of_mem _ hx)) (by simpa using hn) h
theorem rlRun_back : ∀ (n k : Nat) (S T : Scr) (t : List UInt8), 1 ≤ k → t.length ≤ n → rlRun n k S t = (T, 0) → ∃ ls, t = joinL ls ∧ runL S ls = some T
  | 0, k, S, T, t, _, hn, h => by
    obtain rfl : t = [] := List.eq_nil_of_length_eq_zero (by omega)
    cases h
    exact ⟨[], rfl, rfl⟩
  | n + 1, k, S, T, t, hk, hn, h => by
    rw [rlRun] at h
    by_cases h0 : t = []
    · rw [if_pos h0] at h
      cases h
      exact ⟨[], h0, rfl⟩
    · rw [if_neg h0] at h
      have hbad : ∀ {X : Scr}, (noScr, (k : Int)) = (X, 0) → False := fun e => by
        have := congrArg Prod.snd e
        simp only at this
        omega
      by_cases he : (cutAt t 10).2.2 = false
      · rw [if_pos he] at h
        exact (hbad h).elim
      · rw [if_neg he] at h
        have he' : (cutAt t 10).2.2 = true := by simpa using he
        have hl := cutAt_ended he'
        obtain ⟨hsp, _⟩ := cut_split he'
        cases hs : rlStep S (cutAt t 10).1 with
        | none => rw [hs] at h; exact (hbad h).elim
        | some S' =>
          rw [hs] at h
          obtain ⟨ls, e1, e2⟩ := rlRun_back n (k + 1) S' T _ (by omega) (by omega) h
          refine ⟨(cutAt t 10).1 :: ls, ?_, ?_⟩
          · conv => lhs; rw [hsp, e1]
            simp [joinL]
          · rw [runL_cons, hs]
            exact e2
/-- Its words. -/
def wordsF (f : Fn) : List (List UInt8) := ([102, 117, 110, 99] :: f.p.map kindW) ++ (([45, 62] :: f.r.map kindW) ++ ([59] :: f.l.map kindW))
theorem join_cc (x y : List UInt8) (l : List (List UInt8)) : Lib.join (x :: y :: l) [32] = x ++ 32 :: Lib.join (y :: l) [32] := by
  simp [Lib.join, List.intercalate]
theorem join_one (x : List UInt8) : Lib.join [x] [32] = x := by simp [Lib.join]
theorem join_row (x : List UInt8) (ns : List Int) : Lib.join (x :: ns.map kindW) [32] = x ++ rowW ns := by
  induction ns generalizing x with
  | nil => simp [Lib.join, rowW]
  | cons k ns ih =>
    rw [List.map_cons, join_cc, ih (kindW k)]
    simp [rowW]
theorem join_app : ∀ (a b : List (List UInt8)), a ≠ [] → b ≠ [] → Lib.join (a ++ b) [32] = Lib.join a [32] ++ 32 :: Lib.join b [32]
  | [], _, h, _ => absurd rfl h
  | [x], y :: b, _, _ => by rw [List.singleton_append, join_cc, join_one]
  | [x], [], _, h => absurd rfl h
  | x :: y :: a, b, _, hb => by
    have := join_app (y :: a) b (by simp) hb
    simp only [List.cons_append] at this ⊢
    rw [join_cc, this, join_cc]
    simp
theorem join_words (f : Fn) : Lib.join (wordsF f) [32] = headW f := by
  unfold wordsF
  rw [join_app _ _ (by simp) (by simp), join_app _ _ (by simp) (by simp), join_row, join_row, join_row]
  simp [headW]
theorem pieces_ne5 (s : List UInt8) : pieces s ≠ [] := by
  rcases idx_cases s with hi | ⟨o, hi⟩
  · rw [pieces_none hi]; simp
  · rw [pieces_some hi]; simp
theorem join_pieces : ∀ (n : Nat) (s : List UInt8), s.length ≤ n → Lib.join (pieces s) [32] = s
  | n, s, hn => by
    rcases idx_cases s with hi | ⟨o, hi⟩
    · rw [pieces_none hi]
      simp [Lib.join]
    · have ho := idx_lt hi
      have hne := pieces_ne5 (s.drop (o + 1))
      rw [pieces_some hi]
      have e : Lib.join (s.take o :: pieces (s.drop (o + 1))) [32] = s.take o ++ 32 :: Lib.join (pieces (s.drop (o + 1))) [32] := by
        have := join_app [s.take o] _ (by simp) hne
        rwa [join_one] at this
      match n with
      | 0 => omega
      | n + 1 =>
        rw [e, join_pieces n (s.drop (o + 1)) (by simp; omega)]
        have h32 : s[o]? = some 32 := (Lib.indexByte_some hi).1
        have : s.drop o = 32 :: s.drop (o + 1) := by
          rw [List.drop_eq_getElem_cons ho]
          rw [List.getElem?_eq_getElem ho] at h32
          rw [Option.some.inj h32]
        rw [← this, List.take_append_drop]
end Go.Proofs.YtbjipcpoiiegkaaGreatDoor
