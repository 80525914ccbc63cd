/- Plain: a script's text and its lines. -/
import Derived.Test.YtbjipcpoiiegkaaGreatDoorBC
import Derived.Test.YtbjipcpoiiegkaaGreatDoorAP
import Derived.Test.YtbjipcpoiiegkaaGreatDoorAW
import Derived.Test.YtbjipcpoiiegkaaGreatDoorVX
namespace Go.Proofs.YtbjipcpoiiegkaaGreatDoor
open Go.RowKit Go.Shelf
/-- No sign of the text is this one. -/
def No (c : UInt8) (l : List UInt8) : Prop := ∀ x ∈ l, x ≠ c
theorem No.app {c : UInt8} {a b : List UInt8} (ha : No c a) (hb : No c b) : No c (a ++ b) := fun x hx => (List.mem_append.1 hx).elim (ha x) (hb x)
theorem No.cons {c d : UInt8} {a : List UInt8} (h : d ≠ c) (ha : No c a) : No c (d :: a) := fun x hx => by
  rcases List.mem_cons.1 hx with rfl | hx
  · exact h
  · exact ha x hx
theorem idx_no (c : UInt8) : ∀ l : List UInt8, No c l → Lib.indexByte l c = -1
  | [], _ => rfl
  | x :: l, h => by
    have h1 := idx_no c l fun y hy => h y (List.mem_cons_of_mem _ hy)
    have h2 := h x (by simp)
    simp [Lib.indexByte, h2, h1]
theorem idx_app (c : UInt8) : ∀ (l r : List UInt8), No c l → Lib.indexByte (l ++ c :: r) c = l.length
  | [], r, _ => by simp [Lib.indexByte]
  | x :: l, r, h => by
    have h1 := idx_app c l r fun y hy => h y (List.mem_cons_of_mem _ hy)
    have h2 := h x (by simp)
    simp [Lib.indexByte, h2, h1]
theorem cut_app {c : UInt8} {l r : List UInt8} (h : No c l) : cutAt (l ++ c :: r) c = (l, r, true) := by
  unfold cutAt
  rw [if_neg (by rw [idx_app c l r h]; omega), idx_app c l r h]
  simp
theorem cut_no {c : UInt8} {l : List UInt8} (h : No c l) : cutAt l c = (l, [], false) := by
  unfold cutAt
  rw [if_pos (idx_no c l h)]
theorem no_take {c : UInt8} {l : List UInt8} {o : Nat} (h : Lib.indexByte l c = o) : No c (l.take o) := by
  induction l generalizing o with
  | nil => intro x hx; simp at hx
  | cons y l ih =>
    by_cases hy : y = c
    · subst hy
      have : Lib.indexByte (y :: l) y = 0 := by simp [Lib.indexByte]
      rw [this] at h
      obtain rfl : o = 0 := by omega
      intro x hx; simp at hx
    · rcases idx_any l c with hi | ⟨o', hi⟩
      · have : Lib.indexByte (y :: l) c = -1 := by simp [Lib.indexByte, hy, hi]
        omega
      · have : Lib.indexByte (y :: l) c = o' + 1 := by
          simp [Lib.indexByte, hy, hi]
        obtain rfl : o = o' + 1 := by omega
        rw [List.take_succ_cons]
        exact No.cons hy (ih hi)
theorem cut_split {c : UInt8} {t : List UInt8} (h : (cutAt t c).2.2 = true) : t = (cutAt t c).1 ++ c :: (cutAt t c).2.1 ∧ No c (cutAt t c).1 := by
  unfold cutAt at h ⊢
  rcases idx_any t c with hi | ⟨o, hi⟩
  · rw [if_pos hi] at h
    cases h
  · rw [if_neg (by omega), hi]
    simp only [Int.toNat_natCast]
    have ho := idx_lt hi
    refine ⟨?_, no_take hi⟩
    have h32 : t[o]? = some c := (Lib.indexByte_some hi).1
    have : t.drop o = c :: t.drop (o + 1) := by
      rw [List.drop_eq_getElem_cons ho]
      rw [List.getElem?_eq_getElem ho] at h32
      rw [Option.some.inj h32]
    rw [← this, List.take_append_drop]
/-- The lines, one after the other. -/
def runL (S : Scr) (ls : List (List UInt8)) : Option Scr := ls.foldlM rlStep S
theorem runL_nil (S : Scr) : runL S [] = some S := rfl
theorem runL_cons (S : Scr) (l : List UInt8) (ls : List (List UInt8)) : runL S (l :: ls) = (rlStep S l).bind fun T => runL T ls := rfl
theorem runL_app (ls ms : List (List UInt8)) : ∀ S, runL S (ls ++ ms) = (runL S ls).bind fun T => runL T ms := by
  induction ls with
  | nil => intro S; rfl
  | cons l ls ih =>
    intro S
    rw [List.cons_append, runL_cons, runL_cons]
    cases rlStep S l with
    | none => rfl
    | some T => exact ih T
def joinL (ls : List (List UInt8)) : List UInt8 := ls.flatMap fun l => l ++ [10]
theorem rlRun_lines : ∀ (ls : List (List UInt8)) (n k : Nat) (S T : Scr), (∀ l ∈ ls, No 10 l) → ls.length ≤ n → runL S ls = some T → rlRun n k S (joinL ls) = (T, 0)
  | [], n, k, S, T, _, _, h => by
    cases h
    exact rlRun_nil _ _ _
  | l :: ls, 0, k, S, T, _, hn, _ => by simp at hn
  | l :: ls, n + 1, k, S, T, hno, hn, h => by
    have e : joinL (l :: ls) = l ++ 10 :: joinL ls := by simp [joinL]
    rw [e, rlRun, if_neg (by simp), cut_app (hno l (by simp)), if_neg (by simp)]
    rw [runL_cons] at h
    cases hs : rlStep S l with
    | none => rw [hs] at h; cases h
    | some S' =>
      rw [hs] at h
      exact rlRun_lines ls n (k + 1) S' T (fun x hx => hno x (List.mem_cons_of_mem _ hx)) (by simpa using hn) h
theorem rlRun_back : ∀ (n k : Nat) (S T : Scr) (t : List UInt8), 1 ≤ k → t.length ≤ n → rlRun n k S t = (T, 0) → ∃ ls, t = joinL ls ∧ runL S ls = some T
  | 0, k, S, T, t, _, hn, h => by
    obtain rfl : t = [] := List.eq_nil_of_length_eq_zero (by omega)
    cases h
    exact ⟨[], rfl, rfl⟩
  | n + 1, k, S, T, t, hk, hn, h => by
    rw [rlRun] at h
    by_cases h0 : t = []
    · rw [if_pos h0] at h
      cases h
      exact ⟨[], h0, rfl⟩
    · rw [if_neg h0] at h
      have hbad : ∀ {X : Scr}, (noScr, (k : Int)) = (X, 0) → False := fun e => by
        have := congrArg Prod.snd e
        simp only at this
        omega
      by_cases he : (cutAt t 10).2.2 = false
      · rw [if_pos he] at h
        exact (hbad h).elim
      · rw [if_neg he] at h
        have he' : (cutAt t 10).2.2 = true := by simpa using he
        have hl := cutAt_ended he'
        obtain ⟨hsp, _⟩ := cut_split he'
        cases hs : rlStep S (cutAt t 10).1 with
        | none => rw [hs] at h; exact (hbad h).elim
        | some S' =>
          rw [hs] at h
          obtain ⟨ls, e1, e2⟩ := rlRun_back n (k + 1) S' T _ (by omega) (by omega) h
          refine ⟨(cutAt t 10).1 :: ls, ?_, ?_⟩
          · conv => lhs; rw [hsp, e1]
            simp [joinL]
          · rw [runL_cons, hs]
            exact e2
/-- Its words. -/
def wordsF (f : Fn) : List (List UInt8) := ([102, 117, 110, 99] :: f.p.map kindW) ++ (([45, 62] :: f.r.map kindW) ++ ([59] :: f.l.map kindW))
theorem join_cc (x y : List UInt8) (l : List (List UInt8)) : Lib.join (x :: y :: l) [32] = x ++ 32 :: Lib.join (y :: l) [32] := by
  simp [Lib.join, List.intercalate]
theorem join_one (x : List UInt8) : Lib.join [x] [32] = x := by simp [Lib.join]
theorem join_row (x : List UInt8) (ns : List Int) : Lib.join (x :: ns.map kindW) [32] = x ++ rowW ns := by
  induction ns generalizing x with
  | nil => simp [Lib.join, rowW]
  | cons k ns ih =>
    rw [List.map_cons, join_cc, ih (kindW k)]
    simp [rowW]
theorem join_app : ∀ (a b : List (List UInt8)), a ≠ [] → b ≠ [] → Lib.join (a ++ b) [32] = Lib.join a [32] ++ 32 :: Lib.join b [32]
  | [], _, h, _ => absurd rfl h
  | [x], y :: b, _, _ => by rw [List.singleton_append, join_cc, join_one]
  | [x], [], _, h => absurd rfl h
  | x :: y :: a, b, _, hb => by
    have := join_app (y :: a) b (by simp) hb
    simp only [List.cons_append] at this ⊢
    rw [join_cc, this, join_cc]
    simp
theorem join_words (f : Fn) : Lib.join (wordsF f) [32] = headW f := by
  unfold wordsF
  rw [join_app _ _ (by simp) (by simp), join_app _ _ (by simp) (by simp), join_row, join_row, join_row]
  simp [headW]
theorem pieces_ne5 (s : List UInt8) : pieces s ≠ [] := by
  rcases idx_cases s with hi | ⟨o, hi⟩
  · rw [pieces_none hi]; simp
  · rw [pieces_some hi]; simp
theorem join_pieces : ∀ (n : Nat) (s : List UInt8), s.length ≤ n → Lib.join (pieces s) [32] = s
  | n, s, hn => by
    rcases idx_cases s with hi | ⟨o, hi⟩
    · rw [pieces_none hi]
      simp [Lib.join]
    · have ho := idx_lt hi
      have hne := pieces_ne5 (s.drop (o + 1))
      rw [pieces_some hi]
      have e : Lib.join (s.take o :: pieces (s.drop (o + 1))) [32] = s.take o ++ 32 :: Lib.join (pieces (s.drop (o + 1))) [32] := by
        have := join_app [s.take o] _ (by simp) hne
        rwa [join_one] at this
      match n with
      | 0 => omega
      | n + 1 =>
        rw [e, join_pieces n (s.drop (o + 1)) (by simp; omega)]
        have h32 : s[o]? = some 32 := (Lib.indexByte_some hi).1
        have : s.drop o = 32 :: s.drop (o + 1) := by
          rw [List.drop_eq_getElem_cons ho]
          rw [List.getElem?_eq_getElem ho] at h32
          rw [Option.some.inj h32]
        rw [← this, List.take_append_drop]
end Go.Proofs.YtbjipcpoiiegkaaGreatDoor
