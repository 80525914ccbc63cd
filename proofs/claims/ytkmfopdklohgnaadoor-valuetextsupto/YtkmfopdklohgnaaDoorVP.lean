/- value.word. -/
import Derived.Test.YtkmfopdklohgnaaDoorVAll
import Derived.Test.YtkmfopdklohgnaaDoorVB
import Derived.Lib.AppendIntMem
namespace Go.Proofs.YtkmfopdklohgnaaDoor
open Go.RowKit Go.Shelf
attribute [local go_sem high] eq_val eq_val0
/-- The library's table of powers lies as it was laid. -/
def Pow (w : World) : Prop := Lib.TabIs Tryd.prog w "internal/strconv.uint64pow10" .u64 Lib.pow10Tab
theorem Pow.keep {w w' : World} (h : Pow w) (hb : Below w.heap.size w w') : Pow w' := by
  have hg : Tryd.prog.globalNamed "internal/strconv.uint64pow10" = some 5 := by kernel_rfl
  unfold Pow Lib.TabIs World.var? at h ⊢
  rw [hg] at h ⊢
  simp only [Option.bind_some] at h ⊢
  rw [hb.block _ (by
    rcases Nat.lt_or_ge 5 w.heap.size with h' | h'
    · exact h'
    · rw [Array.getElem?_eq_none h'] at h; cases h)]
  exact h
/-- A value's text, of one that may be. -/
def wordOf (x : Val) : List UInt8 := if x.t = 1 then Lib.itoa x.n else if x.t = 2 then hexWord x.b else if x.t == 3 && (x.n == 1 && decide (x.b = [])) then [116, 114, 117, 101] else [102, 97, 108, 115, 101]

set_option maxRecDepth 100000 in
set_option maxHeartbeats 1000000 in
theorem word_any (x : Val) (h0 : -9223372036854775808 ≤ x.n) (h1 : x.n ≤ 9223372036854775807) (hb : x.b.length ≤ 1048576) (w : World) (ht : Pow w) : Calls Tryd.prog 16 #[x.v] w fun e w' => e = .returned (.string ⟨(wordOf x).toArray⟩) ∧ Below w.heap.size w w' := by
  obtain ⟨t, n, b⟩ := x
  simp only [Val.v, wordOf] at h0 h1 hb ⊢
  by_cases h1 : t = 1
  · subst h1
    go_enter Tryd.func16, Tryd.ntmps16
    go_wp2_with (go_at_call 29; refine (Tryd.strconv_Itoa n h0 (by assumption) _ (ht.keep ((Below.refl _ w).alloc (Nat.le_refl _) _))).mono ?_; rintro e w' ⟨rfl, k, os, rfl⟩)
    go_ret
    exact ⟨rfl, ((Below.refl _ w).alloc (Nat.le_refl _) _).trans (Lib.below_grow _ _ (by simp) _ _)⟩
  by_cases h2 : t = 2
  · subst h2
    go_enter Tryd.func16, Tryd.ntmps16
    go_wp2_with (go_at_call 30; refine (bytesWord_any b _ hb).mono ?_; rintro e w' ⟨rfl, hb2⟩)
    go_ret
    exact ⟨rfl, ((Below.refl _ w).alloc (Nat.le_refl _) _).trans (hb2.mono (by simp))⟩
  have e1 : (t == 1) = false := by simp [h1]
  have e2 : (t == 2) = false := by simp [h2]
  simp only [if_neg h1, if_neg h2]
  have hV : ∀ W : World, Calls Tryd.prog 22 #[.bool true] W fun e w' => e = .returned (.agg #[.int .i64 3, .int .i64 1, .string ⟨#[]⟩]) ∧ w' = (W.alloc (Val.box (Val.truth true))).alloc (Val.box (Val.truth true)) := truth_any' true
  generalize hQ : (t == 3 && (n == 1 && decide (b = []))) = q
  cases q
  all_goals
    go_enter Tryd.func16, Tryd.ntmps16
    go_wp2
    first
      | go_region_with (first | (go_at_call 22; refine (hV _).mono ?_; rintro e w' ⟨rfl, rfl⟩; simp only [Val.box, Val.truth]))
      | fail
    all_goals go_wp2
    all_goals (go_ret; exact ⟨rfl, ((((Below.refl _ w).alloc (Nat.le_refl _) _).alloc (by simp) _).alloc (by simp; omega) _).drew⟩)
end Go.Proofs.YtkmfopdklohgnaaDoor
