/- slices.Clone of the four kinds of list. -/
import Derived.Test.YtkbmmaacmofijaaCL
namespace Go.Proofs.Ytkbmmaacmofijaa
open Go.RowKit
/-- How a copy of a list ends: a row of its own with the same cells. -/
def CopyEnd (e : TypeId) (size n : Nat) (xs : List Value) (w : World) (x : Ending) (w' : World) : Prop := (∃ v, x = .returned v ∧ w'.ownsRow w.heap.size e size v n xs) ∧ Below w.heap.size w w'
set_option maxRecDepth 100000 in
set_option maxHeartbeats 1000000 in
theorem copyN (a : Option Addr) (n c : Nat) (xs : List Value) (w : World) (hy : Lies w (.slice a n c) n xs) (hl : xs.length = n * 1) (h1 : ∀ u ∈ xs, u.oneCell' = true) (hn : n ≤ 17592186044416) : Calls Try.prog 82 #[.slice a n c] w (CopyEnd 3 1 n xs w) := by
  cases a with
  | none =>
    have h0 : n = 0 ∧ xs = [] := by
      rcases hy with ⟨c', e, rfl, rfl⟩ | ⟨ad, c', e, _⟩
      · exact ⟨rfl, rfl⟩
      · cases e
    obtain ⟨rfl, rfl⟩ := h0
    have he : ∀ w : World, (binOp .eql 28 (.slice none 0 c) (.slice none 0 0)).run Try.prog w = .ok (.bool true) w := fun _ => rfl
    go_enter Try.func82, Try.ntmps82
    go_wp2_with fail
    go_ret
    exact ⟨⟨_, rfl, ⟨rfl, .inl ⟨rfl, rfl⟩⟩⟩, Below.refl _ _⟩
  | some a =>
    have he : ∀ w : World, (binOp .eql 28 (.slice (some a) n c) (.slice none 0 0)).run Try.prog w = .ok (.bool false) w := fun _ => rfl
    have hrow := row_lit0 w 3 1 w.heap.size (Nat.le_refl _)
    have hb1 : Below w.heap.size w (w.alloc (.cells #[] 3)) := (Below.refl _ w).alloc (Nat.le_refl _) _
    have hy1 := hy.keep (below_keep hb1)
    go_enter Try.func82, Try.ntmps82
    go_wp2_with (at_builtin; go_loud (refine wpList_appN _ rfl _ _ _ rfl elemN_int w.heap.size _ 0 [] rfl hrow _ rfl n xs hy1 hl h1 (by unfold maxLen; omega) (by omega) hb1.size ?_); intro v' w6 hr6 hs6)
    go_ret
    exact ⟨⟨v', rfl, by simpa using hr6⟩, hb1.trans (hs6.below hb1.size fun j h => by cases h; exact Nat.le_refl _)⟩
set_option maxRecDepth 100000 in
set_option maxHeartbeats 1000000 in
theorem copyS (a : Option Addr) (n c : Nat) (xs : List Value) (w : World) (hy : Lies w (.slice a n c) n xs) (hl : xs.length = n * 1) (h1 : ∀ u ∈ xs, u.oneCell' = true) (hn : n ≤ 8796093022208) : Calls Try.prog 46 #[.slice a n c] w (CopyEnd 9 1 n xs w) := by
  cases a with
  | none =>
    have h0 : n = 0 ∧ xs = [] := by
      rcases hy with ⟨c', e, rfl, rfl⟩ | ⟨ad, c', e, _⟩
      · exact ⟨rfl, rfl⟩
      · cases e
    obtain ⟨rfl, rfl⟩ := h0
    have he : ∀ w : World, (binOp .eql 22 (.slice none 0 c) (.slice none 0 0)).run Try.prog w = .ok (.bool true) w := fun _ => rfl
    go_enter Try.func46, Try.ntmps46
    go_wp2_with fail
    go_ret
    exact ⟨⟨_, rfl, ⟨rfl, .inl ⟨rfl, rfl⟩⟩⟩, Below.refl _ _⟩
  | some a =>
    have he : ∀ w : World, (binOp .eql 22 (.slice (some a) n c) (.slice none 0 0)).run Try.prog w = .ok (.bool false) w := fun _ => rfl
    have hrow := row_lit0 w 9 1 w.heap.size (Nat.le_refl _)
    have hb1 : Below w.heap.size w (w.alloc (.cells #[] 9)) := (Below.refl _ w).alloc (Nat.le_refl _) _
    have hy1 := hy.keep (below_keep hb1)
    go_enter Try.func46, Try.ntmps46
    go_wp2_with (at_builtin; go_loud (refine wpList_appN _ rfl _ _ _ rfl elemN_str w.heap.size _ 0 [] rfl hrow _ rfl n xs hy1 hl h1 (by unfold maxLen; omega) (by omega) hb1.size ?_); intro v' w6 hr6 hs6)
    go_ret
    exact ⟨⟨v', rfl, by simpa using hr6⟩, hb1.trans (hs6.below hb1.size fun j h => by cases h; exact Nat.le_refl _)⟩
set_option maxRecDepth 100000 in
set_option maxHeartbeats 1000000 in
theorem copyI (a : Option Addr) (n c : Nat) (xs : List Value) (w : World) (hy : Lies w (.slice a n c) n xs) (hl : xs.length = n * 2) (h1 : ∀ u ∈ xs, u.oneCell' = true) (hn : n ≤ 8796093022208) : Calls Try.prog 83 #[.slice a n c] w (CopyEnd 51 2 n xs w) := by
  cases a with
  | none =>
    have h0 : n = 0 ∧ xs = [] := by
      rcases hy with ⟨c', e, rfl, rfl⟩ | ⟨ad, c', e, _⟩
      · exact ⟨rfl, rfl⟩
      · cases e
    obtain ⟨rfl, rfl⟩ := h0
    have he : ∀ w : World, (binOp .eql 30 (.slice none 0 c) (.slice none 0 0)).run Try.prog w = .ok (.bool true) w := fun _ => rfl
    go_enter Try.func83, Try.ntmps83
    go_wp2_with fail
    go_ret
    exact ⟨⟨_, rfl, ⟨rfl, .inl ⟨rfl, rfl⟩⟩⟩, Below.refl _ _⟩
  | some a =>
    have he : ∀ w : World, (binOp .eql 30 (.slice (some a) n c) (.slice none 0 0)).run Try.prog w = .ok (.bool false) w := fun _ => rfl
    have hrow := row_lit0 w 51 2 w.heap.size (Nat.le_refl _)
    have hb1 : Below w.heap.size w (w.alloc (.cells #[] 51)) := (Below.refl _ w).alloc (Nat.le_refl _) _
    have hy1 := hy.keep (below_keep hb1)
    go_enter Try.func83, Try.ntmps83
    go_wp2_with (at_builtin; go_loud (refine wpList_appN _ rfl _ _ _ rfl elemN_ins w.heap.size _ 0 [] rfl hrow _ rfl n xs hy1 hl h1 (by unfold maxLen; omega) (by omega) hb1.size ?_); intro v' w6 hr6 hs6)
    go_ret
    exact ⟨⟨v', rfl, by simpa using hr6⟩, hb1.trans (hs6.below hb1.size fun j h => by cases h; exact Nat.le_refl _)⟩
set_option maxRecDepth 100000 in
set_option maxHeartbeats 1000000 in
theorem copyF (a : Option Addr) (n c : Nat) (xs : List Value) (w : World) (hy : Lies w (.slice a n c) n xs) (hl : xs.length = n * 4) (h1 : ∀ u ∈ xs, u.oneCell' = true) (hn : n ≤ 1466015503701) : Calls Try.prog 47 #[.slice a n c] w (CopyEnd 32 4 n xs w) := by
  cases a with
  | none =>
    have h0 : n = 0 ∧ xs = [] := by
      rcases hy with ⟨c', e, rfl, rfl⟩ | ⟨ad, c', e, _⟩
      · exact ⟨rfl, rfl⟩
      · cases e
    obtain ⟨rfl, rfl⟩ := h0
    have he : ∀ w : World, (binOp .eql 23 (.slice none 0 c) (.slice none 0 0)).run Try.prog w = .ok (.bool true) w := fun _ => rfl
    go_enter Try.func47, Try.ntmps47
    go_wp2_with fail
    go_ret
    exact ⟨⟨_, rfl, ⟨rfl, .inl ⟨rfl, rfl⟩⟩⟩, Below.refl _ _⟩
  | some a =>
    have he : ∀ w : World, (binOp .eql 23 (.slice (some a) n c) (.slice none 0 0)).run Try.prog w = .ok (.bool false) w := fun _ => rfl
    have hrow := row_lit0 w 32 4 w.heap.size (Nat.le_refl _)
    have hb1 : Below w.heap.size w (w.alloc (.cells #[] 32)) := (Below.refl _ w).alloc (Nat.le_refl _) _
    have hy1 := hy.keep (below_keep hb1)
    go_enter Try.func47, Try.ntmps47
    go_wp2_with (at_builtin; go_loud (refine wpList_appN _ rfl _ _ _ rfl elemN_fn w.heap.size _ 0 [] rfl hrow _ rfl n xs hy1 hl h1 (by unfold maxLen; omega) (by omega) hb1.size ?_); intro v' w6 hr6 hs6)
    go_ret
    exact ⟨⟨v', rfl, by simpa using hr6⟩, hb1.trans (hs6.below hb1.size fun j h => by cases h; exact Nat.le_refl _)⟩
end Go.Proofs.Ytkbmmaacmofijaa
