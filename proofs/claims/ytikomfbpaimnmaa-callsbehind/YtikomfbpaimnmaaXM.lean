/- Layer 8: rows that are made, and filled place by place. What op's tables come to. What op.Name comes to, of any number; op.Find. -/
import Derived.Test.YtikomfbpaimnmaaXF
import Derived.Test.YtikomfbpaimnmaaChecked
import Derived.WalkKit
import Derived.WalkSpells
import Derived.WalkLawsBesides
import Derived.BigQuiet
import Derived.Deep.QuietTactic
import Derived.Deep.RegionWith
namespace Go.Proofs.Ytikomfbpaimnmaa
open Go.RowKit
/-- Block b holds n cells, those that f tells. -/
def Fill (w : World) (b : Nat) (e : TypeId) (n : Nat) (f : Nat → Value) : Prop := ∃ cur : Array Value, w.heap[b]? = some (.cells cur e (0, 0)) ∧ cur.size = n ∧ ∀ j < n, cur[j]? = some (f j)
theorem Fill.cell {w : World} {b n : Nat} {e : TypeId} {f : Nat → Value} (h : Fill w b e n f) {j : Nat} (hj : j < n) : w.cell? ⟨b, j, none⟩ = some (f j) := by
  obtain ⟨cur, h1, _, h2⟩ := h
  rw [Lib.cell_of_heap h1]; exact h2 j hj
theorem Fill.frozen {w : World} {b n : Nat} {e : TypeId} {f : Nat → Value} (h : Fill w b e n f) (j : Nat) : w.frozen? ⟨b, j, none⟩ = false := by
  obtain ⟨cur, h1, _⟩ := h
  exact Lib.frozen_of_heap h1 j
theorem Fill.lt {w : World} {b n : Nat} {e : TypeId} {f : Nat → Value} (h : Fill w b e n f) : b < w.heap.size := by obtain ⟨cur, h1, _⟩ := h; exact heap_lt h1
theorem Fill.keep {w w' : World} {b n : Nat} {e : TypeId} {f : Nat → Value} (h : Fill w b e n f) (k : w'.heap[b]? = w.heap[b]?) : Fill w' b e n f := by obtain ⟨cur, h1, h2⟩ := h; exact ⟨cur, k.trans h1, h2⟩
theorem Fill.congr {w : World} {b n : Nat} {e : TypeId} {f g : Nat → Value} (h : Fill w b e n f) (k : ∀ j < n, f j = g j) : Fill w b e n g := by obtain ⟨cur, h1, h2, h3⟩ := h; exact ⟨cur, h1, h2, fun j hj => by rw [h3 j hj, k j hj]⟩
theorem Fill.set {w : World} {b n : Nat} {e : TypeId} {f : Nat → Value} (h : Fill w b e n f) (i : Nat) (v : Value) : Fill (w.setCell ⟨b, i, none⟩ v) b e n (fun j => if j = i then v else f j) := by
  obtain ⟨cur, h1, h2, h3⟩ := h
  refine ⟨_, heap_setCell_same _ _ _ _ _ _ h1, by simpa using h2, fun j hj => ?_⟩
  rw [Array.getElem?_setIfInBounds]
  by_cases e : i = j
  · subst e; rw [if_pos rfl, if_pos (by omega)]; simp
  · rw [if_neg e, h3 j hj]; simp [Ne.symm e]
theorem made8 (W : World) (t e : TypeId) (z : Value) (bytes n : Nat) (ht : Try.prog.underlying t = some (.slice e)) (hi : (Try.prog.info? e).map (fun i => (i.zero, i.size, i.bytes)) = some (some z, 1, bytes)) (hz : z.cells = #[z]) (hb : bytes ≤ 100) (hn : n ≤ 100000) :
    ∃ W2, (Instr.makeSlice t (.int .i64 (n : Int)) (.int .i64 (n : Int))).run Try.prog W = .ok (.slice (some ⟨W.heap.size, 0, none⟩) n n) W2 ∧ Fill W2 W.heap.size e n (fun _ => z) ∧ Below W.heap.size W W2 := by
  obtain ⟨i0, hi, hz0, hz1, hz2⟩ := info_parts hi
  obtain ⟨W2, h1, h2, h3⟩ := run_make_full (w := W) W.heap.size t e i0 z 1 ht hi hz0 hz1 .i64 .i64 n (by rw [hz2]; have := Nat.mul_le_mul hb hn; omega) (by unfold maxLen; omega) (Nat.le_refl _)
  refine ⟨W2, h1, ?_, (Below.refl _ W).grown h3 (Nat.le_refl _) (fun k hk => by cases hk)⟩
  rcases h2.2 with ⟨h, _⟩ | ⟨g, cap, cur, hv, _, hg, _, _, hs, ht⟩
  · cases h
  · injection hv with e1 _ e3
    injection e1 with e1
    injection e1 with e1
    subst e1; subst e3
    refine ⟨cur, hg, by omega, fun j hj => ?_⟩
    have e4 : (cur.toList.take (n * 1))[j]? = ((madeCells z.cells (n * 1)).toList)[j]? := by rw [ht]
    rw [List.getElem?_take_of_lt (by omega), Array.getElem?_toList, Array.getElem?_toList] at e4
    rw [e4]
    simp [madeCells, hz, hj, Nat.mod_one]
end Go.Proofs.Ytikomfbpaimnmaa
namespace Go.Proofs.Ytikomfbpaimnmaa
open Go.RowKit

def inTab : List (List Int) := [[], [], [], [], [], [0], [0], [0, 0], [0, 0], [], [0], [1, 1], [1, 1], [1, 1], [1, 1], [1, 1], [1], [1, 1], [1, 1], [1, 1], [1], [1, 1], [1, 1], [1, 1], [1, 1], [1, 1], [1, 1], [1, 1], [1, 1], [3, 3], [3, 3], [3], [2], [2, 2], [2, 1, 1], [2, 1], [2, 2], [2, 2], [1], [2], [1], [2], [2], [2, 2], [2], [2], [2], [], [3], [], [], [], [3], []]
def outTab : List (List Int) := [[], [1], [2], [3], [3], [], [0, 0], [0, 0], [0, 0, 0], [0], [], [1], [1], [1], [1], [1], [1], [1], [1], [1], [1], [1], [1], [3], [3], [3], [3], [3], [3], [3], [3], [3], [1], [2], [2], [1], [3], [3], [2], [1], [2], [2, 3], [3], [], [], [2, 3], [], [], [], [], [], [], [], []]
def costTab : List Int := [0, 1, 1, 1, 1, 1, 1, 1, 1, 1, 1, 1, 1, 2, 4, 4, 1, 1, 1, 1, 1, 1, 1, 1, 1, 1, 1, 1, 1, 1, 1, 1, 1, 6, 6, 2, 4, 4, 3, 3, 2, 20, 15, 30, 25, 20, 10, 1, 1, 1, 1, 2, 1, 5]
def takesTab : List Int := [0, 1, 2, 0, 0, 0, 0, 0, 0, 3, 3, 0, 0, 0, 0, 0, 0, 0, 0, 0, 0, 0, 0, 0, 0, 0, 0, 0, 0, 0, 0, 0, 0, 0, 0, 0, 0, 0, 0, 0, 0, 0, 0, 0, 0, 0, 0, 0, 0, 0, 0, 4, 0, 5]
def nameTab : List (List UInt8) := [[], [105, 110, 116], [99, 111, 110, 115, 116], [116, 114, 117, 101], [102, 97, 108, 115, 101], [100, 114, 111, 112], [100, 117, 112], [115, 119, 97, 112], [111, 118, 101, 114], [103, 101, 116], [115, 101, 116], [97, 100, 100], [115, 117, 98], [109, 117, 108], [100, 105, 118], [114, 101, 109], [110, 101, 103], [97, 110, 100], [111, 114], [120, 111, 114], [105, 110, 118], [115, 104, 108], [115, 104, 114], [101, 113], [110, 101], [108, 116], [108, 101], [103, 116], [103, 101], [98, 111, 116, 104], [101, 105, 116, 104, 101, 114], [110, 111, 116], [108, 101, 110], [106, 111, 105, 110], [99, 117, 116], [97, 116], [115, 97, 109, 101], [108, 101, 115, 115], [112, 97, 99, 107], [117, 110, 112, 97, 99, 107], [111, 110, 101], [108, 111, 97, 100], [104, 97, 115], [115, 97, 118, 101], [119, 105, 112, 101], [110, 101, 120, 116], [101, 109, 105, 116], [97, 98, 111, 114, 116], [105, 102], [101, 108, 115, 101], [101, 110, 100], [108, 111, 111, 112], [108, 101, 97, 118, 101], [99, 97, 108, 108]]
/-- A row of a table, of a number that is an operation. -/
def rowOf {α : Type} (T : List α) (d : α) (n : Int) : α := if 1 ≤ n ∧ n ≤ 53 then T.getD n.toNat d else d
def inT : Int → List Int := rowOf inTab []
def outT : Int → List Int := rowOf outTab []
def costT : Int → Int := rowOf costTab 0
def takesT : Int → Int := rowOf takesTab 0
def nameT : Int → List UInt8 := rowOf nameTab []
theorem rowOf_none {α : Type} (T : List α) (d : α) (n : Int) (h : n < 1 ∨ 53 < n) : rowOf T d n = d := by
  unfold rowOf; rw [if_neg (by omega)]
/-- A new list of numbers: nothing of none. -/
def sliceOf (l : List Int) (w : World) : Value := if l = [] then .slice none 0 0 else .slice (some ⟨w.heap.size, 0, none⟩) l.length l.length
def worldOf (l : List Int) (w : World) : World := if l = [] then w else w.alloc (.cells (l.map fun x => Value.int .i64 x).toArray 3)

theorem op_cases (n : Int) (h : ¬ (n < 1 ∨ 53 < n)) : n = 1 ∨ n = 2 ∨ n = 3 ∨ n = 4 ∨ n = 5 ∨ n = 6 ∨ n = 7 ∨ n = 8 ∨ n = 9 ∨ n = 10 ∨ n = 11 ∨ n = 12 ∨ n = 13 ∨ n = 14 ∨ n = 15 ∨ n = 16 ∨ n = 17 ∨ n = 18 ∨ n = 19 ∨ n = 20 ∨ n = 21 ∨ n = 22 ∨ n = 23 ∨ n = 24 ∨ n = 25 ∨ n = 26 ∨ n = 27 ∨ n = 28 ∨ n = 29 ∨ n = 30 ∨ n = 31 ∨ n = 32 ∨ n = 33 ∨ n = 34 ∨ n = 35 ∨ n = 36 ∨ n = 37 ∨ n = 38 ∨ n = 39 ∨ n = 40 ∨ n = 41 ∨ n = 42 ∨ n = 43 ∨ n = 44 ∨ n = 45 ∨ n = 46 ∨ n = 47 ∨ n = 48 ∨ n = 49 ∨ n = 50 ∨ n = 51 ∨ n = 52 ∨ n = 53 := by omega
def plainB (n : Int) : Bool := decide (3 ≤ n) && decide (n ≤ 4) || decide (11 ≤ n) && decide (n ≤ 40)
theorem plain_cases (n : Int) (h : plainB n = true) : n = 3 ∨ n = 4 ∨ n = 11 ∨ n = 12 ∨ n = 13 ∨ n = 14 ∨ n = 15 ∨ n = 16 ∨ n = 17 ∨ n = 18 ∨ n = 19 ∨ n = 20 ∨ n = 21 ∨ n = 22 ∨ n = 23 ∨ n = 24 ∨ n = 25 ∨ n = 26 ∨ n = 27 ∨ n = 28 ∨ n = 29 ∨ n = 30 ∨ n = 31 ∨ n = 32 ∨ n = 33 ∨ n = 34 ∨ n = 35 ∨ n = 36 ∨ n = 37 ∨ n = 38 ∨ n = 39 ∨ n = 40 := by
  simp [plainB] at h
  omega
end Go.Proofs.Ytikomfbpaimnmaa
namespace Go.Proofs.Ytikomfbpaimnmaa
open Go.RowKit
set_option maxHeartbeats 1000000 in
theorem name_no (n : Int) (w : World) (h : n < 1 ∨ 53 < n) : Calls Try.prog 51 #[.int .i64 n] w fun e w' => e = .returned (.string ⟨(nameT n).toArray⟩) ∧ w' = w := by
  rw [show nameT n = [] from rowOf_none _ _ n h]
  rcases h with h | h
  · have g : n ≤ 10 := by omega
    have e1 : (n == 1) = false := by simp; omega
    have e2 : (n == 2) = false := by simp; omega
    have e3 : (n == 3) = false := by simp; omega
    have e4 : (n == 4) = false := by simp; omega
    have e5 : (n == 5) = false := by simp; omega
    have e6 : (n == 6) = false := by simp; omega
    have e7 : (n == 7) = false := by simp; omega
    have e8 : (n == 8) = false := by simp; omega
    have e9 : (n == 9) = false := by simp; omega
    have e10 : (n == 10) = false := by simp; omega
    go_enter Try.func51, Try.ntmps51
    go_wp2
    go_ret
    exact ⟨rfl, rfl⟩
  · have g1 : ¬ n ≤ 10 := by omega
    have g2 : ¬ n ≤ 28 := by omega
    have g3 : ¬ n ≤ 40 := by omega
    have e41 : (n == 41) = false := by simp; omega
    have e42 : (n == 42) = false := by simp; omega
    have e43 : (n == 43) = false := by simp; omega
    have e44 : (n == 44) = false := by simp; omega
    have e45 : (n == 45) = false := by simp; omega
    have e46 : (n == 46) = false := by simp; omega
    have e47 : (n == 47) = false := by simp; omega
    have e48 : (n == 48) = false := by simp; omega
    have e49 : (n == 49) = false := by simp; omega
    have e50 : (n == 50) = false := by simp; omega
    have e51 : (n == 51) = false := by simp; omega
    have e52 : (n == 52) = false := by simp; omega
    have e53 : (n == 53) = false := by simp; omega
    go_enter Try.func51, Try.ntmps51
    go_wp2
    go_ret
    exact ⟨rfl, rfl⟩
set_option maxHeartbeats 8000000 in
theorem name_in (n : Int) (h : n = 1 ∨ n = 2 ∨ n = 3 ∨ n = 4 ∨ n = 5 ∨ n = 6 ∨ n = 7 ∨ n = 8 ∨ n = 9 ∨ n = 10 ∨ n = 11 ∨ n = 12 ∨ n = 13 ∨ n = 14 ∨ n = 15 ∨ n = 16 ∨ n = 17 ∨ n = 18 ∨ n = 19 ∨ n = 20 ∨ n = 21 ∨ n = 22 ∨ n = 23 ∨ n = 24 ∨ n = 25 ∨ n = 26 ∨ n = 27 ∨ n = 28 ∨ n = 29 ∨ n = 30 ∨ n = 31 ∨ n = 32 ∨ n = 33 ∨ n = 34 ∨ n = 35 ∨ n = 36 ∨ n = 37 ∨ n = 38 ∨ n = 39 ∨ n = 40 ∨ n = 41 ∨ n = 42 ∨ n = 43 ∨ n = 44 ∨ n = 45 ∨ n = 46 ∨ n = 47 ∨ n = 48 ∨ n = 49 ∨ n = 50 ∨ n = 51 ∨ n = 52 ∨ n = 53) (w : World) : Calls Try.prog 51 #[.int .i64 n] w fun e w' => e = .returned (.string ⟨(nameT n).toArray⟩) ∧ w' = w := by
  rcases h with rfl | rfl | rfl | rfl | rfl | rfl | rfl | rfl | rfl | rfl | rfl | rfl | rfl | rfl | rfl | rfl | rfl | rfl | rfl | rfl | rfl | rfl | rfl | rfl | rfl | rfl | rfl | rfl | rfl | rfl | rfl | rfl | rfl | rfl | rfl | rfl | rfl | rfl | rfl | rfl | rfl | rfl | rfl | rfl | rfl | rfl | rfl | rfl | rfl | rfl | rfl | rfl | rfl
  all_goals as_aux_lemma =>
    go_enter Try.func51, Try.ntmps51
    go_wp2
    go_ret
    exact ⟨rfl, rfl⟩
theorem name_any (n : Int) (w : World) : Calls Try.prog 51 #[.int .i64 n] w fun e w' => e = .returned (.string ⟨(nameT n).toArray⟩) ∧ w' = w := by
  by_cases h : n < 1 ∨ 53 < n
  · exact name_no n w h
  · exact name_in n (op_cases n h) w
end Go.Proofs.Ytikomfbpaimnmaa
