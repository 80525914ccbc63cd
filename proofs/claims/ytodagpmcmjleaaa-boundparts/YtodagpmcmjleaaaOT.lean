/- What op's tables come to. -/
import Derived.Test.YtodagpmcmjleaaaChecked
import Derived.WalkKit
import Derived.WalkSpells
import Derived.WalkLawsBesides
import Derived.BigQuiet
import Derived.Deep.QuietTactic
import Derived.Deep.RegionWith
namespace Go.Proofs.Ytodagpmcmjleaaa
open Go.RowKit

def inTab : List (List Int) := [[], [], [], [], [], [0], [0], [0, 0], [0, 0], [], [0], [1, 1], [1, 1], [1, 1], [1, 1], [1, 1], [1], [1, 1], [1, 1], [1, 1], [1], [1, 1], [1, 1], [1, 1], [1, 1], [1, 1], [1, 1], [1, 1], [1, 1], [3, 3], [3, 3], [3], [2], [2, 2], [2, 1, 1], [2, 1], [2, 2], [2, 2], [1], [2], [1], [2], [2], [2, 2], [2], [2], [2], [], [3], [], [], [], [3], []]
def outTab : List (List Int) := [[], [1], [2], [3], [3], [], [0, 0], [0, 0], [0, 0, 0], [0], [], [1], [1], [1], [1], [1], [1], [1], [1], [1], [1], [1], [1], [3], [3], [3], [3], [3], [3], [3], [3], [3], [1], [2], [2], [1], [3], [3], [2], [1], [2], [2, 3], [3], [], [], [2, 3], [], [], [], [], [], [], [], []]
def costTab : List Int := [0, 1, 1, 1, 1, 1, 1, 1, 1, 1, 1, 1, 1, 2, 4, 4, 1, 1, 1, 1, 1, 1, 1, 1, 1, 1, 1, 1, 1, 1, 1, 1, 1, 6, 6, 2, 4, 4, 3, 3, 2, 20, 15, 30, 25, 20, 10, 1, 1, 1, 1, 2, 1, 5]
def takesTab : List Int := [0, 1, 2, 0, 0, 0, 0, 0, 0, 3, 3, 0, 0, 0, 0, 0, 0, 0, 0, 0, 0, 0, 0, 0, 0, 0, 0, 0, 0, 0, 0, 0, 0, 0, 0, 0, 0, 0, 0, 0, 0, 0, 0, 0, 0, 0, 0, 0, 0, 0, 0, 4, 0, 5]
def nameTab : List (List UInt8) := [[], [105, 110, 116], [99, 111, 110, 115, 116], [116, 114, 117, 101], [102, 97, 108, 115, 101], [100, 114, 111, 112], [100, 117, 112], [115, 119, 97, 112], [111, 118, 101, 114], [103, 101, 116], [115, 101, 116], [97, 100, 100], [115, 117, 98], [109, 117, 108], [100, 105, 118], [114, 101, 109], [110, 101, 103], [97, 110, 100], [111, 114], [120, 111, 114], [105, 110, 118], [115, 104, 108], [115, 104, 114], [101, 113], [110, 101], [108, 116], [108, 101], [103, 116], [103, 101], [98, 111, 116, 104], [101, 105, 116, 104, 101, 114], [110, 111, 116], [108, 101, 110], [106, 111, 105, 110], [99, 117, 116], [97, 116], [115, 97, 109, 101], [108, 101, 115, 115], [112, 97, 99, 107], [117, 110, 112, 97, 99, 107], [111, 110, 101], [108, 111, 97, 100], [104, 97, 115], [115, 97, 118, 101], [119, 105, 112, 101], [110, 101, 120, 116], [101, 109, 105, 116], [97, 98, 111, 114, 116], [105, 102], [101, 108, 115, 101], [101, 110, 100], [108, 111, 111, 112], [108, 101, 97, 118, 101], [99, 97, 108, 108]]
/-- A row of a table, of a number that is an operation. -/
def rowOf {α : Type} (T : List α) (d : α) (n : Int) : α := if 1 ≤ n ∧ n ≤ 53 then T.getD n.toNat d else d
def inT : Int → List Int := rowOf inTab []
def outT : Int → List Int := rowOf outTab []
def costT : Int → Int := rowOf costTab 0
def takesT : Int → Int := rowOf takesTab 0
def nameT : Int → List UInt8 := rowOf nameTab []
theorem rowOf_none {α : Type} (T : List α) (d : α) (n : Int) (h : n < 1 ∨ 53 < n) : rowOf T d n = d := by
  unfold rowOf; rw [if_neg (by omega)]
/-- A new list of numbers: nothing of none. -/
def sliceOf (l : List Int) (w : World) : Value := if l = [] then .slice none 0 0 else .slice (some ⟨w.heap.size, 0, none⟩) l.length l.length
def worldOf (l : List Int) (w : World) : World := if l = [] then w else w.alloc (.cells (l.map fun x => Value.int .i64 x).toArray 3)

theorem op_cases (n : Int) (h : ¬ (n < 1 ∨ 53 < n)) : n = 1 ∨ n = 2 ∨ n = 3 ∨ n = 4 ∨ n = 5 ∨ n = 6 ∨ n = 7 ∨ n = 8 ∨ n = 9 ∨ n = 10 ∨ n = 11 ∨ n = 12 ∨ n = 13 ∨ n = 14 ∨ n = 15 ∨ n = 16 ∨ n = 17 ∨ n = 18 ∨ n = 19 ∨ n = 20 ∨ n = 21 ∨ n = 22 ∨ n = 23 ∨ n = 24 ∨ n = 25 ∨ n = 26 ∨ n = 27 ∨ n = 28 ∨ n = 29 ∨ n = 30 ∨ n = 31 ∨ n = 32 ∨ n = 33 ∨ n = 34 ∨ n = 35 ∨ n = 36 ∨ n = 37 ∨ n = 38 ∨ n = 39 ∨ n = 40 ∨ n = 41 ∨ n = 42 ∨ n = 43 ∨ n = 44 ∨ n = 45 ∨ n = 46 ∨ n = 47 ∨ n = 48 ∨ n = 49 ∨ n = 50 ∨ n = 51 ∨ n = 52 ∨ n = 53 := by omega
def plainB (n : Int) : Bool := decide (3 ≤ n) && decide (n ≤ 4) || decide (11 ≤ n) && decide (n ≤ 40)
theorem plain_cases (n : Int) (h : plainB n = true) : n = 3 ∨ n = 4 ∨ n = 11 ∨ n = 12 ∨ n = 13 ∨ n = 14 ∨ n = 15 ∨ n = 16 ∨ n = 17 ∨ n = 18 ∨ n = 19 ∨ n = 20 ∨ n = 21 ∨ n = 22 ∨ n = 23 ∨ n = 24 ∨ n = 25 ∨ n = 26 ∨ n = 27 ∨ n = 28 ∨ n = 29 ∨ n = 30 ∨ n = 31 ∨ n = 32 ∨ n = 33 ∨ n = 34 ∨ n = 35 ∨ n = 36 ∨ n = 37 ∨ n = 38 ∨ n = 39 ∨ n = 40 := by
  simp [plainB] at h
  omega
end Go.Proofs.Ytodagpmcmjleaaa
