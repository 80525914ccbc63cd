/- The document's Match, Depth and Around. -/
import Derived.Test.YtodagpmcmjleaaaDE
import Derived.Test.YtodagpmcmjleaaaSM
import Derived.Test.YtodagpmcmjleaaaSQ
namespace Go.Proofs.Ytodagpmcmjleaaa
open Go.RowKit
theorem good_nil : goodS [] = true := by decide
set_option maxRecDepth 100000 in
set_option maxHeartbeats 1000000 in
theorem rmatch_nil (ca : Option Addr) (cc : Nat) (w : World) : Calls Try.prog 19 #[.slice ca 0 cc] w (MatchEnd [] w) := by
  have hmk := make_run 0 (by omega) w
  have b1 := (Below.refl _ w).alloc (Nat.le_refl _) (.cells (cellsN (fillS 0 0)).toArray 3)
  have n1 : NumBlk w.heap.size (matchS []) (w.alloc (.cells (cellsN (fillS 0 0)).toArray 3)) := heap_alloc_new w _
  generalize w.alloc (.cells (cellsN (fillS 0 0)).toArray 3) = w1 at hmk b1 n1
  have HE : Hid (MatchEnd [] w (.returned (.tuple #[.slice (some ⟨w.heap.size, 0, none⟩) 0 0, .int .i64 0])) w1) := hid6 ⟨by rw [if_pos good_nil]; exact ⟨_, Nat.le_refl _, rfl, n1⟩, b1⟩
  clear b1 n1
  go_enter Try.func19, Try.ntmps19
  have hmk' : Sem.run Try.prog (Instr.makeSlice 23 (.int .i64 0) (.int .i64 0)) w = .ok (.slice (some ⟨w.heap.size, 0, none⟩) 0 0) w1 := hmk
  go_wp2
  go_loopw [5] (fun iv wr => iv = .int .i64 0 ∧ wr = w1) (fun _ _ => 0)
  case atStart => exact ⟨rfl, rfl⟩
  case round =>
    obtain ⟨rfl, rfl⟩ := hrel
    go_wp2
    go_loopw [6] (fun iv w5 => iv = .int .i64 0 ∧ w5 = wr) (fun _ _ => 0)
    case atStart => exact ⟨rfl, rfl⟩
    case round =>
      obtain ⟨rfl, rfl⟩ := hrel
      go_wp2
      go_loopw [9] (fun iv w5 => iv = .int .i64 0 ∧ w5 = wr) (fun _ _ => 0)
      case atStart => exact ⟨rfl, rfl⟩
      case round =>
        obtain ⟨rfl, rfl⟩ := hrel
        go_wp2
        go_loopw [10] (fun iv w5 => iv = .int .i64 0 ∧ w5 = wr) (fun _ _ => 0)
        case atStart => exact ⟨rfl, rfl⟩
        case round =>
          obtain ⟨rfl, rfl⟩ := hrel
          go_wp2
          go_ret2
          exact HE.out
theorem rmatch_any (cs : List (Int × Int)) (ca : Option Addr) (cc n : Nat) (hn : cs.length = n) (bn : n ≤ 1000000) (w : World) (hc : IsAt w.cell? ca cs) : Calls Try.prog 19 #[.slice ca n cc] w (MatchEnd cs w) := by
  by_cases h0 : n = 0
  · subst h0
    have : cs = [] := List.eq_nil_of_length_eq_zero hn
    subst this
    exact rmatch_nil ca cc w
  · obtain ⟨b, off, rfl⟩ := is_some hc (by omega)
    exact rmatch_some cs b off cc n hn bn (by omega) w hc
/-- How deep the document finds them. -/
def docD (op : Nat → Int) : Nat → Nat
  | 0 => 0
  | k + 1 => max (docD op k) ((stk op k).length + (if Opn op k then 1 else 0))
theorem stk_opn {op : Nat → Int} {k : Nat} (h : Opn op k) : (stk op (k + 1)).length = (stk op k).length + 1 := by
  have h' : op k = 48 ∨ op k = 51 := h
  rw [stk, stepS, if_pos h', List.length_append]; rfl
theorem docD_dep (cs : List (Int × Int)) : ∀ k, dep cs k ≤ docD (opA cs) k ∧ docD (opA cs) k ≤ max (dep cs k) (stk (opA cs) k).length
  | 0 => ⟨Nat.le_refl _, Nat.zero_le _⟩
  | k + 1 => by
    obtain ⟨a, b⟩ := docD_dep cs k
    rw [docD, dep, mst_stk]
    by_cases h : Opn (opA cs) k
    · rw [if_pos h, stk_opn h]; omega
    · rw [if_neg h]; omega
theorem docD_all {cs : List (Int × Int)} (N : Nest (opA cs) cs.length) : docD (opA cs) cs.length = dep cs cs.length := by
  have := docD_dep cs cs.length
  rw [N.nil] at this
  simp only [List.length_nil] at this
  omega
theorem docD_le (op : Nat → Int) : ∀ k, docD op k ≤ k
  | 0 => Nat.le_refl _
  | k + 1 => by
    have := docD_le op k
    have := stk_len (op := op) k
    rw [docD]
    split <;> omega
end Go.Proofs.Ytodagpmcmjleaaa
