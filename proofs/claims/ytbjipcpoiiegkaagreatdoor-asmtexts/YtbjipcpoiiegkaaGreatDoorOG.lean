/- op's fault, number, text, truth. op's number, text, truth. -/
import Derived.Test.YtbjipcpoiiegkaaGreatDoorCR
namespace Go.Proofs.YtbjipcpoiiegkaaGreatDoor
open Go.RowKit
attribute [local go_sem high] eq_val eq_val0

def z0 : Val := ⟨0, 0, []⟩
def A0 (L : List Val) : Val := L.getD 0 z0
def A1 (L : List Val) : Val := L.getD 1 z0
def A2 (L : List Val) : Val := L.getD 2 z0
/-- Why there is no answer. -/
def faultV (n : Int) (L : List Val) : Int :=
  if n = 14 ∨ n = 15 then (if (A1 L).n = 0 then 40 else 0) else if n = 33 then (if (A0 L).b.length + (A1 L).b.length > 256 then 41 else 0) else if n = 39 then (if (A0 L).b.length > 8 then 41 else 0) else
  if n = 34 then (if (0 ≤ (A1 L).n ∧ (A1 L).n ≤ (A2 L).n) ∧ (A2 L).n ≤ (A0 L).b.length then 0 else 42) else if n = 35 then (if 0 ≤ (A1 L).n ∧ (A1 L).n < (A0 L).b.length then 0 else 42) else 0
/-- One value's cells, two, three. -/
theorem Vs.cells {w : World} {a : Option Addr} {L : List Val} (h : Vs w a L) (h0 : 0 < L.length) : ∃ b off, a = some ⟨b, off, none⟩ ∧ (w.cell? ⟨b, off, none⟩ = some (.int .i64 (A0 L).t) ∧ w.cell? ⟨b, off + 1, none⟩ = some (.int .i64 (A0 L).n) ∧ w.cell? ⟨b, off + 2, none⟩ = some (.string ⟨(A0 L).b.toArray⟩)) ∧
    (1 < L.length → w.cell? ⟨b, off + 3, none⟩ = some (.int .i64 (A1 L).t) ∧ w.cell? ⟨b, off + 3 + 1, none⟩ = some (.int .i64 (A1 L).n) ∧ w.cell? ⟨b, off + 3 + 2, none⟩ = some (.string ⟨(A1 L).b.toArray⟩)) ∧
    (2 < L.length → w.cell? ⟨b, off + 6, none⟩ = some (.int .i64 (A2 L).t) ∧ w.cell? ⟨b, off + 6 + 1, none⟩ = some (.int .i64 (A2 L).n) ∧ w.cell? ⟨b, off + 6 + 2, none⟩ = some (.string ⟨(A2 L).b.toArray⟩)) := by
  rcases h with h | ⟨b, off, e, hc⟩
  · subst h; simp at h0
  · refine ⟨b, off, e, ?_, fun h1 => ?_, fun h2 => ?_⟩
    · have := hc 0 h0; simpa [A0, List.getD, h0] using this
    · have := hc 1 h1; simpa [A1, List.getD, h1] using this
    · have := hc 2 h2; simpa [A2, List.getD, h2] using this

/-- Lengths that the operations want. -/
def Long (n : Int) (k : Nat) : Prop := (n = 14 ∨ n = 15 → k = 2) ∧ (n = 33 → k = 2) ∧ (n = 39 → k = 1) ∧ (n = 34 → k = 3) ∧ (n = 35 → k = 2)
end Go.Proofs.YtbjipcpoiiegkaaGreatDoor
namespace Go.Proofs.YtbjipcpoiiegkaaGreatDoor
open Go.RowKit
attribute [local go_sem high] eq_val eq_val0

def numV (n : Int) (L : List Val) : Int :=
  if n = 16 then wrap64 (-(A0 L).n) else if n = 20 then bits .xor .i64 (-1) (A0 L).n else if n = 32 then (A0 L).b.length else if n = 35 then ((A0 L).b.getD (A1 L).n.toNat 0).toNat else if n = 39 then unpackV (A0 L).b else calcV n (A0 L).n (A1 L).n
/-- Operations that answer a number, and what they want. -/
def NumOp (n : Int) (k : Nat) (L : List Val) : Prop := (CalcOp n (A1 L).n ∧ k = 2) ∨ ((n = 16 ∨ n = 20 ∨ n = 32 ∨ n = 39) ∧ k = 1) ∨ (n = 35 ∧ k = 2 ∧ 0 ≤ (A1 L).n ∧ (A1 L).n < (A0 L).b.length)
theorem getD_at (l : List UInt8) (p : Nat) (h : p < l.length) : (⟨l.toArray⟩ : ByteArray)[p]'(by show p < l.toArray.size; simpa using h) = l.getD p 0 := by
  simp [ByteArray.getElem_eq_getElem_data, List.getD, h]
def textV (n : Int) (L : List Val) : List UInt8 :=
  if n = 33 then (A0 L).b ++ (A1 L).b else if n = 34 then ((A0 L).b.take (A2 L).n.toNat).drop (A1 L).n.toNat else if n = 38 then packV (A0 L).n else [UInt8.ofNat ((A0 L).n % 256).toNat]
/-- Operations that answer bytes, and what they want. -/
def TextOp (n : Int) (k : Nat) (L : List Val) : Prop := (n = 33 ∧ k = 2) ∨ (n = 34 ∧ k = 3 ∧ (0 ≤ (A1 L).n ∧ (A1 L).n ≤ (A2 L).n) ∧ (A2 L).n ≤ (A0 L).b.length) ∨ (n = 38 ∧ k = 1) ∨ (n = 40 ∧ k = 1)
theorem conv1 (w : World) (x : Int) (t : TypeId) :
    (convert 73 9 (.slice (some ⟨w.heap.size, 0, none⟩) 1 1)).run Tryz.prog (w.alloc (.cells #[.int .u8 x] t)) = .ok (.string (strOfNums [x])) (w.alloc (.cells #[.int .u8 x] t)) := by
  have h := heap_alloc_new w (.cells #[.int .u8 x] t)
  rw [run_convert_bytes_arg _ 73 5 Tryz.underlying73 Tryz.underlying5 w.heap.size 0 1 1 [x] rfl (fun i hi => ?_) 9 Tryz.underlying9]
  rw [cell_of_row _ _ (0 + i) _ _ (0, 0) h]
  obtain rfl : i = 0 := by omega
  rfl
theorem cut_mid (l : List UInt8) (p q : Nat) : (⟨l.toArray⟩ : ByteArray).extract p q = ⟨((l.take q).drop p).toArray⟩ := by
  apply ByteArray.ext
  rw [ByteArray.data_extract]
  simp [List.extract_eq_take_drop, List.drop_take]
theorem join_two (l m : List UInt8) : (⟨l.toArray⟩ : ByteArray) ++ ⟨m.toArray⟩ = ⟨(l ++ m).toArray⟩ := by
  apply ByteArray.ext
  simp [ByteArray.data_append]
def truthV (n : Int) (L : List Val) : Bool :=
  if n = 3 then true else if n = 4 then false else if n = 29 then (A0 L).n == 1 && (A1 L).n == 1 else if n = 30 then (A0 L).n == 1 || (A1 L).n == 1 else if n = 31 then (A0 L).n == 0 else holdsV n (cmpV (A0 L) (A1 L))
def TruthOp (n : Int) (k : Nat) : Prop := ((n = 3 ∨ n = 4) ∧ k = 0) ∨ ((n = 29 ∨ n = 30 ∨ HoldOp n) ∧ k = 2) ∨ (n = 31 ∧ k = 1)
end Go.Proofs.YtbjipcpoiiegkaaGreatDoor
