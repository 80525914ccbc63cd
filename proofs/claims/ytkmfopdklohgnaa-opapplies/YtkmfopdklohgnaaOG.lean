/- op's fault, number, text, truth. -/
import Derived.Test.YtkmfopdklohgnaaOF
namespace Go.Proofs.Ytkmfopdklohgnaa
open Go.RowKit
attribute [local go_sem high] eq_val eq_val0

def z0 : Val := ⟨0, 0, []⟩
def A0 (L : List Val) : Val := L.getD 0 z0
def A1 (L : List Val) : Val := L.getD 1 z0
def A2 (L : List Val) : Val := L.getD 2 z0
/-- Why there is no answer. -/
def faultV (n : Int) (L : List Val) : Int :=
  if n = 14 ∨ n = 15 then (if (A1 L).n = 0 then 40 else 0) else if n = 33 then (if (A0 L).b.length + (A1 L).b.length > 256 then 41 else 0) else if n = 39 then (if (A0 L).b.length > 8 then 41 else 0) else
  if n = 34 then (if (0 ≤ (A1 L).n ∧ (A1 L).n ≤ (A2 L).n) ∧ (A2 L).n ≤ (A0 L).b.length then 0 else 42) else if n = 35 then (if 0 ≤ (A1 L).n ∧ (A1 L).n < (A0 L).b.length then 0 else 42) else 0
/-- One value's cells, two, three. -/
theorem Vs.cells {w : World} {a : Option Addr} {L : List Val} (h : Vs w a L) (h0 : 0 < L.length) : ∃ b off, a = some ⟨b, off, none⟩ ∧ (w.cell? ⟨b, off, none⟩ = some (.int .i64 (A0 L).t) ∧ w.cell? ⟨b, off + 1, none⟩ = some (.int .i64 (A0 L).n) ∧ w.cell? ⟨b, off + 2, none⟩ = some (.string ⟨(A0 L).b.toArray⟩)) ∧
    (1 < L.length → w.cell? ⟨b, off + 3, none⟩ = some (.int .i64 (A1 L).t) ∧ w.cell? ⟨b, off + 3 + 1, none⟩ = some (.int .i64 (A1 L).n) ∧ w.cell? ⟨b, off + 3 + 2, none⟩ = some (.string ⟨(A1 L).b.toArray⟩)) ∧
    (2 < L.length → w.cell? ⟨b, off + 6, none⟩ = some (.int .i64 (A2 L).t) ∧ w.cell? ⟨b, off + 6 + 1, none⟩ = some (.int .i64 (A2 L).n) ∧ w.cell? ⟨b, off + 6 + 2, none⟩ = some (.string ⟨(A2 L).b.toArray⟩)) := by
  rcases h with h | ⟨b, off, e, hc⟩
  · subst h; simp at h0
  · refine ⟨b, off, e, ?_, fun h1 => ?_, fun h2 => ?_⟩
    · have := hc 0 h0; simpa [A0, List.getD, h0] using this
    · have := hc 1 h1; simpa [A1, List.getD, h1] using this
    · have := hc 2 h2; simpa [A2, List.getD, h2] using this

theorem fault_plain (n : Int) (a : Option Addr) (k c : Nat) (w : World) (h : ¬ (n = 14 ∨ n = 15 ∨ n = 33 ∨ n = 39 ∨ n = 34 ∨ n = 35)) : Calls Try.prog 13 #[.int .i64 n, .slice a k c] w fun e w' => e = .returned (.int .i64 0) ∧ w' = w := by
  have e1 : (n == 14) = false := by simp; omega
  have e2 : (n == 15) = false := by simp; omega
  have e3 : (n == 33) = false := by simp; omega
  have e4 : (n == 39) = false := by simp; omega
  have e5 : (n == 34) = false := by simp; omega
  have e6 : (n == 35) = false := by simp; omega
  go_enter Try.func13, Try.ntmps13
  go_wp2
  go_ret
  exact ⟨rfl, rfl⟩
/-- Lengths that the operations want. -/
def Long (n : Int) (k : Nat) : Prop := (n = 14 ∨ n = 15 → k = 2) ∧ (n = 33 → k = 2) ∧ (n = 39 → k = 1) ∧ (n = 34 → k = 3) ∧ (n = 35 → k = 2)
set_option maxHeartbeats 4000000 in
theorem fault_any (n : Int) (a : Option Addr) (k c : Nat) (L : List Val) (hk : L.length = k) (w : World) (hV : Vs w a L) (hl : Long n k) (hs : ∀ x ∈ L, x.b.length ≤ 256) : Calls Try.prog 13 #[.int .i64 n, .slice a k c] w fun e w' => e = .returned (.int .i64 (faultV n L)) ∧ Below w.heap.size w w' := by
  by_cases hp : ¬ (n = 14 ∨ n = 15 ∨ n = 33 ∨ n = 39 ∨ n = 34 ∨ n = 35)
  · refine (fault_plain n a k c w hp).mono ?_
    rintro e w' ⟨rfl, rfl⟩
    refine ⟨?_, Below.refl _ _⟩
    unfold faultV
    rw [if_neg (by omega), if_neg (by omega), if_neg (by omega), if_neg (by omega), if_neg (by omega)]
  · replace hp : n = 14 ∨ n = 15 ∨ n = 33 ∨ n = 39 ∨ n = 34 ∨ n = 35 := Classical.not_not.1 hp
    have h0 : 0 < L.length := by rcases hp with rfl | rfl | rfl | rfl | rfl | rfl <;> (simp [Long] at hl; omega)
    have b0 : (A0 L).b.length ≤ 256 := by
      have : A0 L = L[0] := by simp [A0, List.getD, h0]
      rw [this]; exact hs _ (List.getElem_mem _)
    have b1 : (A1 L).b.length ≤ 256 := by
      by_cases h1 : 1 < L.length
      · have : A1 L = L[1] := by simp [A1, List.getD, h1]
        rw [this]; exact hs _ (List.getElem_mem _)
      · have : A1 L = z0 := by simp [A1, List.getD, show L.length ≤ 1 by omega]
        rw [this]; simp [z0]
    obtain ⟨b, off, rfl, ⟨c00, c01, c02⟩, C1, C2⟩ := hV.cells h0
    unfold faultV
    generalize A0 L = x at *
    generalize A1 L = y at *
    generalize A2 L = z at *
    obtain ⟨xt, xn, xb⟩ := x
    obtain ⟨yt, yn, yb⟩ := y
    obtain ⟨zt, zn, zb⟩ := z
    simp only at c00 c01 c02 C1 C2 b0 b1
    rcases hp with rfl | rfl | rfl | rfl | rfl | rfl
    · obtain rfl : k = 2 := hl.1 (by decide)
      obtain ⟨c10, c11, c12⟩ := C1 (by omega)
      clear C1 C2 hV hs hl
      by_cases hy : yn = 0
      · subst hy
        go_enter Try.func13, Try.ntmps13
        go_wp2
        go_ret
        exact ⟨rfl, Below.refl _ _⟩
      · have hy' : (yn == 0) = false := by simp [hy]
        go_enter Try.func13, Try.ntmps13
        go_wp2
        go_ret
        exact ⟨by simp, Below.refl _ _⟩
    · obtain rfl : k = 2 := hl.1 (by decide)
      obtain ⟨c10, c11, c12⟩ := C1 (by omega)
      clear C1 C2 hV hs hl
      by_cases hy : yn = 0
      · subst hy
        go_enter Try.func13, Try.ntmps13
        go_wp2
        go_ret
        exact ⟨rfl, Below.refl _ _⟩
      · have hy' : (yn == 0) = false := by simp [hy]
        go_enter Try.func13, Try.ntmps13
        go_wp2
        go_ret
        exact ⟨by simp, Below.refl _ _⟩
    · obtain rfl : k = 2 := hl.2.1 rfl
      obtain ⟨c10, c11, c12⟩ := C1 (by omega)
      clear C1 C2 hV hs hl
      by_cases hy : xb.length + yb.length > 256
      · have hy' : (256 : Int) < (xb.length : Int) + (yb.length : Int) := by omega
        go_enter Try.func13, Try.ntmps13
        go_wp2
        go_quiet (fail)
        go_wp2
        go_ret
        exact ⟨by simp, below_draws (Below.refl _ _) _⟩
      · have hy' : (xb.length : Int) + (yb.length : Int) ≤ 256 := by omega
        go_enter Try.func13, Try.ntmps13
        go_wp2
        go_quiet (fail)
        go_wp2
        go_ret
        exact ⟨by simp, below_draws (Below.refl _ _) _⟩
    · obtain rfl : k = 1 := hl.2.2.1 rfl
      clear C1 C2 hV hs hl
      by_cases hy : xb.length > 8
      · have hy' : (8 : Int) < (xb.length : Int) := by omega
        go_enter Try.func13, Try.ntmps13
        go_wp2
        go_ret
        exact ⟨by simp, Below.refl _ _⟩
      · have hy' : (xb.length : Int) ≤ 8 := by omega
        go_enter Try.func13, Try.ntmps13
        go_wp2
        go_ret
        exact ⟨by simp, Below.refl _ _⟩
    · obtain rfl : k = 3 := hl.2.2.2.1 rfl
      obtain ⟨c10, c11, c12⟩ := C1 (by omega)
      obtain ⟨c20, c21, c22⟩ := C2 (by omega)
      clear C1 C2 hV hs hl
      have HE : Hid ((0 ≤ yn ∧ yn ≤ zn) ∧ zn ≤ (xb.length : Int) ∨ (yn < 0 ∨ zn < yn) ∨ (xb.length : Int) < zn) := hidV (by omega)
      go_enter Try.func13, Try.ntmps13
      go_wp2
      go_quiet (fail)
      go_wp2
      all_goals (go_ret; exact ⟨by first | rfl | (rw [if_neg (by omega), if_neg (by omega), if_neg (by omega), if_pos rfl, if_pos (by omega)]; rfl) | (rw [if_neg (by omega), if_neg (by omega), if_neg (by omega), if_pos rfl, if_neg (by omega)]; rfl), below_draws (Below.refl _ _) _⟩)
    · obtain rfl : k = 2 := hl.2.2.2.2 rfl
      obtain ⟨c10, c11, c12⟩ := C1 (by omega)
      clear C1 C2 hV hs hl
      go_enter Try.func13, Try.ntmps13
      go_wp2
      all_goals (first | (go_quiet (fail); go_wp2) | skip)
      all_goals (go_ret; exact ⟨by first | rfl | (rw [if_neg (by omega), if_neg (by omega), if_neg (by omega), if_neg (by omega), if_pos rfl, if_pos (by omega)]; rfl) | (rw [if_neg (by omega), if_neg (by omega), if_neg (by omega), if_neg (by omega), if_pos rfl, if_neg (by omega)]; rfl), by first | exact below_draws (Below.refl _ _) _ | exact Below.refl _ _⟩)
end Go.Proofs.Ytkmfopdklohgnaa
