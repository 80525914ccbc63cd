/- law06: num, knows. -/
import Derived.Test.YtodagpmcmjleaaaSJ
import Derived.Test.YtodagpmcmjleaaaCL
namespace Go.Proofs.Ytodagpmcmjleaaa
open Go.RowKit
def kA : List (Int × Int) := [(48, 0), (49, 0), (50, 0)]
def kB : List (Int × Int) := [(51, 1), (52, 0), (50, 0)]
theorem goodA : goodS kA = true := by decide
theorem goodB : goodS kB = true := by decide
theorem matchA : matchS kA = [1, 2, 0] := by decide
theorem matchB : matchS kB = [2, 2, 0] := by decide
theorem six_cells {w : World} {b : Nat} {a0 a1 a2 a3 a4 a5 : Int} (h : w.heap[b]? = some (.cells #[.int .i64 a0, .int .i64 a1, .int .i64 a2, .int .i64 a3, .int .i64 a4, .int .i64 a5] 35 (0, 0))) : ∀ j (hj : j < [(a0, a1), (a2, a3), (a4, a5)].length), w.cell? ⟨b, 0 + j * 2, none⟩ = some (.int .i64 [(a0, a1), (a2, a3), (a4, a5)][j].1) ∧ w.cell? ⟨b, 0 + j * 2 + 1, none⟩ = some (.int .i64 [(a0, a1), (a2, a3), (a4, a5)][j].2) := by
  intro j hj
  rcases j with _ | _ | _ | j
  · simp [World.cell?, h]
  · simp [World.cell?, h]
  · simp [World.cell?, h]
  · simp at hj; omega
theorem NumBlk.ns {g : Nat} {ms : List Int} {W : World} (h : NumBlk g ms W) : NsAt W.cell? (some ⟨g, 0, none⟩) ms := .inr ⟨g, 0, rfl, fun j hj => by rw [Nat.zero_add]; exact (h.at j hj).1⟩
theorem NumBlk.keep {g : Nat} {ms : List Int} {W W' : World} (h : NumBlk g ms W) (hb : Below W.heap.size W W') : NumBlk g ms W' := (hb.block _ (blk_lt h)).trans h
theorem matchK (cs : List (Int × Int)) (hg : goodS cs = true) (hn : cs.length ≤ 1000) (b : Nat) (w : World) (hc : ∀ j (h : j < cs.length), w.cell? ⟨b, 0 + j * 2, none⟩ = some (.int .i64 cs[j].1) ∧ w.cell? ⟨b, 0 + j * 2 + 1, none⟩ = some (.int .i64 cs[j].2)) : Calls Try.prog 16 #[.slice (some ⟨b, 0, none⟩) cs.length cs.length] w fun e w' => ∃ g, e = .returned (.tuple #[.slice (some ⟨g, 0, none⟩) cs.length cs.length, .int .i64 0]) ∧ NumBlk g (matchS cs) w' ∧ Below w.heap.size w w' := by
  refine (match_any cs (some ⟨b, 0, none⟩) cs.length b 0 (.inr rfl) (by omega) w hc).mono ?_
  rintro e w' ⟨h1, h2⟩
  rw [if_pos hg] at h1
  obtain ⟨g, _, he, hN⟩ := h1
  exact ⟨g, he, hN, h2⟩
end Go.Proofs.Ytodagpmcmjleaaa
