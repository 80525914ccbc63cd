/- Match of a row that Own made; the law ShapeWays. As OBase, for the rows of layer 4 (without value). What the bound on the arguments' bulk gives. -/
import Derived.Test.YtodagpmcmjleaaaSW
import Derived.Test.YtodagpmcmjleaaaLNexts
import Derived.Test.YtodagpmcmjleaaaRows
import Derived.Test.YtodagpmcmjleaaaCB
import Derived.ProofKit
import Derived.OpenShut
import Derived.Deep.DeepHandedRow
import Derived.Lib.LaidTab
import Derived.Lib.SmallJoins
import Derived.SizedLaws
import Derived.Deep.SlicePairs
import Derived.ChangeMaps5
namespace Go.Proofs.Ytodagpmcmjleaaa
open Go.RowKit
theorem match_is (cs : List (Int × Int)) (a : Option Addr) (c n : Nat) (hn : cs.length = n) (_hc : n ≤ c) (bn : n ≤ 9000000000000) (w : World) (h : IsAt w.cell? a cs) : Calls Try.prog 16 #[.slice a n c] w (MatchEnd cs w) := by
  subst hn
  rcases h with rfl | ⟨b, off, rfl, hh⟩
  · exact match_any [] a c 0 0 (.inl rfl) bn w (fun j h => by cases h)
  · exact match_any cs _ c b off (.inr rfl) bn w hh
theorem ins_row {cs : List (Int × Int)} {a : Option Addr} {c n : Nat} {B : Nat} {W W' : World} (h : W.ownsRow B 35 2 (.slice a n c) n (cellsI cs)) (hb : Below W.heap.size W W') : IsAt W'.cell? a cs := by
  obtain ⟨_, a2, c2, e2, _, hI⟩ := is_of_row h (C := W'.cell?) (fun x v _ hv => (hb.cell (World.block_lt_of_cell? W x hv)).trans hv)
  cases e2
  exact hI
theorem way_place (k : Int) (n : Nat) (h1 : 1 ≤ n) (h2 : n ≤ 1048576) : ∃ j : Nat, (wrap64 (k.tmod (n : Int) + (n : Int))).tmod (n : Int) = j ∧ j < n := by
  have ha : (k.tmod (n : Int)).natAbs = k.natAbs % n := by rw [Int.natAbs_tmod]; simp
  have hb : k.natAbs % n < n := Nat.mod_lt _ (by omega)
  generalize k.tmod (n : Int) = x at *
  have e : wrap64 (x + n) = x + n := by unfold wrap64; omega
  rw [e, Int.tmod_eq_emod_of_nonneg (by omega)]
  have c1 := Int.emod_nonneg (x + n) (by omega : (n : Int) ≠ 0)
  have c2 := Int.emod_lt_of_pos (x + n) (by omega : 0 < (n : Int))
  exact ⟨((x + n) % n).toNat, by omega, by omega⟩
/-- Where one comes to from a place of good shape. -/
theorem next_way {cs : List (Int × Int)} (hg : goodS cs = true) {k : Nat} (hk : k < cs.length) (yes : Bool) :
    if opA cs k = 50 ∧ yes = true then (∃ j : Nat, (matchS cs).getD k 0 = j ∧ nextS cs (matchS cs) k yes = j + 1) ∧ nextS cs (matchS cs) k yes ≤ k else (k : Int) < nextS cs (matchS cs) k yes ∧ nextS cs (matchS cs) k yes ≤ cs.length := by
  obtain ⟨f1, f2⟩ := match_facts hg hk
  have hl := matchS_len cs
  have e : nextS cs (matchS cs) k yes = if asksS (opA cs k) yes = true then (if 0 ≤ (matchS cs).getD k 0 ∧ (matchS cs).getD k 0 < cs.length then (matchS cs).getD k 0 + 1 else -1) else (k : Int) + 1 := by
    unfold nextS
    rw [if_pos (by omega), Int.toNat_natCast]
    rfl
  rw [e]
  generalize opA cs k = o at *
  generalize (matchS cs).getD k 0 = m at *
  by_cases h50 : o = 50
  · have f1 := f1 h50
    subst h50
    cases yes with
    | true =>
      rw [if_pos ⟨rfl, rfl⟩, if_pos (by decide), if_pos (by omega)]
      exact ⟨⟨m.toNat, by omega, by omega⟩, by omega⟩
    | false =>
      rw [if_neg (by simp), if_neg (by decide)]
      omega
  · rw [if_neg (fun h => h50 h.1)]
    by_cases h2 : o = 48 ∨ o = 49 ∨ o = 51 ∨ o = 52
    · have f2 := f2 h2
      split
      · rw [if_pos (by omega)]; omega
      · omega
    · have : asksS o yes = false := by
        unfold asksS
        rw [if_neg (by omega), if_neg (by omega), if_neg (by omega)]
      rw [this, if_neg (by decide)]
      omega
end Go.Proofs.Ytodagpmcmjleaaa
namespace Go.Proofs.Ytodagpmcmjleaaa
set_option maxRecDepth 100000
open Go.ChangeShapes Go.WideShapes Go.ChangeAt Go.RowKit

theorem own : ownKnob Try.prog.godebug = none := by kernel_rfl
theorem laidOut : laidOutB Try.prog = true := by kernel_rfl
/-- A world for the witness: the settled one. -/
noncomputable def laidWorld (os : Os) : World := World.holding Try.prog os ⟨#[], #[], []⟩
theorem laid_met (os : Os) (args : Array Value) : laidMet Try.prog [] ((laidWorld os).forCall (fun _ _ => 0) ⟨#[], args, []⟩).memory :=
  laidMet_of_run' 20 (by kernel_rfl) (by kernel_rfl)
theorem int_wf {x : Int} (h : (Lit.int .i64 x).wf = true) : -9223372036854775808 ≤ x ∧ x ≤ 9223372036854775807 := by
  have h1 : IntKind.i64.min = -9223372036854775808 := rfl
  have h2 : IntKind.i64.max = 9223372036854775807 := rfl
  simp only [Lit.wf, Bool.and_eq_true, decide_eq_true_eq] at h
  omega
theorem open_txt {H : Type} {enc : TypeId × Value → H} {W : World} {base : Nat} {v : Value} {d : DataW H} {ps : List MemPlace} (hval : Value.okWide Try.prog W .any base 9 v) (hd : DataW.Trod enc Try.prog W 0 (fun _ => true) true 9 v d ps) : ∃ l : List UInt8, v = .string ⟨l.toArray⟩ ∧ l.length ≤ maxLen := by
  obtain ⟨s, rfl, rfl, rfl, hs⟩ := Go.ChangeMaps.open_string Try.underlying9 hval hd
  obtain ⟨⟨l⟩⟩ := s
  exact ⟨l, rfl, hs⟩
end Go.Proofs.Ytodagpmcmjleaaa
namespace Go.Proofs.Ytodagpmcmjleaaa.bulks

theorem pos {H : Type} (d : DataW H) : 1 ≤ Rows.uptoBulk d := by
  cases d with
  | lit l => cases l <;> simp [Rows.uptoBulk]
  | _ => simp [Rows.uptoBulk]
theorem many {H : Type} (l : List (DataW H)) : l.length ≤ Rows.uptoBulkAll l := by
  induction l with
  | nil => exact Nat.zero_le _
  | cons x r ih => have := pos x; simp only [Rows.uptoBulkAll, List.length_cons]; omega
theorem within {H : Type} {d : DataW H} {l : List (DataW H)} (h : d ∈ l) : Rows.uptoBulk d ≤ Rows.uptoBulkAll l := by
  induction l with
  | nil => cases h
  | cons x r ih =>
    simp only [Rows.uptoBulkAll]
    rcases List.mem_cons.1 h with e | e
    · subst e; omega
    · have := ih e; omega
theorem bound {H : Type} {l : List (DataW H)} (hk : Rows.uptoSmall H l = true) : Rows.uptoBulkAll l ≤ 1048576 := of_decide_eq_true hk
/-- A slice that came in: its places. -/
theorem places {H : Type} {l : List (DataW H)} {d : DataW H} {cap : Nat} (hb : Rows.uptoBulkAll l ≤ 1048576) (hm : d ∈ l) (h : (d = .nil ∧ cap = 0) ∨ ∃ el sp, d = .slice el sp ∧ el.length + sp.length = cap) : cap ≤ 1048576 := by
  rcases h with ⟨_, rfl⟩ | ⟨el, sp, rfl, rfl⟩
  · exact Nat.zero_le _
  · have h1 := within hm
    have h2 := many el
    have h3 := many sp
    simp only [Rows.uptoBulk] at h1
    omega
end Go.Proofs.Ytodagpmcmjleaaa.bulks
