/- Layer 15: how what came in is read; the rows' base. -/
import Derived.Test.YtghhhlbpolhkhaaRows
import Derived.Test.YtghhhlbpolhkhaaET
import Derived.ProofKit
import Derived.OpenShut
import Derived.Deep.DeepHandedRow
import Derived.Lib.LaidTab
import Derived.Lib.SmallJoins
import Derived.SizedLaws
import Derived.Deep.SlicePairs
import Derived.ChangeMaps5
namespace Go.Proofs.Ytghhhlbpolhkhaa
set_option maxRecDepth 100000
open Go.ChangeShapes Go.WideShapes Go.ChangeAt Go.RowKit

theorem own : ownKnob Try.prog.godebug = none := by kernel_rfl
theorem laidOut : laidOutB Try.prog = true := by kernel_rfl
/-- A world for the witness: the settled one. -/
noncomputable def laidWorld (os : Os) : World := World.holding Try.prog os ⟨#[], #[], []⟩
theorem laid_met (os : Os) (args : Array Value) : laidMet Try.prog [] ((laidWorld os).forCall (fun _ _ => 0) ⟨#[], args, []⟩).memory :=
  laidMet_of_run' 20 (by kernel_rfl) (by kernel_rfl)
theorem int_wfK {x : Int} (h : (Lit.int .i64 x).wf = true) : -9223372036854775808 ≤ x ∧ x ≤ 9223372036854775807 := by
  have h1 : IntKind.i64.min = -9223372036854775808 := rfl
  have h2 : IntKind.i64.max = 9223372036854775807 := rfl
  simp only [Lit.wf, Bool.and_eq_true, decide_eq_true_eq] at h
  omega
/-- An op: what is done, a place, a file, bytes. -/
structure Opn where
  (kd nn : Int) (k v : Bt)
def Opn.ok (o : Opn) : Prop := (-9223372036854775808 ≤ o.kd ∧ o.kd ≤ 9223372036854775807) ∧ (-9223372036854775808 ≤ o.nn ∧ o.nn ≤ 9223372036854775807) ∧ o.k.length ≤ maxLen ∧ o.v.length ≤ maxLen
/-- An op that came in. -/
theorem open_op {H : Type} {enc : TypeId × Value → H} {W : World} {base : Nat} {v : Value} {d : DataW H} {ps : List MemPlace} (hval : Value.okWide Try.prog W .any base 24 v) (h : DataW.Trod enc Try.prog W 0 (fun _ => true) true 24 v d ps) :
    ∃ (o : Opn) (a : Option Addr) (n c : Nat), v = .agg #[.int .i64 o.kd, .int .i64 o.nn, sv o.k, sv o.v, .slice a n c] ∧ o.ok := by
  obtain ⟨cs, rfl, hsz⟩ := okWide_struct Try.underlying24 hval
  obtain ⟨fuel, hf⟩ := h
  have hsz' : cs.size = 5 := hsz.trans (by kernel_rfl)
  obtain ⟨l⟩ := cs
  have hl : l.length = 5 := by simpa using hsz'
  match l, hl with
  | [v0, v1, v2, v3, v4], _ =>
    obtain ⟨xs, k, hk, hxy, _, hxl, hg⟩ := DataW.trod_struct Try.underlying24 hf
    match xs, hxl with
    | [y0, y1, y2, y3, y4], _ =>
      have g0 := hg 0 _ rfl
      have g1 := hg 1 _ rfl
      have g2 := hg 2 _ rfl
      have g3 := hg 3 _ rfl
      have g4 := hg 4 _ rfl
      have ci : Try.prog.cellsOf 3 = 1 := by kernel_rfl
      have cS : Try.prog.cellsOf 9 = 1 := by kernel_rfl
      have cI : Try.prog.cellsOf 22 = 1 := by kernel_rfl
      simp [Value.cells, ci, cS, cI] at g0 g1 g2 g3 g4
      obtain ⟨n0, e0, _, w0⟩ := DataW.trod_int Try.underlying3 g0
      obtain ⟨n1, e1, _, w1⟩ := DataW.trod_int Try.underlying3 g1
      obtain ⟨s2, e2, _, w2⟩ := DataW.trod_string Try.underlying9 g2
      obtain ⟨s3, e3, _, w3⟩ := DataW.trod_string Try.underlying9 g3
      have e4 : ∃ (a : Option Addr) (n c : Nat), v4 = .slice a n c := by
        rcases Go.Deep.open_slice Try.underlying22 g4 with ⟨x, _⟩ | ⟨a, len, cap, m, n, D, Pl, x, _⟩
        · simp only [List.cons.injEq, and_true] at x; exact ⟨_, _, _, x⟩
        · simp only [List.cons.injEq, and_true] at x; exact ⟨_, _, _, x⟩
      obtain ⟨a, n, c, rfl⟩ := e4
      simp only [List.cons.injEq, and_true] at e0 e1 e2 e3
      subst e0 e1 e2 e3
      obtain ⟨⟨l2⟩⟩ := s2
      obtain ⟨⟨l3⟩⟩ := s3
      exact ⟨⟨n0, n1, l2, l3⟩, a, n, c, rfl, int_wfK w0, int_wfK w1, w2, w3⟩
end Go.Proofs.Ytghhhlbpolhkhaa
