/- A step law for a call of a Go function in a region that draws its order. shape.Depth. shape.Around. The document's Match, Depth and Around. -/
import Derived.Deep.RegionLaw
import Derived.Shelf.Abstract
import Derived.Test.YtodagpmcmjleaaaGreatPlain
import Derived.Test.YtodagpmcmjleaaaGreatYF
import Derived.Test.YtodagpmcmjleaaaGreatDA
import Derived.Test.YtodagpmcmjleaaaGreatDE
namespace Go.Proofs.YtodagpmcmjleaaaGreat
open Go.RowKit
theorem step_call2 {P : Program} {ops : Array Oper} {o : Oper} {a : Act} {w : World} {K : Act → World → Prop} {Q : Exit → Act → World → Prop} {X : Prop} (hgd : o.guard = none) (f : FuncId) (xs : Array Operand) (ts : Array TypeId)
    (ho : o.op = .call { callee := .value (.func f), args := xs, argTypes := ts }) (eg : ∀ args w, (callFunc f args).run P w = .ok (.enter f args) w) (args : Array Value) (hargs0 : xs.toList.map a.eval = args.toList) (post : Ending → World → Prop)
    (h : Calls P f args w post) (hp : ∀ e w', post e w' → ∃ v, e = .returned v ∧ K (a.put o.dst v) w') : if Region.wanted o (yielded ops a.tmps) = true then Oper.wp P o a w K Q else X := by
  have hw : Region.wanted o (yielded ops a.tmps) = true := by simp [Region.wanted, hgd]
  have hargs : xs.map a.eval = args := by
    apply Array.toList_inj.1
    rw [Array.toList_map]
    exact hargs0
  rw [if_pos hw]
  unfold Oper.wp
  have e1 : (execOp a.eval o).run P w = .ok (.enter f args) w := by
    unfold execOp
    simp [ho, resolve, invoke, go_sem, eg, hargs]
  rw [e1]
  refine h.mono fun e w' hpost => ?_
  obtain ⟨v, rfl, hk⟩ := hp e w' hpost
  exact hk

end Go.Proofs.YtodagpmcmjleaaaGreat
namespace Go.Proofs.YtodagpmcmjleaaaGreat
open Go.RowKit
/-- How many blocks were open at most, ahead of the places below k. -/
def dep (cs : List (Int × Int)) : Nat → Nat
  | 0 => 0
  | k + 1 => max (dep cs k) (mst cs k).1.length
/-- What holds while Depth walks. -/
structure DJ (cs : List (Int × Int)) (cb co q B : Nat) (w0 : World) (k : Nat) (W : World) : Prop where
  n : NumBlk q [((dep cs k : Nat) : Int)] W
  a : ∀ j (h : j < cs.length), W.cell? ⟨cb, co + j * 2, none⟩ = some (.int .i64 cs[j].1) ∧ W.cell? ⟨cb, co + j * 2 + 1, none⟩ = some (.int .i64 cs[j].2)
  b : Below B w0 W
def DepthEnd (cs : List (Int × Int)) (w : World) (e : Ending) (w' : World) : Prop :=
  e = .returned (if goodS cs = true then .tuple #[.int .i64 ((dep cs cs.length : Nat) : Int), .int .i64 0] else .tuple #[.int .i64 0, .int .i64 31]) ∧ Below w.heap.size w w'
end Go.Proofs.YtodagpmcmjleaaaGreat
namespace Go.Proofs.YtodagpmcmjleaaaGreat
open Go.RowKit
/-- The places noted ahead of place k. -/
def arS (cs : List (Int × Int)) (x : Int) (k : Nat) : List Int := if 0 ≤ x ∧ x < k then (mst cs x.toNat).1.map Blk.s else []
/-- What holds while Around walks. -/
structure AJ (cs : List (Int × Int)) (x : Int) (cb co tB q B : Nat) (w0 : World) (k : Nat) (W : World) : Prop where
  t : W.cell? ⟨tB, 0, none⟩ = some (.int .i64 x)
  p : ∃ a cap, Pls q (arS cs x k) a cap W
  a : ∀ j (h : j < cs.length), W.cell? ⟨cb, co + j * 2, none⟩ = some (.int .i64 cs[j].1) ∧ W.cell? ⟨cb, co + j * 2 + 1, none⟩ = some (.int .i64 cs[j].2)
  b : Below B w0 W
theorem Pls.mv {q : Nat} {ns : List Int} {a : Option Addr} {cap : Nat} {W W' : World} (h : Pls q ns a cap W) (m : Mv W W') : Pls q ns a cap W' := by
  refine ⟨m.2 _ _ _ _ (by decide) (by decide) h.box, h.row.1, ?_⟩
  rcases h.row.2 with h2 | ⟨g, c, cur, e, hg, hh, r⟩
  · exact .inl h2
  · exact .inr ⟨g, c, cur, e, hg, m.2 _ _ _ _ (by decide) (by decide) hh, r⟩
theorem arS_next (cs : List (Int × Int)) (x : Int) (k : Nat) : arS cs x (k + 1) = if (k : Int) = x then arS cs x k ++ (mst cs k).1.map Blk.s else arS cs x k := by
  unfold arS
  split
  · rename_i h
    split
    · rename_i e
      subst e
      rw [if_neg (by omega)]
      simp
    · rw [if_pos (by omega)]
  · rename_i h
    rw [if_neg (by omega), if_neg (by omega)]
def AroundEnd (cs : List (Int × Int)) (x : Int) (w : World) (e : Ending) (w' : World) : Prop :=
  ∃ a c, e = .returned (.slice a (if goodS cs = true then arS cs x cs.length else []).length c) ∧ NsAt w'.cell? a (if goodS cs = true then arS cs x cs.length else []) ∧ Below w.heap.size w w'
end Go.Proofs.YtodagpmcmjleaaaGreat
namespace Go.Proofs.YtodagpmcmjleaaaGreat
open Go.RowKit
theorem good_nil : goodS [] = true := by decide
set_option maxRecDepth 100000 in
set_option maxHeartbeats 1000000 in
theorem rmatch_nil (ca : Option Addr) (cc : Nat) (w : World) : Calls Tryz.prog 16 #[.slice ca 0 cc] w (MatchEnd [] w) := by
  have hmk := make_run 0 (by omega) w
  have b1 := (Below.refl _ w).alloc (Nat.le_refl _) (.cells (cellsN (fillS 0 0)).toArray 3)
  have n1 : NumBlk w.heap.size (matchS []) (w.alloc (.cells (cellsN (fillS 0 0)).toArray 3)) := heap_alloc_new w _
  generalize w.alloc (.cells (cellsN (fillS 0 0)).toArray 3) = w1 at hmk b1 n1
  have HE : Hid (MatchEnd [] w (.returned (.tuple #[.slice (some ⟨w.heap.size, 0, none⟩) 0 0, .int .i64 0])) w1) := hid6 ⟨by rw [if_pos good_nil]; exact ⟨_, Nat.le_refl _, rfl, n1⟩, b1⟩
  clear b1 n1
  go_enter Tryz.func16, Tryz.ntmps16
  have hmk' : Sem.run Tryz.prog (Instr.makeSlice 27 (.int .i64 0) (.int .i64 0)) w = .ok (.slice (some ⟨w.heap.size, 0, none⟩) 0 0) w1 := hmk
  go_wp2
  go_loopw [5] (fun iv wr => iv = .int .i64 0 ∧ wr = w1) (fun _ _ => 0)
  case atStart => exact ⟨rfl, rfl⟩
  case round =>
    obtain ⟨rfl, rfl⟩ := hrel
    go_wp2
    go_loopw [6] (fun iv w5 => iv = .int .i64 0 ∧ w5 = wr) (fun _ _ => 0)
    case atStart => exact ⟨rfl, rfl⟩
    case round =>
      obtain ⟨rfl, rfl⟩ := hrel
      go_wp2
      go_loopw [9] (fun iv w5 => iv = .int .i64 0 ∧ w5 = wr) (fun _ _ => 0)
      case atStart => exact ⟨rfl, rfl⟩
      case round =>
        obtain ⟨rfl, rfl⟩ := hrel
        go_wp2
        go_loopw [10] (fun iv w5 => iv = .int .i64 0 ∧ w5 = wr) (fun _ _ => 0)
        case atStart => exact ⟨rfl, rfl⟩
        case round =>
          obtain ⟨rfl, rfl⟩ := hrel
          go_wp2
          go_ret2
          exact HE.out
theorem rmatch_any (cs : List (Int × Int)) (ca : Option Addr) (cc n : Nat) (hn : cs.length = n) (bn : n ≤ 1000000) (w : World) (hc : IsAt w.cell? ca cs) : Calls Tryz.prog 16 #[.slice ca n cc] w (MatchEnd cs w) := by
  by_cases h0 : n = 0
  · subst h0
    have : cs = [] := List.eq_nil_of_length_eq_zero hn
    subst this
    exact rmatch_nil ca cc w
  · obtain ⟨b, off, rfl⟩ := is_some hc (by omega)
    exact rmatch_some cs b off cc n hn bn (by omega) w hc
/-- How deep the document finds them. -/
def docD (op : Nat → Int) : Nat → Nat
  | 0 => 0
  | k + 1 => max (docD op k) ((stk op k).length + (if Opn op k then 1 else 0))
theorem stk_opn {op : Nat → Int} {k : Nat} (h : Opn op k) : (stk op (k + 1)).length = (stk op k).length + 1 := by
  have h' : op k = 48 ∨ op k = 51 := h
  rw [stk, stepS, if_pos h', List.length_append]; rfl
theorem docD_dep (cs : List (Int × Int)) : ∀ k, dep cs k ≤ docD (opA cs) k ∧ docD (opA cs) k ≤ max (dep cs k) (stk (opA cs) k).length
  | 0 => ⟨Nat.le_refl _, Nat.zero_le _⟩
  | k + 1 => by
    obtain ⟨a, b⟩ := docD_dep cs k
    rw [docD, dep, mst_stk]
    by_cases h : Opn (opA cs) k
    · rw [if_pos h, stk_opn h]; omega
    · rw [if_neg h]; omega
theorem docD_all {cs : List (Int × Int)} (N : Nest (opA cs) cs.length) : docD (opA cs) cs.length = dep cs cs.length := by
  have := docD_dep cs cs.length
  rw [N.nil] at this
  simp only [List.length_nil] at this
  omega
theorem docD_le (op : Nat → Int) : ∀ k, docD op k ≤ k
  | 0 => Nat.le_refl _
  | k + 1 => by
    have := docD_le op k
    have := stk_len (op := op) k
    rw [docD]
    split <;> omega
end Go.Proofs.YtodagpmcmjleaaaGreat
