/- Layer 18: others, matched. -/
import Derived.Test.YtaonchdpnllhpaaV8a
import Derived.Test.YtaonchdpnllhpaaCA
import Derived.Sort.OwnSortedInts
namespace Go.Proofs.Ytaonchdpnllhpaa
open Go.RowKit
/-- All but one. -/
def othL (n id : Nat) : List Nat := (List.range n).filter fun k => decide (k ≠ id)
abbrev nsV (l : List Nat) : List Value := l.map fun k : Nat => Value.int .i64 (k : Int)
theorem othL_succ (n id : Nat) : othL (n + 1) id = othL n id ++ (if n = id then [] else [n]) := by
  unfold othL
  rw [List.range_succ, List.filter_append]
  congr 1
  by_cases e : n = id <;> simp [e]
theorem othL_le (n id : Nat) : (othL n id).length ≤ n := by
  unfold othL
  refine Nat.le_trans (List.length_filter_le _ _) ?_
  simp
set_option maxRecDepth 100000 in
set_option maxHeartbeats 1000000 in
theorem others_any18 {pb : Nat} {x : Pt} {lv sv dv mv : Value} (hn : x.n ≤ 7) (w : World) (h : PtAt pb x lv sv dv mv w) : Calls Try.prog 34 #[.pointer (some ⟨pb, 0, none⟩)] w fun e w' => ∃ v, e = .returned v ∧ w'.ownsRow w.heap.size 3 1 v (othL x.n x.id).length (nsV (othL x.n x.id)) ∧ Below w.heap.size w w' := by
  obtain ⟨-, ⟨c7, c8, -⟩, hl, -⟩ := h.rd
  have HC : Hid (∀ W, Below w.heap.size w W → W.cell? ⟨pb, 7, none⟩ = some (.int .i64 x.id) ∧ pb < W.heap.size) := hid fun W hW => ⟨(h.below hW).rd.2.1.1, (h.below hW).rd.2.2.1⟩
  clear h c7
  generalize x.n = n at *
  generalize x.id = id at *
  go_enter Try.func34, Try.ntmps34
  go_upto_region 3 with fail
  go_loopw [3, 9] (fun lv iv wr => ∃ (i m : Nat) (a : Option Addr) (c : Nat), lv = .slice a m c ∧ iv = .int .i64 i ∧ i ≤ n ∧ m ≤ i ∧ m ≤ c ∧ c ≤ 9223372036854775807 ∧ Hid (m = (othL i id).length ∧ wr.ownsRow w.heap.size 3 1 (.slice a m c) m (nsV (othL i id)) ∧ Below w.heap.size w wr)) (fun _ iv _ => n - (intOf iv).toNat)
  case atStart => exact ⟨0, 0, none, 0, rfl, rfl, by omega, by omega, by omega, by omega, hid ⟨rfl, World.ownsRow_nil _ _ _ _, Below.refl _ _⟩⟩
  case round =>
    obtain ⟨i, m, a, c, rfl, rfl, hi, hm, hmc, hc, HR⟩ := hrel
    by_cases hin : i < n
    · have hin2 : (i : Int) < (n : Int) := by omega
      obtain ⟨d7, dl⟩ := HC.out wr HR.out.2.2
      by_cases he : i = id
      · have hde : ((i : Int) != (id : Int)) = false := by rw [he]; simp
        have HE := hid he
        clear he
        go_wp2_with fail
        refine ⟨⟨i + 1, m, a, c, rfl, by simp, by omega, by omega, hmc, hc, hid ?_⟩, by simp [intOf]; omega⟩
        have e : othL (i + 1) id = othL i id := by rw [othL_succ, if_pos HE.out, List.append_nil]
        rw [e]
        exact HR.out
      · have hde : ((i : Int) != (id : Int)) = true := by simp; omega
        have HE := hid he
        have hb := (Below.refl _ wr).alloc (Nat.le_refl _) (.cells #[.int .i64 (i : Int)] 3)
        have hrw : (wr.alloc (.cells #[.int .i64 (i : Int)] 3)).ownsRow w.heap.size 3 1 (.slice a m c) m (nsV (othL i id)) := row_below2 HR.out.2.1 hb
        have hli : Lies (wr.alloc (.cells #[.int .i64 (i : Int)] 3)) (.slice (some ⟨wr.heap.size, 0, none⟩) 1 1) 1 [.int .i64 (i : Int)] := .inr ⟨_, _, rfl, fun j u hu => by
          rw [Addr.add_lit, Lib.cell_of_heap (heap_alloc_new wr _)]
          cases j with
          | zero => simpa using hu
          | succ j => simp at hu⟩
        have hsz : w.heap.size ≤ (wr.alloc (.cells #[.int .i64 (i : Int)] 3)).heap.size := Nat.le_trans HR.out.2.2.size hb.size
        have HB := hid hb
        clear he hb
        go_wp2_with (first
          | (at_builtin; refine wpList_appN _ rfl _ _ 59 rfl elemN_int w.heap.size (.slice a m c) m (nsV (othL i id)) rfl hrw _ rfl 1 [.int .i64 (i : Int)] hli rfl (by simp [Value.oneCell']) (by unfold maxLen; omega) (by omega) hsz ?_; intro v5 w5 hr5 hs5; obtain ⟨a5, c5, e5, q1, q2, -⟩ := row_form hr5; subst e5; clear hrw hli hsz)
          | fail)
        refine ⟨⟨i + 1, m + 1, a5, c5, rfl, by simp, by omega, by omega, q1, q2, hid ?_⟩, by simp [intOf]; omega⟩
        have e : othL (i + 1) id = othL i id ++ [i] := by rw [othL_succ, if_neg HE.out]
        obtain ⟨r1, r2, r3⟩ := HR.out
        rw [e]
        refine ⟨by rw [List.length_append, ← r1]; rfl, ?_, ?_⟩
        · rw [show nsV (othL i id ++ [i]) = nsV (othL i id) ++ [.int .i64 (i : Int)] from List.map_append ..]
          exact hr5
        · exact r3.trans ((HB.out.mono r3.size).trans (hs5.below (Nat.le_trans r3.size HB.out.size) fun g e => (r2.lt g e).1))
    · obtain rfl : i = n := by omega
      go_wp2_with fail
      go_ret
      obtain ⟨r1, r2, r3⟩ := HR.out
      exact ⟨_, rfl, by rw [← r1]; exact r2, r3⟩
end Go.Proofs.Ytaonchdpnllhpaa
