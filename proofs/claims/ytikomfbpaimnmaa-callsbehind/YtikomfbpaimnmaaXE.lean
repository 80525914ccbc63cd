/- Layer 8: a map of ints to ints that lies in a block of its own. -/
import Derived.Test.YtikomfbpaimnmaaXD
import Derived.Maps.OwnSet
import Derived.Maps.Ext
namespace Go.Proofs.Ytikomfbpaimnmaa
open Go.RowKit Go.Maps
theorem int_key8 : Keyed Try.prog 3 := int_keyed Try.underlying3
theorem wf_small {x : Int} (h0 : -4611686018427387904 ≤ x) (h1 : x ≤ 4611686018427387904) : (Lit.int .i64 x).wf = true := by
  have e1 : IntKind.i64.min = -9223372036854775808 := by decide
  have e2 : IntKind.i64.max = 9223372036854775807 := by decide
  simp only [Lit.wf, e1, e2, Bool.and_eq_true, decide_eq_true_eq]
  omega
/-- Block b of w is a map that holds what m says, its keys below n; S pays for what is still to be written. -/
def MapN (w : World) (b n S : Nat) (m : Nat → Option Nat) : Prop := ∃ (D : DataW Unit) (N : Nat), w.ownsMap Try.prog 3 (plainElem Try.prog 3) b N D ∧ N + 2 * white n m ≤ S ∧ S ≤ 100000 ∧
  (∀ x : Int, has D (.int .i64 x) = true → ∃ k : Nat, x = k ∧ m k ≠ none) ∧ (∀ k v : Nat, m k = some v → k < n ∧ v + white n m ≤ S ∧ has D (.int .i64 k) = true ∧ ∀ z, D.atKey (.int .i64 k) z = .lit (.int .i64 v))
theorem MapN.lt {w : World} {b n S : Nat} {m : Nat → Option Nat} (h : MapN w b n S m) : b < w.heap.size := by obtain ⟨D, N, h, _⟩ := h; exact h.lt
theorem MapN.blk {w : World} {b n S : Nat} {m : Nat → Option Nat} (h : MapN w b n S m) : ∃ es cl, w.heap[b]? = some (.map es cl) := by obtain ⟨D, N, ⟨es, cl, h, _⟩, _⟩ := h; exact ⟨es, cl, h⟩
theorem MapN.keep {w w' : World} {b n S : Nat} {m : Nat → Option Nat} (h : MapN w b n S m) (e : w'.heap[b]? = w.heap[b]?) : MapN w' b n S m := by
  obtain ⟨D, N, ⟨es, cl, h1, h2⟩, h3⟩ := h
  exact ⟨D, N, ⟨es, cl, e.trans h1, h2⟩, h3⟩
theorem MapN.new (w : World) (n : Nat) (hn : n ≤ 100) : MapN (w.alloc (.map #[] 0)) w.heap.size n (2 * n) (fun _ => none) := by
  refine ⟨.map [], 0, World.ownsMap_made w _ _ _, ?_, by omega, fun x h => ?_, fun k v h => by cases h⟩
  · have := white_max (fun _ => none) n; omega
  · simp [has] at h
theorem MapN.look {w : World} {b n S : Nat} {m : Nat → Option Nat} (h : MapN w b n S m) (k : Nat) (hk : k ≤ 100000) : (Instr.lookup 54 (.map (some b)) (.int .i64 k) true).run Try.prog w = .ok (.tuple #[.int .i64 ((m k).getD 0 : Nat), .bool (m k).isSome]) w := by
  obtain ⟨D, N, h1, _, _, h2, h3⟩ := h
  have hz : (zeroValue 3).run Try.prog w = .ok (.int .i64 0) w := by kernel_rfl
  obtain ⟨v, ps, hr, hv⟩ := h1.look_ok (t := 54) int_key8 Try.underlying54 hz (zd := .lit (.int .i64 0)) (zp := []) (plainElem_int Try.underlying3 (wf_small (by omega) (by omega))) (keyOf_int_mk Try.underlying3 (wf_small (x := k) (by omega) (by omega)))
  rw [hr]
  obtain ⟨c, rfl, hc, _⟩ := plainElem_int_inv Try.underlying3 hv
  have hc := congrArg Prod.fst hc
  simp only at hc
  cases e : m k with
  | none =>
    have hn : has D (.int .i64 k) = false := by
      cases e2 : has D (.int .i64 k) with
      | false => rfl
      | true => obtain ⟨k', e3, e4⟩ := h2 _ e2; obtain rfl : k = k' := by omega
                exact absurd e e4
    rw [atKey_of_not_has hn] at hc
    cases hc
    rw [hn]
    rfl
  | some v =>
    obtain ⟨_, _, e1, e2⟩ := h3 k v e
    rw [e2] at hc
    cases hc
    rw [e1]
    rfl
theorem MapN.at {w : World} {b n S : Nat} {m : Nat → Option Nat} (h : MapN w b n S m) (k : Nat) (hk : k ≤ 100000) : (Instr.lookup 54 (.map (some b)) (.int .i64 k) false).run Try.prog w = .ok (.int .i64 ((m k).getD 0 : Nat)) w := by
  obtain ⟨D, N, h1, _, _, h2, h3⟩ := h
  have hz : (zeroValue 3).run Try.prog w = .ok (.int .i64 0) w := by kernel_rfl
  obtain ⟨c, hr, hc, _⟩ := h1.lookup_int (t := 54) int_key8 Try.underlying54 Try.underlying3 hz (keyOf_int_mk Try.underlying3 (wf_small (x := k) (by omega) (by omega)))
  rw [hr]
  cases e : m k with
  | none =>
    have hn : has D (.int .i64 k) = false := by
      cases e2 : has D (.int .i64 k) with
      | false => rfl
      | true => obtain ⟨k', e3, e4⟩ := h2 _ e2; obtain rfl : k = k' := by omega
                exact absurd e e4
    rw [atKey_of_not_has hn] at hc
    cases hc
    rfl
  | some v =>
    obtain ⟨_, _, e1, e2⟩ := h3 k v e
    rw [e2] at hc
    cases hc
    rfl
/-- Only the blocks b1 and b2 have turned. -/
def Kp2 (b1 b2 : Nat) (w w' : World) : Prop := w'.os = w.os ∧ w'.tape = w.tape ∧ w'.output = w.output ∧ w.heap.size ≤ w'.heap.size ∧ ∀ k, k < w.heap.size → k ≠ b1 → k ≠ b2 → w'.heap[k]? = w.heap[k]?
theorem Kp2.refl (b1 b2 : Nat) (w : World) : Kp2 b1 b2 w w := ⟨rfl, rfl, rfl, Nat.le_refl _, fun _ _ _ _ => rfl⟩
theorem Kp2.trans {b1 b2 : Nat} {a b c : World} (h : Kp2 b1 b2 a b) (k : Kp2 b1 b2 b c) : Kp2 b1 b2 a c := ⟨k.1.trans h.1, k.2.1.trans h.2.1, k.2.2.1.trans h.2.2.1, Nat.le_trans h.2.2.2.1 k.2.2.2.1, fun i hi h1 h2 => (k.2.2.2.2 i (Nat.lt_of_lt_of_le hi h.2.2.2.1) h1 h2).trans (h.2.2.2.2 i hi h1 h2)⟩
theorem Kp2.below {b1 b2 : Nat} {w w' : World} (h : Below w.heap.size w w') : Kp2 b1 b2 w w' := ⟨h.os, h.tape, h.output, h.size, fun k hk _ _ => h.block k hk⟩
theorem Kp2.drew {b1 b2 : Nat} {w w' : World} (h : Kp2 b1 b2 w w') : Kp2 b1 b2 w w'.drew := h
theorem Kp2.set1 {b1 b2 : Nat} {w : World} {o : Nat} (u : Value) : Kp2 b1 b2 w (w.setCell ⟨b1, o, none⟩ u) := ⟨rfl, rfl, rfl, by simp [World.setCell], fun k _ h _ => Below.heap_setCell _ _ _ _ h⟩
theorem Kp2.set2 {b1 b2 : Nat} {w : World} {o : Nat} (u : Value) : Kp2 b1 b2 w (w.setCell ⟨b2, o, none⟩ u) := ⟨rfl, rfl, rfl, by simp [World.setCell], fun k _ _ h => Below.heap_setCell _ _ _ _ h⟩
theorem Kp2.grown {b1 b2 : Nat} {w w' : World} (h : w.grownBy w' (some b1)) : Kp2 b1 b2 w w' := ⟨h.os, h.tape, h.output, h.size, fun k hk h1 _ => h.block k hk (fun e => h1 (by cases e; rfl))⟩
theorem Kp2.cell {b1 b2 : Nat} {w w' : World} (h : Kp2 b1 b2 w w') {a : Addr} {v : Value} (hv : w.cell? a = some v) (h1 : a.block ≠ b1) (h2 : a.block ≠ b2) : w'.cell? a = some v := (World.cell?_of_block (h.2.2.2.2 _ (World.block_lt_of_cell? w a hv) h1 h2)).trans hv
theorem Kp2.low {b1 b2 B : Nat} {w w' : World} (h : Kp2 b1 b2 w w') (h1 : B ≤ b1) (h2 : B ≤ b2) (hB : B ≤ w.heap.size) : Below B w w' := ⟨h.1, h.2.1, h.2.2.1, h.2.2.2.1, fun k hk => h.2.2.2.2 k (by omega) (by omega) (by omega)⟩
theorem MapN.put {w : World} {b n S : Nat} {m : Nat → Option Nat} (h : MapN w b n S m) (k v : Nat) (hk : k < n) (hn : n ≤ 1000) (S' : Nat) (hv : v + white n (mput m k v) ≤ S') (hS' : S' ≤ 100000) (hS : S + 1 ≤ S' ∨ m k = none ∧ S ≤ S' + 1) :
    ∃ w', (Instr.mapUpdate 54 (.map (some b)) (.int .i64 k) (.int .i64 v)).run Try.prog w = .ok () w' ∧ MapN w' b n S' (mput m k v) ∧ w.grownBy w' (some b) ∧ w'.heap.size = w.heap.size := by
  obtain ⟨D, N, h1, hN, hS0, h2, h3⟩ := h
  have hkey := keyOf_int_mk (P := Try.prog) Try.underlying3 (wf_small (x := k) (by omega) (by omega))
  have hkl : WideAt.IsKeyLit (.int .i64 (k : Int)) := by trivial
  obtain ⟨w', hr, h4, h5⟩ := h1.store (t := 54) int_key8 Try.underlying54 (by unfold maxLen; omega) hkey (plainElem_int Try.underlying3 (wf_small (x := v) (by omega) (by omega)))
  have hle : white n (mput m k v) ≤ white n m := white_le (fun x u hx => if e : x = k then ⟨v, by rw [e, mput_same]⟩ else ⟨u, by rw [mput_other _ _ e, hx]⟩) n
  have hw : N + 1 + 2 * white n (mput m k v) ≤ S' ∧ ∀ u, u + white n m ≤ S → u + white n (mput m k v) ≤ S' := by
    rcases hS with hS | ⟨e, hS⟩
    · exact ⟨by omega, fun u hu => by omega⟩
    · have := white_put (v := v) e n hk
      exact ⟨by omega, fun u hu => by omega⟩
  refine ⟨w', hr, ⟨_, _, h4, hw.1, hS', fun x hx => ?_, fun x u hx => ?_⟩, h5.grown, ?_⟩
  · by_cases e : x = k
    · exact ⟨k, e, by rw [mput_same]; simp⟩
    · rw [has_put_other (by intro e2; cases e2; exact e rfl)] at hx
      obtain ⟨k', e1, e2⟩ := h2 x hx
      exact ⟨k', e1, by rw [mput_other _ _ (by omega)]; exact e2⟩
  · by_cases e : x = k
    · subst e
      rw [mput_same] at hx
      cases hx
      exact ⟨hk, hv, has_put_same h1.isMap hkl _, fun z => atKey_put_same h1.isMap hkl _ z⟩
    · rw [mput_other _ _ e] at hx
      obtain ⟨e0, e3, e1, e2⟩ := h3 x u hx
      have ne : Lit.int .i64 (x : Int) ≠ .int .i64 (k : Int) := by intro e2; injection e2 with _ e3; omega
      exact ⟨e0, hw.2 _ e3, by rw [has_put_other ne]; exact e1, fun z => by rw [atKey_put_other ne]; exact e2 z⟩
  · obtain ⟨es, cl, es', cl', _, rfl⟩ := h5
    simp [ChangeMaps.setBlock]
end Go.Proofs.Ytikomfbpaimnmaa
