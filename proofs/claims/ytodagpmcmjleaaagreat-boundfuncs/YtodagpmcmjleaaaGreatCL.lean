/- Slots: the program's and the document's; the law's comparison of two lists of numbers. -/
import Derived.Test.YtodagpmcmjleaaaGreatCS
namespace Go.Proofs.YtodagpmcmjleaaaGreat
open Go.RowKit
set_option maxRecDepth 100000 in
set_option maxHeartbeats 1000000 in
theorem lints_any (a b : Option Addr) (c d n m : Nat) (ns ms : List Int) (hn : ns.length = n) (hm : ms.length = m) (w : World) (ha : NsAt w.cell? a ns) (hb : NsAt w.cell? b ms) (hl : n ≤ 17592186044416) (hl' : m ≤ 17592186044416) : Calls Tryz.prog 9 #[.slice a n c, .slice b m d] w fun e w' => e = .returned (.bool (decide (ns = ms))) ∧ ∃ k, w' = w.drewN k := by
  by_cases hnm : n = m
  · subst hnm
    go_enter Tryz.func9, Tryz.ntmps9
    go_wp2
    go_loopw [5] (fun i wr => ∃ k m : Nat, k ≤ n ∧ i = .int .i64 k ∧ (∀ j (h1 : j < ns.length) (h2 : j < ms.length), j < k → ns[j] = ms[j]) ∧ wr = w.drewN m) (fun i _ => n - (intOf i).toNat)
    case atStart => exact ⟨0, 0, Nat.zero_le _, rfl, by omega, rfl⟩
    case round =>
      obtain ⟨k, m, hk, rfl, hr, rfl⟩ := hrel
      by_cases hlt : k < n
      · rcases ha with h0 | ⟨b0, off0, rfl, hc0⟩
        · subst h0; simp at hn; omega
        rcases hb with h0 | ⟨b1, off1, rfl, hc1⟩
        · subst h0; simp at hm; omega
        have c0 := hc0 k (by omega)
        have d0 := hc1 k (by omega)
        have HN : Hid (ns[k] ≠ ms[k] → decide (ns = ms) = false) := hid (list_ne (by omega) (by omega))
        have HT : Hid (ns[k] = ms[k] → ∀ j (h1 : j < ns.length) (h2 : j < ms.length), j < k + 1 → ns[j] = ms[j]) := hid fun h j h1 h2 hjk => by
          rcases Nat.lt_or_ge j k with h3 | h3
          · exact hr j h1 h2 h3
          · obtain rfl : j = k := by omega
            exact h
        generalize ns[k] = x at c0 HN HT
        generalize ms[k] = y at d0 HN HT
        clear hc0 hc1
        by_cases h1 : x = y
        · subst h1
          go_wp2
          go_quiet (fail)
          go_wp2
          refine ⟨⟨k + 1, _, by omega, by go_num, HT.out (by simp), rfl⟩, by simp [intOf]; omega⟩
        · have q : (x != y) = true := by simp [h1]
          go_wp2
          go_quiet (fail)
          go_wp2
          go_ret
          exact ⟨by rw [HN.out h1]; rfl, m + nq, World.drewN_drewN _ _ _⟩
      · have HE : Hid (decide (ns = ms) = true) := hid (decide_eq_true (List.ext_getElem (by omega) fun j h1 h2 => hr j h1 h2 (by omega)))
        go_wp2
        go_ret
        exact ⟨by rw [HE.out]; rfl, m, rfl⟩
  · have hne : ((n : Int) != (m : Int)) = true := by simp; omega
    have hd : decide (ns = ms) = false := decide_eq_false fun h => hnm (by rw [← hn, ← hm, h])
    go_enter Tryz.func9, Tryz.ntmps9
    go_wp2
    go_ret
    exact ⟨by rw [hd]; rfl, 0, rfl⟩
def RowEnd (base : Nat) (ns : List Int) (w : World) (e : Ending) (w' : World) : Prop := (∃ v, e = .returned v ∧ w'.ownsRow base 3 1 v ns.length (cellsN ns)) ∧ Below base w w'
theorem cellsN_append (p l : List Int) : cellsN (p ++ l) = cellsN p ++ cellsN l := by simp [cellsN]
theorem row_lower {w : World} {base base' n size : Nat} {e : TypeId} {v : Value} {xs : List Value} (h : w.ownsRow base e size v n xs) (hb : base' ≤ base) : w.ownsRow base' e size v n xs := by
  refine ⟨h.1, ?_⟩
  rcases h.2 with h2 | ⟨g, cap, cur, e, hg, r⟩
  · exact .inl h2
  · exact .inr ⟨g, cap, cur, e, Nat.le_trans hb hg, r⟩
def SP (B n0 n2 : Nat) (v0 v2 : Value) (p l : List Int) (listed : Array Bool) (i : Nat) (u : Value) (W : World) : Prop :=
  match i with
  | 0 => listed.getD 3 false = true ∨ ∃ g, u = .slice (some ⟨g, 0, none⟩) 0 0 ∧ B + 1 ≤ g ∧ W.heap[g]? = some (.cells #[] 3 (0, 0))
  | 1 => u = .pointer (some ⟨B, 0, none⟩)
  | 2 => u = v0
  | 3 => listed.getD 6 false = true ∨ W.ownsRow (B + 1) 3 1 u n0 (cellsN p)
  | 4 => u = .pointer (some ⟨B, 2, none⟩)
  | 5 => u = v2
  | 6 => W.ownsRow (B + 1) 3 1 u (n0 + n2) (cellsN p ++ cellsN l)
  | 7 => W.ownsRow (B + 1) 3 1 u (n0 + n2) (cellsN p ++ cellsN l)
  | _ => True
theorem getD_more {listed : Array Bool} {i j : Nat} (h : listed.getD j false = true) : (listed.setIfInBounds i true).getD j false = true := by
  rw [getD_set]
  split
  · rfl
  · exact h
theorem SP.below {B n0 n2 : Nat} {v0 v2 : Value} {p l : List Int} {listed : Array Bool} {W W' : World} (hb : Below W.heap.size W W') {i : Nat} : ∀ j u, listed.getD j false = true → SP B n0 n2 v0 v2 p l listed j u W → SP B n0 n2 v0 v2 p l (listed.setIfInBounds i true) j u W' := by
  intro j u _ h
  unfold SP at h ⊢
  split at h
  all_goals first
    | exact h
    | exact row_below2 h hb
    | exact h.imp getD_more fun h => row_below2 h hb
    | (refine h.imp getD_more fun h => ?_
       obtain ⟨g, rfl, h1, hg⟩ := h
       exact ⟨g, rfl, h1, by rw [hb.block g (Array.getElem?_eq_some_iff.1 hg).1]; exact hg⟩)
end Go.Proofs.YtodagpmcmjleaaaGreat
