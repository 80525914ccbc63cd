/- What a reader's calls leave (out of layer 4's GM, GI, GH, GF). -/
import Derived.Test.YtaonchdpnllhpaaMP
import Derived.Laws.BitsAllLaws
namespace Go.Proofs.Ytaonchdpnllhpaa
open Go.RowKit
theorem row_chg4 {w w' : World} {base n size : Nat} {e : TypeId} {v : Value} {xs : List Value} {S : Nat → Prop} (h : w.ownsRow base e size v n xs) (k : Chg w w' S) (hv : ∀ g, v.ownBlock = some g → ¬ S g) : w'.ownsRow base e size v n xs := by
  refine ⟨h.1, ?_⟩
  rcases h.2 with h2 | ⟨g, cap, cur, rfl, hg, hh, r⟩
  · exact .inl h2
  · exact .inr ⟨g, cap, cur, rfl, hg, by rw [k.block g (lt_of_block hh) (hv g rfl)]; exact hh, r⟩
theorem row_lt4 {w : World} {base n size : Nat} {e : TypeId} {v : Value} {xs : List Value} (h : w.ownsRow base e size v n xs) : ∀ k, v.ownBlock = some k → base ≤ k ∧ k < w.heap.size := World.ownsRow.lt h
theorem row_lower4 {w : World} {base base' n size : Nat} {e : TypeId} {v : Value} {xs : List Value} (h : w.ownsRow base e size v n xs) (hb : base' ≤ base) : w.ownsRow base' e size v n xs := by
  refine ⟨h.1, ?_⟩
  rcases h.2 with h2 | ⟨g, cap, cur, rfl, hg, r⟩
  · exact .inl h2
  · exact .inr ⟨g, cap, cur, rfl, Nat.le_trans hb hg, r⟩
/-- The value of package code's reader. -/
abbrev rdV (p : Nat) : Value := .agg #[.pointer (some ⟨p, 0, none⟩)]
theorem many_row {w wr w2 : World} {h n base size : Nat} {e : TypeId} {v : Value} {xs : List Value} (hb : base = w.heap.size) (hh : h < w.heap.size) (hrow : wr.ownsRow base e size v n xs) (c1 : Chg wr w2 (fun i => i = h)) (o : Obj) : (w2.alloc o).ownsRow base e size v n xs := by
  subst hb
  have hlt := row_lt4 hrow
  exact row_chg4 (row_chg4 hrow c1 fun b hb e => by have := (hlt b hb).1; omega) (Chg.alloc w2 o (fun _ => False)) (fun _ _ => id)
/-- The rounds: what was read so far, and what comes. -/
theorem gMany_round {α : Type} {one : RSt → α × RSt} {n k : Nat} {st st' : RSt} {L : List α} (hk : k < n) (h0 : st'.2 = 0) (h : gMany one n st = (L ++ (gMany one (n - k) st').1, (gMany one (n - k) st').2)) : gMany one n st = ((L ++ [(one st').1]) ++ (gMany one (n - (k + 1)) (one st').2).1, (gMany one (n - (k + 1)) (one st').2).2) := by
  rw [h, show n - k = (n - (k + 1)) + 1 by omega]
  conv => lhs; unfold gMany
  rw [if_neg (by simp [h0])]
  simp
theorem gMany_end {α : Type} {one : RSt → α × RSt} {n k : Nat} {st st' : RSt} {L : List α} (hk : k = n ∨ st'.2 ≠ 0) (h : gMany one n st = (L ++ (gMany one (n - k) st').1, (gMany one (n - k) st').2)) : gMany one n st = (L, st') := by
  rw [h]
  rcases hk with rfl | hk
  · rw [Nat.sub_self]; simp [gMany]
  · rw [gMany_err _ _ hk]; simp
theorem cells_new4 (W : World) (xs : List Value) (t : TypeId) (B : Nat) (hB : W.heap.size = B) : ∀ j u, xs[j]? = some u → (W.alloc (.cells xs.toArray t)).cell? ((⟨B, 0, none⟩ : Addr).add j) = some u := by
  subst hB
  intro j u hu
  rw [Addr.add_lit, Lib.cell_of_heap (heap_alloc_new W (.cells xs.toArray t))]
  simpa using hu
theorem gByte_nat (s : RSt) : ∃ n : Nat, n ≤ 255 ∧ (gByte s).1 = n := by
  unfold gByte ansByte
  simp only
  split
  · exact ⟨0, by omega, rfl⟩
  split
  · exact ⟨0, by omega, rfl⟩
  · exact ⟨_, by have := (s.1.getD 0 0).toNat_lt; omega, rfl⟩
/-- A block of two cells that a call keeps. -/
theorem kept2 {w w' : World} {b : Nat} {x y : Value} {t : TypeId} {S : Nat → Prop} (hb : w.heap[b]? = some (.cells #[x, y] t (0, 0))) (hc : Chg w w' S) (hn : ¬ S b) : w'.heap[b]? = some (.cells #[x, y] t (0, 0)) := (hc.block b (lt_of_block hb) hn).trans hb
theorem gText_len (s : RSt) : (gText s).1.length ≤ 65535 := by
  unfold gText ansText
  simp only
  split
  · simp
  split
  · simp
  · have := tl_le s.1
    simp only [List.length_take]
    omega
theorem gMany_len {α : Type} {one : RSt → α × RSt} : ∀ (n : Nat) (s : RSt), (gMany one n s).1.length ≤ n
  | 0, _ => Nat.le_refl _
  | n + 1, s => by
    unfold gMany
    split
    · simp
    · simp only [List.length_cons]
      have := gMany_len (one := one) n (one s).2
      omega
theorem gMany_all {α : Type} {one : RSt → α × RSt} {P : α → Prop} (h : ∀ s, P (one s).1) : ∀ (n : Nat) (s : RSt), ∀ x ∈ (gMany one n s).1, P x
  | 0, _ => fun x hx => by simp [gMany] at hx
  | n + 1, s => fun x hx => by
    unfold gMany at hx
    split at hx
    · simp at hx
    · simp only [List.mem_cons] at hx
      rcases hx with rfl | hx
      · exact h s
      · exact gMany_all h n _ x hx
theorem gByte_le (s : RSt) : (gByte s).1.toNat ≤ 255 := by
  obtain ⟨n, hn, e⟩ := gByte_nat s
  rw [e, Int.toNat_natCast]; exact hn
theorem or256 (hi lo : Nat) (h1 : hi ≤ 255) (h2 : lo ≤ 255) : bits BinOp.or IntKind.i64 (IntKind.i64.wrap ((hi : Int) * 256)) (lo : Int) = ((hi * 256 + lo : Nat) : Int) := by
  have e0 : IntKind.i64.wrap ((hi : Int) * 256) = (hi : Int) * 256 := by rw [IntKind.wrap_i64]; omega
  rw [e0]
  have e : (hi : Int) * 256 = ((hi * 256 : Nat) : Int) := by omega
  rw [e]
  show IntKind.i64.wrap ((BitVec.ofInt 64 ((hi * 256 : Nat) : Int) ||| BitVec.ofInt 64 (lo : Int)).toNat : Int) = _
  rw [BitVec.toNat_or, ofInt_u64 _ (by omega), ofInt_u64 _ (by omega), nat_join8 _ _ (by omega) (by omega), IntKind.wrap_i64]
  omega
end Go.Proofs.Ytaonchdpnllhpaa
