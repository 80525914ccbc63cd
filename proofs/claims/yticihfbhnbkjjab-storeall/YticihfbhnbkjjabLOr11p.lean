/- Layer 11: plain facts on scans and on the key ahead of a place. -/
import Derived.Test.YticihfbhnbkjjabKL
import Derived.Test.YticihfbhnbkjjabKQ
namespace Go.Proofs.Yticihfbhnbkjjab
open Go.RowKit
theorem wrap_smallK {x : Int} (h0 : -1000000 ≤ x) (h1 : x ≤ 1000000) : IntKind.i64.wrap x = x := by
  simp only [IntKind.wrap, IntKind.bits, IntKind.signed]
  simp
  omega
theorem scan_all (M : Kvs) : scanL M [] [] 0 = M := by
  unfold scanL
  rw [if_pos rfl, cutL, if_pos rfl, fromL_nil]
theorem scan_upto (M : Kvs) (mid : Bt) (h : mid ≠ []) : scanL M [] mid 0 = M.takeWhile fun x => ltB x.1 mid := by
  unfold scanL
  rw [if_pos rfl, cutL, if_neg h, fromL_nil]
theorem scan_on (M : Kvs) (mid : Bt) : scanL M mid [] 0 = fromL M mid := by
  unfold scanL
  rw [if_pos rfl, cutL, if_pos rfl]
theorem parts_of {M : Kvs} (s : SrtL M) (mid : Bt) : (M.takeWhile fun x => ltB x.1 mid) ++ fromL M mid = M := by
  have h1 : fromL M mid = M.drop (posL M mid) := by
    have hsp : M = M.take (posL M mid) ++ M.drop (posL M mid) := (List.take_append_drop _ _).symm
    have ha : fromL (M.take (posL M mid)) mid = [] := List.filter_eq_nil_iff.2 fun x hx => by
      have := pos_before x hx
      simp only [decide_not, Bool.not_eq_eq_eq_not, Bool.not_true, decide_eq_false_iff_not, Classical.not_not]
      exact this
    have hb : fromL (M.drop (posL M mid)) mid = M.drop (posL M mid) := List.filter_eq_self.2 fun x hx => by
      obtain ⟨j, hj, rfl⟩ := List.getElem_of_mem hx
      rw [List.getElem_drop]
      rw [List.length_drop] at hj
      have : ¬ klt M[posL M mid + j].1 mid := by
        by_cases e : j = 0
        · subst e; exact pos_at (by omega)
        · exact klt_asymm (pos_after s (by omega) (by omega))
      exact decide_eq_true this
    have : fromL M mid = fromL (M.take (posL M mid)) mid ++ fromL (M.drop (posL M mid)) mid := by
      unfold fromL
      rw [← List.filter_append, List.take_append_drop]
    rw [this, ha, hb]
    rfl
  have h2 : (M.takeWhile fun x => ltB x.1 mid) = M.take (posL M mid) := List.prefix_iff_eq_take.1 (List.takeWhile_prefix _)
  rw [h1, h2, List.take_append_drop]
/-- The key ahead of a place. -/
def preK (M : Kvs) (i : Nat) : Bt := if h : 0 < i ∧ i ≤ M.length then M[i - 1].1 else []
theorem preK_succ {M : Kvs} {i : Nat} (h : i < M.length) : preK M (i + 1) = M[i].1 := by
  unfold preK
  rw [dif_pos ⟨by omega, by omega⟩]
  rfl
theorem nil_klt {k : Bt} (h : k ≠ []) : klt [] k := by
  cases k with
  | nil => exact absurd rfl h
  | cons c t => unfold klt; simp [Op.bytesLess]
theorem not_klt_nil (k : Bt) : ¬ klt k [] := by unfold klt; cases k <;> simp [Op.bytesLess]
theorem next_pre {M : Kvs} (s : SrtL M) {i : Nat} (h : i < M.length) (hne : M[i].1 ≠ []) : nextL M (preK M i) = some M[i].1 := by
  have hsr := List.pairwise_iff_getElem.1 s
  refine next_is s (mem_get s (List.getElem_mem h)) ?_ fun x hx hk hq => ?_
  · unfold preK
    split
    · rename_i hp
      exact hsr _ _ (by omega) h (by omega)
    · exact nil_klt hne
  · obtain ⟨j, hj, rfl⟩ := List.getElem_of_mem hx
    have hji : j < i := by
      rcases Nat.lt_or_ge j i with c | c
      · exact c
      · exfalso
        by_cases e : j = i
        · subst e; exact klt_irr _ hq
        · exact klt_asymm hq (hsr _ _ h hj (by omega))
    have : preK M i = M[i - 1].1 := by
      unfold preK
      rw [dif_pos ⟨by omega, by omega⟩]
    rw [this] at hk
    by_cases e : j = i - 1
    · subst e; exact klt_irr _ hk
    · exact klt_asymm hk (hsr _ _ hj (by omega) (by omega))
theorem next_last {M : Kvs} (s : SrtL M) : nextL M (preK M M.length) = none := by
  have hsr := List.pairwise_iff_getElem.1 s
  refine next_not s fun x hx hk => ?_
  obtain ⟨j, hj, rfl⟩ := List.getElem_of_mem hx
  have : preK M M.length = M[M.length - 1].1 := by
    unfold preK
    rw [dif_pos ⟨by omega, by omega⟩]
  rw [this] at hk
  by_cases e : j = M.length - 1
  · subst e; exact klt_irr _ hk
  · exact klt_asymm hk (hsr _ _ hj (by omega) (by omega))
end Go.Proofs.Yticihfbhnbkjjab
