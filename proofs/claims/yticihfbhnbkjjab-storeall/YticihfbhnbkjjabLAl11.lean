/- Layer 11: the law StoreAll. -/
import Derived.Test.YticihfbhnbkjjabKU
import Derived.Test.YticihfbhnbkjjabLOr11p
namespace Go.Proofs.Yticihfbhnbkjjab
open Go.RowKit
/-- What an op of a transaction does to what is shown. -/
def playO (N : Kvs) (o : Opn) : Kvs := if o.kd = 1 then wipeS N o.k else putS N o.k o.v
def playL (M : Kvs) (Q : List Opn) : Kvs := Q.foldl playO M
theorem playO_ok {N : Kvs} (h : MOk N) (o : Opn) : MOk (playO N o) := by
  unfold playO
  split
  · exact h.wipe _
  · exact h.put _ _
theorem playL_ok {M : Kvs} (h : MOk M) : ∀ Q, MOk (playL M Q) := fun Q => by
  have : ∀ (Q : List Opn) (M : Kvs), MOk M → MOk (playL M Q) := fun Q => by
    induction Q with
    | nil => exact fun M h => h
    | cons o Q ih => exact fun M h => ih _ (playO_ok h o)
  exact this Q M h
theorem play_snoc (M : Kvs) (Q : List Opn) (o : Opn) : playL M (Q ++ [o]) = playO (playL M Q) o := by
  unfold playL
  rw [List.foldl_append]
  rfl
/-- What was shown is gathered. -/
def ShI (sb xb : Nat) (M N : Kvs) (d : Nat) (w0 : World) (X : Kvs) (va : Option Addr) (n vc : Nat) (w : World) : Prop := AX sb xb M N d w0 w ∧ n = X.length ∧ w.ownsRow w0.heap.size 41 2 (.slice va n vc) X.length (cellsP X)
section
variable {sb xb : Nat} {M N : Kvs} {d : Nat} {w0 w w' : World} {X : Kvs} {va : Option Addr} {n vc : Nat}
theorem ShI.below (h : ShI sb xb M N d w0 X va n vc w) (k : Below w.heap.size w w') : ShI sb xb M N d w0 X va n vc w' := ⟨h.1.below k, h.2.1, row_below2 h.2.2 k⟩
theorem ShI.drewN (h : ShI sb xb M N d w0 X va n vc w) (m : Nat) : ShI sb xb M N d w0 X va n vc (w.drewN m) := h.below (below_drewN (Below.refl _ w) m)
theorem ShI.push {o : Obj} {x : Bt × Bt} {v' : Value} (h : ShI sb xb M N d w0 X va n vc w) (hr : w'.ownsRow w0.heap.size 41 2 v' (n + 1) (cellsP X ++ [sv x.1, sv x.2])) (hs : Step (w.alloc o) (.slice va n vc) w' v') : ∃ a c, v' = .slice a (n + 1) c ∧ Hid (ShI sb xb M N d w0 (X ++ [x]) a (n + 1) c w') := by
  obtain ⟨a, c, e, _⟩ := row_form hr
  refine ⟨a, c, e, hidb ?_⟩
  obtain ⟨⟨b, h1, h2, h3, h4, h5⟩, hn, hrow⟩ := h
  have keep : ∀ i, i = sb ∨ i ∈ b.l → w'.heap[i]? = w.heap[i]? := fun i hi => by
    have hlt := h2.lts i hi
    refine (hs.1.block i (by simp; omega) fun e => ?_).trans (Below.heap_alloc _ _ _ hlt)
    rcases hi with rfl | hi
    · exact absurd (row_typed hrow e.symm h2.box) (by decide)
    · obtain ⟨cs, t, ht, hc⟩ := sx_typed h2 i hi
      have := row_typed hrow e.symm ht
      rcases hc with rfl | rfl | rfl | rfl <;> exact absurd this (by decide)
  have hz := h5.size
  refine ⟨⟨b, h1, h2.keepAll keep, h3, h4, h5.trans ⟨hs.1.os, hs.1.tape, hs.1.output, by have := hs.1.size; simp at this; omega, fun i hi => (hs.1.block i (by simp; omega) fun e => ?_).trans (Below.heap_alloc _ _ _ (by omega))⟩⟩, by rw [List.length_append, hn]; rfl, ?_⟩
  · have := (row_cells hrow i e.symm).1
    omega
  · subst e
    rw [List.length_append, List.length_singleton, ← hn, cellsP_app]
    simpa [cellsP] using hr
end
/-- How many empty keys there are. -/
def e0N (N : Kvs) : Nat := if (getL N []).isSome then 1 else 0
theorem first_empty {N : Kvs} (s : SrtL N) {v : Bt} (h : getL N [] = some v) : ∃ hp : 0 < N.length, N[0] = ([], v) := by
  obtain ⟨j, hj, e⟩ := List.getElem_of_mem (getL_mem h)
  by_cases e0 : j = 0
  · subst e0; exact ⟨hj, e⟩
  · have := (List.pairwise_iff_getElem.1 s) 0 j (by omega) hj (by omega)
    rw [e] at this
    exact absurd this (not_klt_nil _)
theorem past_empty {N : Kvs} (s : SrtL N) {j : Nat} (hj : j < N.length) (he : e0N N ≤ j) : N[j].1 ≠ [] := by
  intro e
  unfold e0N at he
  by_cases e0 : j = 0
  · subst e0
    have : (getL N []).isSome := by
      have := mem_get s (List.getElem_mem hj)
      rwa [e] at this
    rw [if_pos this] at he
    omega
  · have := (List.pairwise_iff_getElem.1 s) 0 j (by omega) hj (by omega)
    rw [e] at this
    exact not_klt_nil _ this
theorem preK_klt {N : Kvs} (s : SrtL N) {j : Nat} (hj : j < N.length) (hne : N[j].1 ≠ []) : klt (preK N j) N[j].1 := by
  unfold preK
  split
  · exact (List.pairwise_iff_getElem.1 s) _ _ (by omega) hj (by omega)
  · exact nil_klt hne
end Go.Proofs.Yticihfbhnbkjjab
