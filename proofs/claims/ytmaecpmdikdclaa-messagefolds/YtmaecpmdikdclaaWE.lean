/- What wire's Frames comes to: the frames that bytes begin with, each in a new slice. -/
import Derived.Test.YtmaecpmdikdclaaWD
namespace Go.Proofs.Ytmaecpmdikdclaa
open Go.RowKit

theorem firstOf_len {bs inn : List UInt8} (h : firstOf bs = some inn) : 8 + inn.length ≤ bs.length := by
  unfold firstOf at h
  split at h
  · cases h
  · split at h
    · cases h
    · split at h
      · cases h
      · split at h
        · cases h
        · cases h
          simp only [List.length_take, List.length_drop]
          omega
/-- The frames that bytes begin with, and how many bytes they have. -/
def framesOf (bs : List UInt8) : List (List UInt8) × Nat :=
  match h : firstOf bs with
  | none => ([], 0)
  | some inn => (inn :: (framesOf (bs.drop (8 + inn.length))).1, 8 + inn.length + (framesOf (bs.drop (8 + inn.length))).2)
termination_by bs.length
decreasing_by all_goals (have := firstOf_len h; simp only [List.length_drop]; omega)
theorem framesOf_none {bs : List UInt8} (h : firstOf bs = none) : framesOf bs = ([], 0) := by
  rw [framesOf]; split
  · rfl
  · rename_i h'; rw [h] at h'; cases h'
theorem framesOf_some {bs inn : List UInt8} (h : firstOf bs = some inn) : framesOf bs = (inn :: (framesOf (bs.drop (8 + inn.length))).1, 8 + inn.length + (framesOf (bs.drop (8 + inn.length))).2) := by
  rw [framesOf]; split
  · rename_i h'; rw [h] at h'; cases h'
  · rename_i h'; rw [h] at h'; cases h'; rfl

theorem Bs.from {w : World} {ao : Option Addr} {bs : List UInt8} (h : Bs w ao bs) (k cap : Nat) (hcap : bs.length ≤ cap) : Bs w (if cap = k then ao else ao.map (fun a => a.add k)) (bs.drop k) := by
  rcases h with rfl | ⟨b, off, rfl, hc⟩
  · left; simp
  · split
    · left; exact List.drop_eq_nil_of_le (by omega)
    · refine .inr ⟨b, off + k, ?_, fun j hj => ?_⟩
      · have hadd : (⟨b, off, none⟩ : Addr).add k = ⟨b, off + k, none⟩ := by unfold Addr.add; split <;> simp_all
        simp [hadd]
      · simp only [List.length_drop] at hj
        have := hc (k + j) (by omega)
        rw [← Nat.add_assoc] at this
        rw [this]
        simp

/-- A row of new slices: each in a block of its own. -/
def sl (g n : Nat) : Value := .slice (some ⟨g, 0, none⟩) n n
structure Rows2 (w : World) (base : Nat) (v : Value) (gs : List Nat) (L : List (List UInt8)) : Prop where
  len : gs.length = L.length
  row : Own w base 25 v (List.zipWith (fun g (b : List UInt8) => sl g b.length) gs L)
  each : ∀ i (h : i < L.length) (h' : i < gs.length), OwnB w base (sl gs[i] L[i].length) L[i]
  nodup : gs.Nodup

theorem Own.below {w w' : World} {base : Nat} {e : TypeId} {v : Value} {xs : List Value} (h : Own w base e v xs) (hb : Below w.heap.size w w') : Own w' base e v xs := by
  refine ⟨h.1, ?_⟩
  rcases h.2 with h2 | ⟨g, cap, cur, rfl, hg, hh, r⟩
  · exact .inl h2
  · exact .inr ⟨g, cap, cur, rfl, hg, by rw [hb.block g (Array.getElem?_eq_some_iff.1 hh).1]; exact hh, r⟩
theorem Rows2.below {w w' : World} {base : Nat} {v : Value} {gs : List Nat} {L : List (List UInt8)} (h : Rows2 w base v gs L) (hb : Below w.heap.size w w') : Rows2 w' base v gs L :=
  ⟨h.len, Own.below h.row hb, fun i h1 h2 => Own.below (h.each i h1 h2) hb, h.nodup⟩
/-- A row of bytes is no row of slices. -/
theorem apart {w : World} {b b' g n : Nat} {e e' : TypeId} {v : Value} {xs ys : List Value} (hee : e ≠ e') (h : Own w b e (sl g n) xs) (k : Own w b' e' v ys) : (sl g n).ownBlock = none ∨ (sl g n).ownBlock ≠ v.ownBlock := by
  right
  intro he
  rcases h.2 with ⟨h2, _⟩ | ⟨g1, cap, cur, hv, _, hh, _⟩
  · cases h2
  · cases hv
    rcases k.2 with ⟨k2, _⟩ | ⟨g2, cap2, cur2, kv, _, kk, _⟩
    · rw [k2] at he; cases he
    · rw [kv] at he
      cases he
      rw [hh] at kk
      cases kk
      exact hee rfl
theorem own_base {w : World} {b b' g n : Nat} {e : TypeId} {xs : List Value} (h : Own w b e (sl g n) xs) (hb : b' ≤ b) : Own w b' e (sl g n) xs :=
  Own.mono h (fun k hk => Nat.le_trans hb (h.lt k hk).1)
/-- One slice more in the row. -/
theorem Rows2.push {w w' : World} {base : Nat} {v v' : Value} {gs : List Nat} {L : List (List UInt8)} {g : Nat} {b : List UInt8} (h : Rows2 w base v gs L) (hn : OwnB w base (sl g b.length) b) (hg : ∀ x ∈ gs, x < g)
    (ho : Own w' base 25 v' (List.zipWith (fun g (b : List UInt8) => sl g b.length) gs L ++ [sl g b.length])) (hs : Step w v w' v') : Rows2 w' base v' (gs ++ [g]) (L ++ [b]) := by
  refine ⟨by simp [h.len], ?_, fun i h1 h2 => ?_, ?_⟩
  · rw [List.zipWith_append h.len]; exact ho
  · by_cases hi : i < L.length
    · have hi' : i < gs.length := by rw [h.len]; exact hi
      rw [List.getElem_append_left hi, List.getElem_append_left hi']
      exact Own.kept (h.each i hi hi') hs.1 (apart (by decide) (h.each i hi hi') h.row)
    · have e1 : i = L.length := by simp at h1; omega
      have e2 : i = gs.length := by rw [h.len]; exact e1
      rw [List.getElem_append_right (by omega), List.getElem_append_right (by omega)]
      simp only [e1, Nat.sub_self, h.len, List.getElem_cons_zero]
      exact Own.kept hn hs.1 (apart (by decide) hn h.row)
  · rw [List.nodup_append]
    exact ⟨h.nodup, by simp, fun a ha b hb => by simp at hb; subst hb; have := hg a ha; omega⟩
theorem Rows2.lt {w : World} {base : Nat} {v : Value} {gs : List Nat} {L : List (List UInt8)} (h : Rows2 w base v gs L) : ∀ x ∈ gs, x < w.heap.size := by
  intro x hx
  obtain ⟨i, hi, rfl⟩ := List.getElem_of_mem hx
  exact ((h.each i (by rw [← h.len]; exact hi) hi).lt _ rfl).2

end Go.Proofs.Ytmaecpmdikdclaa
