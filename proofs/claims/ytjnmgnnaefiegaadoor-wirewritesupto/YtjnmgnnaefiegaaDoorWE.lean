/- What wire's Frames comes to: the frames that bytes begin with, each in a new slice. -/
import Derived.Test.YtjnmgnnaefiegaaDoorWD
namespace Go.Proofs.YtjnmgnnaefiegaaDoor
open Go.RowKit

theorem firstOf_len {bs inn : List UInt8} (h : firstOf bs = some inn) : 8 + inn.length ≤ bs.length := by
  unfold firstOf at h
  split at h
  · cases h
  · split at h
    · cases h
    · split at h
      · cases h
      · split at h
        · cases h
        · cases h
          simp only [List.length_take, List.length_drop]
          omega
/-- The frames that bytes begin with, and how many bytes they have. -/
def framesOf (bs : List UInt8) : List (List UInt8) × Nat :=
  match h : firstOf bs with
  | none => ([], 0)
  | some inn => (inn :: (framesOf (bs.drop (8 + inn.length))).1, 8 + inn.length + (framesOf (bs.drop (8 + inn.length))).2)
termination_by bs.length
decreasing_by all_goals (have := firstOf_len h; simp only [List.length_drop]; omega)
theorem framesOf_none {bs : List UInt8} (h : firstOf bs = none) : framesOf bs = ([], 0) := by
  rw [framesOf]; split
  · rfl
  · rename_i h'; rw [h] at h'; cases h'
theorem framesOf_some {bs inn : List UInt8} (h : firstOf bs = some inn) : framesOf bs = (inn :: (framesOf (bs.drop (8 + inn.length))).1, 8 + inn.length + (framesOf (bs.drop (8 + inn.length))).2) := by
  rw [framesOf]; split
  · rename_i h'; rw [h] at h'; cases h'
  · rename_i h'; rw [h] at h'; cases h'; rfl

theorem Bs.from {w : World} {ao : Option Addr} {bs : List UInt8} (h : Bs w ao bs) (k cap : Nat) (hcap : bs.length ≤ cap) : Bs w (if cap = k then ao else ao.map (fun a => a.add k)) (bs.drop k) := by
  rcases h with rfl | ⟨b, off, rfl, hc⟩
  · left; simp
  · split
    · left; exact List.drop_eq_nil_of_le (by omega)
    · refine .inr ⟨b, off + k, ?_, fun j hj => ?_⟩
      · have hadd : (⟨b, off, none⟩ : Addr).add k = ⟨b, off + k, none⟩ := by unfold Addr.add; split <;> simp_all
        simp [hadd]
      · simp only [List.length_drop] at hj
        have := hc (k + j) (by omega)
        rw [← Nat.add_assoc] at this
        rw [this]
        simp

/-- A row of new slices: each in a block of its own. -/
def sl (g n : Nat) : Value := .slice (some ⟨g, 0, none⟩) n n
structure Rows2 (w : World) (base : Nat) (v : Value) (gs : List Nat) (L : List (List UInt8)) : Prop where
  len : gs.length = L.length
  row : Own w base 26 v (List.zipWith (fun g (b : List UInt8) => sl g b.length) gs L)
  each : ∀ i (h : i < L.length) (h' : i < gs.length), OwnB w base (sl gs[i] L[i].length) L[i]
  nodup : gs.Nodup

theorem elem_bytes : Elem Tryd.prog 61 26 24 := by
  refine ⟨Tryd.underlying61, ?_⟩
  obtain ⟨i0, hi, hz0, hz1, hz2⟩ := info_parts (show (Tryd.prog.info? 26).map (fun i => (i.zero, i.size, i.bytes)) = some (some (.slice none 0 0), 1, 24) by kernel_rfl)
  exact ⟨i0, _, hi, hz0, hz1, hz2, rfl⟩

theorem Own.below {w w' : World} {base : Nat} {e : TypeId} {v : Value} {xs : List Value} (h : Own w base e v xs) (hb : Below w.heap.size w w') : Own w' base e v xs := by
  refine ⟨h.1, ?_⟩
  rcases h.2 with h2 | ⟨g, cap, cur, rfl, hg, hh, r⟩
  · exact .inl h2
  · exact .inr ⟨g, cap, cur, rfl, hg, by rw [hb.block g (Array.getElem?_eq_some_iff.1 hh).1]; exact hh, r⟩
theorem Rows2.below {w w' : World} {base : Nat} {v : Value} {gs : List Nat} {L : List (List UInt8)} (h : Rows2 w base v gs L) (hb : Below w.heap.size w w') : Rows2 w' base v gs L :=
  ⟨h.len, Own.below h.row hb, fun i h1 h2 => Own.below (h.each i h1 h2) hb, h.nodup⟩
/-- A row of bytes is no row of slices. -/
theorem apart {w : World} {b b' g n : Nat} {e e' : TypeId} {v : Value} {xs ys : List Value} (hee : e ≠ e') (h : Own w b e (sl g n) xs) (k : Own w b' e' v ys) : (sl g n).ownBlock = none ∨ (sl g n).ownBlock ≠ v.ownBlock := by
  right
  intro he
  rcases h.2 with ⟨h2, _⟩ | ⟨g1, cap, cur, hv, _, hh, _⟩
  · cases h2
  · cases hv
    rcases k.2 with ⟨k2, _⟩ | ⟨g2, cap2, cur2, kv, _, kk, _⟩
    · rw [k2] at he; cases he
    · rw [kv] at he
      cases he
      rw [hh] at kk
      cases kk
      exact hee rfl
theorem own_base {w : World} {b b' g n : Nat} {e : TypeId} {xs : List Value} (h : Own w b e (sl g n) xs) (hb : b' ≤ b) : Own w b' e (sl g n) xs :=
  Own.mono h (fun k hk => Nat.le_trans hb (h.lt k hk).1)
/-- One slice more in the row. -/
theorem Rows2.push {w w' : World} {base : Nat} {v v' : Value} {gs : List Nat} {L : List (List UInt8)} {g : Nat} {b : List UInt8} (h : Rows2 w base v gs L) (hn : OwnB w base (sl g b.length) b) (hg : ∀ x ∈ gs, x < g)
    (ho : Own w' base 26 v' (List.zipWith (fun g (b : List UInt8) => sl g b.length) gs L ++ [sl g b.length])) (hs : Step w v w' v') : Rows2 w' base v' (gs ++ [g]) (L ++ [b]) := by
  refine ⟨by simp [h.len], ?_, fun i h1 h2 => ?_, ?_⟩
  · rw [List.zipWith_append h.len]; exact ho
  · by_cases hi : i < L.length
    · have hi' : i < gs.length := by rw [h.len]; exact hi
      rw [List.getElem_append_left hi, List.getElem_append_left hi']
      exact Own.kept (h.each i hi hi') hs.1 (apart (by decide) (h.each i hi hi') h.row)
    · have e1 : i = L.length := by simp at h1; omega
      have e2 : i = gs.length := by rw [h.len]; exact e1
      rw [List.getElem_append_right (by omega), List.getElem_append_right (by omega)]
      simp only [e1, Nat.sub_self, h.len, List.getElem_cons_zero]
      exact Own.kept hn hs.1 (apart (by decide) hn h.row)
  · rw [List.nodup_append]
    exact ⟨h.nodup, by simp, fun a ha b hb => by simp at hb; subst hb; have := hg a ha; omega⟩
theorem Rows2.lt {w : World} {base : Nat} {v : Value} {gs : List Nat} {L : List (List UInt8)} (h : Rows2 w base v gs L) : ∀ x ∈ gs, x < w.heap.size := by
  intro x hx
  obtain ⟨i, hi, rfl⟩ := List.getElem_of_mem hx
  exact ((h.each i (by rw [← h.len]; exact hi) hi).lt _ rfl).2

set_option maxHeartbeats 1000000 in
theorem frames_any (ao : Option Addr) (len cap : Nat) (bs : List UInt8) (w : World) (hl : bs.length = len) (hm : 3 * len ≤ 140737488355328) (hcap : len ≤ cap) (hcm : cap ≤ maxLen) (hb : Bs w ao bs) (ht : Tab w) :
    Calls Tryd.prog 38 #[.slice ao len cap] w fun e w' => ∃ v gs, e = .returned (.tuple #[v, .int .i64 ((framesOf bs).2 : Nat)]) ∧ Rows2 w' w.heap.size v gs (framesOf bs).1 ∧ Below w.heap.size w w' := by
  unfold maxLen at hcm
  go_enter Tryd.func38, Tryd.ntmps38
  go_wp2
  go_loopw [2, 3] (fun v e wr => ∃ (k : Nat) (gs : List Nat) (L : List (List UInt8)), k ≤ len ∧ e = .int .i64 k ∧ 8 * L.length ≤ k ∧ Rows2 wr w.heap.size v gs L ∧ Below w.heap.size w wr ∧ framesOf bs = (L ++ (framesOf (bs.drop k)).1, k + (framesOf (bs.drop k)).2)) (fun _ e _ => len - (intOf e).toNat)
  case atStart => exact ⟨0, [], [], Nat.zero_le _, rfl, Nat.le_refl _, ⟨rfl, Own.nil _ _ _, fun i h => by simp at h, List.nodup_nil⟩, Below.refl _ _, by simp⟩
  case round =>
    obtain ⟨k, gs, L, hk, rfl, hL, hR, hbel, hF⟩ := hrel
    have hbk := (hb.keep (below_keep hbel)).from k cap (by omega)
    have HF : Hid (framesOf bs = (L ++ (framesOf (bs.drop k)).1, k + (framesOf (bs.drop k)).2)) := hF
    have hdl : (bs.drop k).length = len - k := by simp [hl]
    have htr := ht.keep (below_keep hbel)
    clear hF
    have hbk1 : cap = k → Bs wr ao (bs.drop k) := fun h => by rw [if_pos h] at hbk; exact hbk
    have hbk2 : ¬ cap = k → Bs wr (ao.map (fun a => a.add k)) (bs.drop k) := fun h => by rw [if_neg h] at hbk; exact hbk
    clear hbk
    cases hfo : firstOf (bs.drop k) with
      | none =>
        have HN : Hid (framesOf bs = (L, k)) := hid (by have := HF.out; rw [framesOf_none hfo] at this; simpa using this)
        have Hfo : Hid (firstOf (bs.drop k) = none) := hfo
        clear HF hfo
        by_cases hck : cap = k
        all_goals
          go_wp2_with fail
          refine (firstFrame_any _ (len - k) _ (bs.drop k) wr hdl (by omega) (by omega) (by first | exact hbk1 hck | exact hbk2 hck) htr).mono ?_
          intro e w1 hE
          obtain ⟨ao1, c1, rfl, hb1⟩ := hE.elim_no Hfo.out
          clear hE
          go_wp2
          go_ret2
          exact ⟨u2, gs, by rw [HN.out]; rfl, by rw [HN.out]; exact hR.below hb1, hbel.trans (hb1.mono hbel.size)⟩
      | some inn =>
        have hil := firstOf_len hfo
        rw [hdl] at hil
        have hck : ¬ cap = k := by omega
        have HN : Hid (framesOf bs = (L ++ [inn] ++ (framesOf (bs.drop (k + (8 + inn.length)))).1, k + (8 + inn.length) + (framesOf (bs.drop (k + (8 + inn.length)))).2)) := hid (by
          have := HF.out
          rw [framesOf_some hfo, List.drop_drop] at this
          rw [this]
          simp [Nat.add_assoc])
        have Hfo : Hid (firstOf (bs.drop k) = some inn) := hfo
        clear HF hfo
        go_wp2_with fail
        refine (firstFrame_any _ (len - k) _ (bs.drop k) wr hdl (by omega) (by omega) (hbk2 hck) htr).mono ?_
        intro e w1 hE
        obtain ⟨ao1, c1, rfl, hc1, hB1, hb1⟩ := hE.elim_yes Hfo.out
        clear hE
        go_wp2_with fail
        refine (fresh_any ao1 inn.length c1 inn w1 rfl (by omega) (hB1.keep (below_keep hb1))).mono ?_
        rintro e w2 ⟨rfl, hO2, hb2⟩
        have hbw1 : Below w.heap.size w w1 := hbel.trans (hb1.mono hbel.size)
        have hbw2 : Below w.heap.size w w2 := hbw1.trans (hb2.mono hbw1.size)
        have hR2 : Rows2 w2 w.heap.size u2 gs L := (hR.below hb1).below hb2
        have hN2 : OwnB w2 w.heap.size (sl w1.heap.size inn.length) inn := own_base hO2 hbw1.size
        have hgs : ∀ x ∈ gs, x < w1.heap.size := (hR.below hb1).lt
        have hrow := hR2.row
        have hzl : (List.zipWith (fun g (b : List UInt8) => sl g b.length) gs L).length = L.length := by simp [hR.len]
        generalize hzs : List.zipWith (fun g (b : List UInt8) => sl g b.length) gs L = zs at hrow hzl
        have Hzs : Hid (List.zipWith (fun g (b : List UInt8) => sl g b.length) gs L = zs) := hzs
        clear hzs hR hb1 hB1 hO2
        go_wp2_with (at_builtin; refine wpList_app _ rfl _ _ _ _ rfl elem_bytes w.heap.size _ _ rfl (Own.alloc hrow _) _ rfl [sl w1.heap.size inn.length] (src_one _ Tryd.underlying61 _ _ _ rfl rfl _) (by simp only [List.length_singleton, hzl]; unfold maxLen; omega) (by simp only [List.length_singleton, hzl]; omega) (by have := hbw2.size; simp; omega) ?_)
        intro v3 w3 hO3 hs3
        have hR3 : Rows2 w3 w.heap.size v3 (gs ++ [w1.heap.size]) (L ++ [inn]) := by
          rw [← Hzs.out] at hO3
          exact (hR2.below ((Below.refl _ _).alloc (Nat.le_refl _) _)).push (Own.alloc hN2 _) hgs hO3 hs3
        have hbw3 : Below w.heap.size w w3 := (hbw2.alloc hbw2.size _).trans (hs3.below (by have := hbw2.size; simp; omega) (fun k h => (hrow.lt k h).1))
        clear hO3 hs3 hR2 hN2 hrow hgs
        go_wp2
        go_roundw
        case rel => exact ⟨k + (8 + inn.length), _, _, by omega, by go_num, by simp; omega, hR3, hbw3, HN.out⟩
        case measure => simp [intOf]; omega

end Go.Proofs.YtjnmgnnaefiegaaDoor
