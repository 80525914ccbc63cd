/- What ref's Frames comes to. -/
import Derived.Test.YtjnmgnnaefiegaaDoorRO
namespace Go.Proofs.YtjnmgnnaefiegaaDoor
open Go.RowKit

/-- A row of slices, each of one's own. -/
structure RowsV (w : World) (base : Nat) (v : Value) (vs : List Value) (L : List (List UInt8)) : Prop where
  len : vs.length = L.length
  row : Own w base 26 v vs
  each : ∀ i (h : i < L.length) (h' : i < vs.length), OwnB w base vs[i] L[i]
theorem RowsV.below {w w' : World} {base : Nat} {v : Value} {vs : List Value} {L : List (List UInt8)} (h : RowsV w base v vs L) (hb : Below w.heap.size w w') : RowsV w' base v vs L :=
  ⟨h.len, Own.below h.row hb, fun i h1 h2 => Own.below (h.each i h1 h2) hb⟩
theorem apartV {w : World} {b b' : Nat} {e e' : TypeId} {u v : Value} {xs ys : List Value} (hee : e ≠ e') (h : Own w b e u xs) (k : Own w b' e' v ys) : u.ownBlock = none ∨ u.ownBlock ≠ v.ownBlock := by
  rcases h.2 with ⟨h2, _⟩ | ⟨g1, cap, cur, hv, _, hh, _⟩
  · left; rw [h2]; rfl
  · right
    intro he
    rw [hv] at he
    rcases k.2 with ⟨k2, _⟩ | ⟨g2, cap2, cur2, kv, _, kk, _⟩
    · rw [k2] at he; cases he
    · rw [kv] at he
      cases he
      rw [hh] at kk
      cases kk
      exact hee rfl
theorem own_baseV {w : World} {b b' : Nat} {e : TypeId} {u : Value} {xs : List Value} (h : Own w b e u xs) (hb : b' ≤ b) : Own w b' e u xs :=
  Own.mono h (fun k hk => Nat.le_trans hb (h.lt k hk).1)
theorem RowsV.push {w w' : World} {base : Nat} {v v' u : Value} {vs : List Value} {L : List (List UInt8)} {b : List UInt8} (h : RowsV w base v vs L) (hn : OwnB w base u b)
    (ho : Own w' base 26 v' (vs ++ [u])) (hs : Step w v w' v') : RowsV w' base v' (vs ++ [u]) (L ++ [b]) := by
  refine ⟨by simp [h.len], ho, fun i h1 h2 => ?_⟩
  by_cases hi : i < L.length
  · have hi' : i < vs.length := by rw [h.len]; exact hi
    rw [List.getElem_append_left hi, List.getElem_append_left hi']
    exact Own.kept (h.each i hi hi') hs.1 (apartV (by decide) (h.each i hi hi') h.row)
  · have e1 : i = L.length := by simp at h1; omega
    have e2 : i = vs.length := by rw [h.len]; exact e1
    rw [List.getElem_append_right (by omega), List.getElem_append_right (by omega)]
    simp only [e1, Nat.sub_self, h.len, List.getElem_cons_zero]
    exact Own.kept hn hs.1 (apartV (by decide) hn h.row)

set_option maxHeartbeats 1000000 in
theorem refFrames_any (ao : Option Addr) (len cap : Nat) (bs : List UInt8) (w : World) (hl : bs.length = len) (hm : 3 * len ≤ 140737488355328) (hcap : len ≤ cap) (_hcm : cap ≤ maxLen) (hb : Bs w ao bs) :
    Calls Tryd.prog 39 #[.slice ao len cap] w fun e w' => ∃ v vs, e = .returned (.tuple #[v, .int .i64 ((framesOf bs).2 : Nat)]) ∧ RowsV w' w.heap.size v vs (framesOf bs).1 ∧ Below w.heap.size w w' := by
  unfold maxLen at _hcm
  go_enter Tryd.func39, Tryd.ntmps39
  go_wp2
  go_loopw [4, 5] (fun v e wr => ∃ (k : Nat) (vs : List Value) (L : List (List UInt8)), k ≤ len ∧ e = .int .i64 k ∧ 8 * L.length ≤ k ∧ RowsV wr w.heap.size v vs L ∧ Below w.heap.size w wr ∧ framesOf bs = (L ++ (framesOf (bs.drop k)).1, k + (framesOf (bs.drop k)).2)) (fun _ e _ => len - (intOf e).toNat)
  case atStart => exact ⟨0, [], [], Nat.zero_le _, rfl, Nat.le_refl _, ⟨rfl, Own.nil _ _ _, fun i h => by simp at h⟩, Below.refl _ _, by simp⟩
  case round =>
    obtain ⟨k, vs, L, hk, rfl, hL, hR, hbel, hF⟩ := hrel
    have hbk := (hb.keep (below_keep hbel)).from k cap (by omega)
    have HF : Hid (framesOf bs = (L ++ (framesOf (bs.drop k)).1, k + (framesOf (bs.drop k)).2)) := hF
    have hdl : (bs.drop k).length = len - k := by simp [hl]
    clear hF
    have hbk1 : cap = k → Bs wr ao (bs.drop k) := fun h => by rw [if_pos h] at hbk; exact hbk
    have hbk2 : ¬ cap = k → Bs wr (ao.map (fun a => a.add k)) (bs.drop k) := fun h => by rw [if_neg h] at hbk; exact hbk
    clear hbk
    cases hfo : firstOf (bs.drop k) with
      | none =>
        have HN : Hid (framesOf bs = (L, k)) := hid (by have := HF.out; rw [framesOf_none hfo] at this; simpa using this)
        have Hfo : Hid (firstOf (bs.drop k) = none) := hfo
        clear HF hfo
        by_cases hck : cap = k
        all_goals
          go_wp2_with fail
          refine (refOne_any _ (len - k) _ (bs.drop k) wr hdl (by omega) (by omega) (by first | exact hbk1 hck | exact hbk2 hck)).mono ?_
          intro e w1 hE
          obtain ⟨rfl, hb1⟩ : e = .returned (.tuple #[.slice none 0 0, .int .i64 0, .bool false]) ∧ Below wr.heap.size wr w1 := by
            rcases hE with ⟨_, h1, h2⟩ | ⟨_, _, h1, _⟩
            · exact ⟨h1, h2⟩
            · rw [Hfo.out] at h1; cases h1
          clear hE
          go_wp2
          go_ret2
          exact ⟨u4, vs, by rw [HN.out]; rfl, by rw [HN.out]; exact hR.below hb1, hbel.trans (hb1.mono hbel.size)⟩
      | some inn =>
        have hil := firstOf_len hfo
        rw [hdl] at hil
        have hck : ¬ cap = k := by omega
        have HN : Hid (framesOf bs = (L ++ [inn] ++ (framesOf (bs.drop (k + (8 + inn.length)))).1, k + (8 + inn.length) + (framesOf (bs.drop (k + (8 + inn.length)))).2)) := hid (by
          have := HF.out
          rw [framesOf_some hfo, List.drop_drop] at this
          rw [this]
          simp [Nat.add_assoc])
        have Hfo : Hid (firstOf (bs.drop k) = some inn) := hfo
        clear HF hfo
        go_wp2_with fail
        refine (refOne_any _ (len - k) _ (bs.drop k) wr hdl (by omega) (by omega) (hbk2 hck)).mono ?_
        intro e w1 hE
        obtain ⟨v1, rfl, hN1', hb1⟩ : ∃ v1, e = .returned (.tuple #[v1, .int .i64 ((8 + inn.length : Nat) : Int), .bool true]) ∧ OwnB w1 wr.heap.size v1 inn ∧ Below wr.heap.size wr w1 := by
          rcases hE with ⟨h1, _, _⟩ | ⟨inn', v, h1, h2, h3, h4⟩
          · rw [Hfo.out] at h1; cases h1
          · rw [Hfo.out] at h1; cases h1; exact ⟨v, h2, h3, h4⟩
        clear hE
        have hbw1 : Below w.heap.size w w1 := hbel.trans (hb1.mono hbel.size)
        have hR1 : RowsV w1 w.heap.size u4 vs L := hR.below hb1
        have hN1 : OwnB w1 w.heap.size v1 inn := own_baseV hN1' hbel.size
        obtain ⟨ao1, c1, hv1, _, _, _, _, _⟩ := Own.bs hN1
        subst hv1
        have hrow := hR1.row
        have hzl := hR1.len
        clear hR hb1 hN1'
        go_wp2_with (at_builtin; go_loud (refine wpList_app _ rfl _ _ _ _ rfl elem_bytes w.heap.size _ _ rfl (Own.alloc hrow _) _ rfl [.slice ao1 inn.length c1] (src_one _ Tryd.underlying61 _ _ _ rfl rfl _) (by simp only [List.length_singleton, hzl]; unfold maxLen; omega) (by simp only [List.length_singleton, hzl]; omega) (by have := hbw1.size; simp; omega) ?_))
        intro v3 w3 hO3 hs3
        have hR3 : RowsV w3 w.heap.size v3 (vs ++ [.slice ao1 inn.length c1]) (L ++ [inn]) := (hR1.below ((Below.refl _ _).alloc (Nat.le_refl _) _)).push (Own.alloc hN1 _) hO3 hs3
        have hbw3 : Below w.heap.size w w3 := (hbw1.alloc hbw1.size _).trans (hs3.below (by have := hbw1.size; simp; omega) (fun k h => (hrow.lt k h).1))
        clear hO3 hs3 hR1 hN1 hrow hzl
        go_wp2
        go_roundw
        case rel => exact ⟨k + (8 + inn.length), _, _, by omega, by go_num, by simp; omega, hR3, hbw3, HN.out⟩
        case measure => simp [intOf]; omega
end Go.Proofs.YtjnmgnnaefiegaaDoor
