/- What wire's Frames comes to: the frames that bytes begin with, each in a new slice. The check 'knows' that every law of layer 1 ends with answers true. -/
import Derived.Test.YthmjejmignangaaGreatDoorWB
import Derived.Test.YthmjejmignangaaGreatDoorWG
namespace Go.Proofs.YthmjejmignangaaGreatDoor
open Go.RowKit

theorem firstOf_len {bs inn : List UInt8} (h : firstOf bs = some inn) : 8 + inn.length ≤ bs.length := by
  unfold firstOf at h
  split at h
  · cases h
  · split at h
    · cases h
    · split at h
      · cases h
      · split at h
        · cases h
        · cases h
          simp only [List.length_take, List.length_drop]
          omega
/-- The frames that bytes begin with, and how many bytes they have. -/
def framesOf (bs : List UInt8) : List (List UInt8) × Nat :=
  match h : firstOf bs with
  | none => ([], 0)
  | some inn => (inn :: (framesOf (bs.drop (8 + inn.length))).1, 8 + inn.length + (framesOf (bs.drop (8 + inn.length))).2)
termination_by bs.length
decreasing_by all_goals (have := firstOf_len h; simp only [List.length_drop]; omega)
theorem framesOf_none {bs : List UInt8} (h : firstOf bs = none) : framesOf bs = ([], 0) := by
  rw [framesOf]; split
  · rfl
  · rename_i h'; rw [h] at h'; cases h'
theorem framesOf_some {bs inn : List UInt8} (h : firstOf bs = some inn) : framesOf bs = (inn :: (framesOf (bs.drop (8 + inn.length))).1, 8 + inn.length + (framesOf (bs.drop (8 + inn.length))).2) := by
  rw [framesOf]; split
  · rename_i h'; rw [h] at h'; cases h'
  · rename_i h'; rw [h] at h'; cases h'; rfl

theorem Bs.from {w : World} {ao : Option Addr} {bs : List UInt8} (h : Bs w ao bs) (k cap : Nat) (hcap : bs.length ≤ cap) : Bs w (if cap = k then ao else ao.map (fun a => a.add k)) (bs.drop k) := by
  rcases h with rfl | ⟨b, off, rfl, hc⟩
  · left; simp
  · split
    · left; exact List.drop_eq_nil_of_le (by omega)
    · refine .inr ⟨b, off + k, ?_, fun j hj => ?_⟩
      · have hadd : (⟨b, off, none⟩ : Addr).add k = ⟨b, off + k, none⟩ := by unfold Addr.add; split <;> simp_all
        simp [hadd]
      · simp only [List.length_drop] at hj
        have := hc (k + j) (by omega)
        rw [← Nat.add_assoc] at this
        rw [this]
        simp

/-- A row of new slices: each in a block of its own. -/
def sl (g n : Nat) : Value := .slice (some ⟨g, 0, none⟩) n n
structure Rows2 (w : World) (base : Nat) (v : Value) (gs : List Nat) (L : List (List UInt8)) : Prop where
  len : gs.length = L.length
  row : Own w base 29 v (List.zipWith (fun g (b : List UInt8) => sl g b.length) gs L)
  each : ∀ i (h : i < L.length) (h' : i < gs.length), OwnB w base (sl gs[i] L[i].length) L[i]
  nodup : gs.Nodup

theorem elem_bytes : Elem Tryz.prog 23 29 24 := by
  refine ⟨Tryz.underlying23, ?_⟩
  obtain ⟨i0, hi, hz0, hz1, hz2⟩ := info_parts (show (Tryz.prog.info? 29).map (fun i => (i.zero, i.size, i.bytes)) = some (some (.slice none 0 0), 1, 24) by kernel_rfl)
  exact ⟨i0, _, hi, hz0, hz1, hz2, rfl⟩

theorem Own.below {w w' : World} {base : Nat} {e : TypeId} {v : Value} {xs : List Value} (h : Own w base e v xs) (hb : Below w.heap.size w w') : Own w' base e v xs := by
  refine ⟨h.1, ?_⟩
  rcases h.2 with h2 | ⟨g, cap, cur, rfl, hg, hh, r⟩
  · exact .inl h2
  · exact .inr ⟨g, cap, cur, rfl, hg, by rw [hb.block g (Array.getElem?_eq_some_iff.1 hh).1]; exact hh, r⟩
theorem Rows2.below {w w' : World} {base : Nat} {v : Value} {gs : List Nat} {L : List (List UInt8)} (h : Rows2 w base v gs L) (hb : Below w.heap.size w w') : Rows2 w' base v gs L :=
  ⟨h.len, Own.below h.row hb, fun i h1 h2 => Own.below (h.each i h1 h2) hb, h.nodup⟩
/-- A row of bytes is no row of slices. -/
theorem apart {w : World} {b b' g n : Nat} {e e' : TypeId} {v : Value} {xs ys : List Value} (hee : e ≠ e') (h : Own w b e (sl g n) xs) (k : Own w b' e' v ys) : (sl g n).ownBlock = none ∨ (sl g n).ownBlock ≠ v.ownBlock := by
  right
  intro he
  rcases h.2 with ⟨h2, _⟩ | ⟨g1, cap, cur, hv, _, hh, _⟩
  · cases h2
  · cases hv
    rcases k.2 with ⟨k2, _⟩ | ⟨g2, cap2, cur2, kv, _, kk, _⟩
    · rw [k2] at he; cases he
    · rw [kv] at he
      cases he
      rw [hh] at kk
      cases kk
      exact hee rfl
theorem own_base {w : World} {b b' g n : Nat} {e : TypeId} {xs : List Value} (h : Own w b e (sl g n) xs) (hb : b' ≤ b) : Own w b' e (sl g n) xs :=
  Own.mono h (fun k hk => Nat.le_trans hb (h.lt k hk).1)
/-- One slice more in the row. -/
theorem Rows2.push {w w' : World} {base : Nat} {v v' : Value} {gs : List Nat} {L : List (List UInt8)} {g : Nat} {b : List UInt8} (h : Rows2 w base v gs L) (hn : OwnB w base (sl g b.length) b) (hg : ∀ x ∈ gs, x < g)
    (ho : Own w' base 29 v' (List.zipWith (fun g (b : List UInt8) => sl g b.length) gs L ++ [sl g b.length])) (hs : Step w v w' v') : Rows2 w' base v' (gs ++ [g]) (L ++ [b]) := by
  refine ⟨by simp [h.len], ?_, fun i h1 h2 => ?_, ?_⟩
  · rw [List.zipWith_append h.len]; exact ho
  · by_cases hi : i < L.length
    · have hi' : i < gs.length := by rw [h.len]; exact hi
      rw [List.getElem_append_left hi, List.getElem_append_left hi']
      exact Own.kept (h.each i hi hi') hs.1 (apart (by decide) (h.each i hi hi') h.row)
    · have e1 : i = L.length := by simp at h1; omega
      have e2 : i = gs.length := by rw [h.len]; exact e1
      rw [List.getElem_append_right (by omega), List.getElem_append_right (by omega)]
      simp only [e1, Nat.sub_self, h.len, List.getElem_cons_zero]
      exact Own.kept hn hs.1 (apart (by decide) hn h.row)
  · rw [List.nodup_append]
    exact ⟨h.nodup, by simp, fun a ha b hb => by simp at hb; subst hb; have := hg a ha; omega⟩
theorem Rows2.lt {w : World} {base : Nat} {v : Value} {gs : List Nat} {L : List (List UInt8)} (h : Rows2 w base v gs L) : ∀ x ∈ gs, x < w.heap.size := by
  intro x hx
  obtain ⟨i, hi, rfl⟩ := List.getElem_of_mem hx
  exact ((h.each i (by rw [← h.len]; exact hi) hi).lt _ rfl).2

end Go.Proofs.YthmjejmignangaaGreatDoor
namespace Go.Proofs.YthmjejmignangaaGreatDoor
open Go.RowKit

theorem run_str {w : World} {ao : Option Addr} {bs : List UInt8} (h : Bs w ao bs) (cap : Nat) : (convert 29 9 (.slice ao bs.length cap)).run Tryz.prog w = .ok (.string ⟨bs.toArray⟩) w := by
  have nums : ∀ l : List UInt8, strOfNums (l.map fun b => (b.toNat : Int)) = ⟨l.toArray⟩ := fun l => by
    unfold strOfNums
    rw [List.map_map]
    congr 2
    conv => rhs; rw [← List.map_id l]
    apply List.map_congr_left
    intro b _
    simp
  rcases h with rfl | ⟨b, off, rfl, hc⟩
  · cases ao with
    | none => exact run_convert_bytes_nil w 29 5 Tryz.underlying29 Tryz.underlying5 0 cap 9 Tryz.underlying9
    | some a =>
      rw [run_convert_bytes_string w 29 9 5 _ _ cap Tryz.underlying29 Tryz.underlying5 Tryz.underlying9]
      exact (run_bytesToString w a 0 cap [] (by simp [loadCells, loadCellsFrom])).trans rfl
  · rw [run_convert_bytes_arg w 29 5 Tryz.underlying29 Tryz.underlying5 b off bs.length cap (bs.map fun b => (b.toNat : Int)) (by simp) (fun i hi => by rw [hc i hi]; simp [List.getD, hi]) 9 Tryz.underlying9, nums]

theorem Own.chg {w w' : World} {base : Nat} {e : TypeId} {v : Value} {xs : List Value} {S : Nat → Prop} (h : Own w base e v xs) (k : Chg w w' S) (hv : ∀ g, v.ownBlock = some g → ¬ S g) : Own w' base e v xs := by
  refine ⟨h.1, ?_⟩
  rcases h.2 with h2 | ⟨g, cap, cur, rfl, hg, hh, r⟩
  · exact .inl h2
  · exact .inr ⟨g, cap, cur, rfl, hg, by rw [k.block g (lt_of_block hh) (hv g rfl)]; exact hh, r⟩
theorem WStep.below {h : Nat} {w w' : World} {v v' : Value} (s : WStep h w v w' v') {B : Nat} (hB : B ≤ w.heap.size) (hh : B ≤ h) (hv : ∀ k, v.ownBlock = some k → B ≤ k) : Below B w w' :=
  s.1.below hB (fun i hi => by rcases hi with e | e
                               · omega
                               · exact hv i e)

/-- A call with one int, one text. -/
theorem int_one (p h base B : Nat) (v : Value) (bs : List UInt8) (x : Int) (w : World) (hB : w.heap.size = B) (H : WrE w p h v 0) (hO : OwnB w base v bs) (hbase : base ≤ w.heap.size) (hroom : bs.length + 8 ≤ 1048576) :
    Calls Tryz.prog 87 #[.pointer (some ⟨p, 0, none⟩), .slice (some ⟨B, 0, none⟩) 1 1] (w.alloc (.cells #[.int .i64 x] 3)) fun e w' => ∃ v', e = .returned (.int .i64 0) ∧ WrE w' p h v' 0 ∧ OwnB w' base v' (bs ++ be64 x) ∧ WStep h w v w' v' := by
  subst hB
  have hnew : ¬ WSet h v w.heap.size := fun e => by
    rcases e with e | e
    · have := lt_of_block H.hh; omega
    · have := (hO.lt _ e).2; omega
  refine (int_ok p h base v bs (some ⟨w.heap.size, 0, none⟩) 1 1 [x] _ (H.chg (Chg.alloc w _ (fun _ => False)) id id) (Own.alloc hO _) (by simp; omega) (by omega) rfl (fun w' hc => .inr ⟨w.heap.size, 0, rfl, fun j hj => ?_⟩) (by omega)).mono ?_
  · obtain rfl : j = 0 := by simp at hj; omega
    exact hc.cell (new_cell w _ _ 0 _ rfl) hnew
  · rintro e w' ⟨v', rfl, H', hO', hs⟩
    refine ⟨v', rfl, H', ?_, (WStep.alloc h w v _).trans hs⟩
    have e : ints [x] = be64 x := by simp [ints]
    rw [← e]; exact hO'
theorem firstOf_empty : firstOf (frameOf []) = some [] := by decide +kernel
theorem framesOf_empty : framesOf (frameOf []) = ([[]], 8) := by
  rw [framesOf_some firstOf_empty]
  have e : (frameOf []).drop (8 + ([] : List UInt8).length) = [] := List.drop_eq_nil_of_le (by simp [frameOf, be_length])
  rw [e, framesOf_none (by rfl)]
  rfl

end Go.Proofs.YthmjejmignangaaGreatDoor
