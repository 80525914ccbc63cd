/- types' open blocks: innermost, innermostLoop, close, begin, on a walk's state. types' open blocks: close, begin. slices.Equal, slices.EqualFunc, and code.Same of any two scripts. -/
import Derived.Test.YtfnpngbcnmglfaaGreatTE
import Derived.Test.YtfnpngbcnmglfaaGreatCS
namespace Go.Proofs.YtfnpngbcnmglfaaGreat
open Go.RowKit Go.Shelf
theorem elemN_ptr : ElemN Tryz.prog 125 225 1 8 := by
  refine ⟨Tryz.underlying125, ?_, by decide⟩
  obtain ⟨i, hi, h1, h2, h3⟩ := info_parts (show (Tryz.prog.info? 225).map (fun i => (i.zero, i.size, i.bytes)) = some (some (.pointer none), 1, 8) by kernel_rfl)
  exact ⟨i, _, hi, h1, h2, h3, rfl⟩
/-- An open block: the stack behind what opened it, and the one that must stand ahead of its end. -/
structure OB where
  en : List Int
  la : List Int
  lo : Bool
def cellsP (bs : List Nat) : List Value := bs.map fun b => .pointer (some ⟨b, 0, none⟩)
theorem cellsP_len (bs : List Nat) : (cellsP bs).length = bs.length := by simp [cellsP]
theorem cellsP_one (bs : List Nat) : ∀ u ∈ cellsP bs, u.oneCell' = true := by
  intro u hu
  simp only [cellsP, List.mem_map] at hu
  obtain ⟨b, _, rfl⟩ := hu
  rfl
/-- The blocks of any kind but walks, open blocks and rows of pointers to them lie as they lay. -/
def Mv7 (W W' : World) : Prop := W.heap.size ≤ W'.heap.size ∧ ∀ (k : Nat) (cur : Array Value) (t : TypeId) (z : Nat × Nat), t ≠ 129 → t ≠ 228 → t ≠ 225 → W.heap[k]? = some (.cells cur t z) → W'.heap[k]? = some (.cells cur t z)
theorem Mv7.refl (W : World) : Mv7 W W := ⟨Nat.le_refl _, fun _ _ _ _ _ _ _ h => h⟩
theorem Mv7.trans {A B C : World} (h : Mv7 A B) (g : Mv7 B C) : Mv7 A C := ⟨Nat.le_trans h.1 g.1, fun k cur t z h1 h2 h3 hk => g.2 k cur t z h1 h2 h3 (h.2 k cur t z h1 h2 h3 hk)⟩
theorem Mv7.below {W W' : World} (h : Below W.heap.size W W') : Mv7 W W' := ⟨h.size, fun k _ _ _ _ _ _ hk => (h.block k (blk_lt hk)).trans hk⟩
theorem Mv7.set {W : World} {b o : Nat} {cs : Array Value} {t0 : TypeId} {z : Nat × Nat} {u : Value} (hb : W.heap[b]? = some (.cells cs t0 z)) (ht : t0 = 129 ∨ t0 = 228 ∨ t0 = 225) : Mv7 W (W.setCell ⟨b, o, none⟩ u) := by
  refine ⟨by simp [World.setCell], fun k cur t z' h1 h2 h3 hk => (Below.heap_setCell _ _ _ k fun e => ?_).trans hk⟩
  subst e
  rw [hb] at hk
  cases hk
  rcases ht with rfl | rfl | rfl
  · exact h1 rfl
  · exact h2 rfl
  · exact h3 rfl
theorem Mv7.step {W W' : World} {base n : Nat} {v v' : Value} {xs : List Value} (hr : W.ownsRow base 225 1 v n xs) (hs : Step W v W' v') : Mv7 W W' := by
  refine ⟨hs.1.size, fun k cur t z h1 h2 h3 hk => (hs.1.block k (blk_lt hk) fun h => ?_).trans hk⟩
  rcases hr.2 with ⟨rfl, _⟩ | ⟨g, cap, cur', rfl, _, hh, _⟩
  · cases h
  · cases h
    rw [hk] at hh
    cases hh
    exact h3 rfl
/-- A row of numbers that lies in a block of numbers, from block B on. -/
def NsIn (B : Nat) (W : World) (a : Option Addr) (ns : List Int) : Prop := (ns = [] ∧ (a = none ∨ ∃ b off, a = some ⟨b, off, none⟩)) ∨ ∃ b off cur, a = some ⟨b, off, none⟩ ∧ B ≤ b ∧ W.heap[b]? = some (.cells cur 3 (0, 0)) ∧ ∀ j (h : j < ns.length), W.cell? ⟨b, off + j, none⟩ = some (.int .i64 ns[j])
theorem NsIn.at' {B : Nat} {W : World} {a : Option Addr} {ns : List Int} (h : NsIn B W a ns) : NsAt W.cell? a ns := by
  rcases h with h | ⟨b, off, cur, e, hB, hb, hc⟩
  · exact .inl h.1
  · exact .inr ⟨b, off, e, hc⟩
theorem NsIn.mv {B : Nat} {W W' : World} {a : Option Addr} {ns : List Int} (h : NsIn B W a ns) (m : Mv7 W W') : NsIn B W' a ns := by
  rcases h with h | ⟨b, off, cur, e, hB, hb, hc⟩
  · exact .inl h
  · have hb' := m.2 b cur 3 (0, 0) (by decide) (by decide) (by decide) hb
    exact .inr ⟨b, off, cur, e, hB, hb', fun j hj => (cell_heap7 (hb'.trans hb.symm)).trans (hc j hj)⟩
theorem NsIn.below {B : Nat} {W W' : World} {a : Option Addr} {ns : List Int} (h : NsIn B W a ns) (hb : Below W.heap.size W W') : NsIn B W' a ns := h.mv (Mv7.below hb)
theorem ns_in_row {W : World} {base n : Nat} {a : Option Addr} {c : Nat} {ns : List Int} (h : W.ownsRow base 3 1 (.slice a n c) n (cellsN ns)) : NsIn base W a ns := by
  obtain ⟨hn, a', c', e, _, hN⟩ := ns_of_row h (C := W.cell?) (fun _ _ _ h => h)
  cases e
  rcases hN with h0 | ⟨b, off, rfl, hc⟩
  · refine .inl ⟨h0, ?_⟩
    obtain ⟨_, _, e, _, _, hx⟩ := row_form h
    cases e
    rcases hx with ⟨hx, _⟩ | ⟨g, hx, _⟩
    · exact .inl hx
    · exact .inr ⟨g, 0, hx⟩
  · rcases h.2 with ⟨e, _⟩ | ⟨g, cap, cur, e, hg, hh, _⟩
    · cases e
    · cases e
      exact .inr ⟨_, _, cur, rfl, hg, hh, hc⟩
theorem NsIn.low {B B' : Nat} {W : World} {a : Option Addr} {ns : List Int} (h : NsIn B W a ns) (hB : B' ≤ B) : NsIn B' W a ns := by
  rcases h with h | ⟨b, off, cur, e, h1, h2⟩
  · exact .inl h
  · exact .inr ⟨b, off, cur, e, Nat.le_trans hB h1, h2⟩
/-- Block b of the heap holds an open block. -/
def OBat (B : Nat) (x : OB) (b : Nat) (W : World) : Prop := ∃ a1 c1 a2 c2, W.heap[b]? = some (.cells #[.slice a1 x.en.length c1, .slice a2 x.la.length c2, .bool x.lo] 228 (0, 0)) ∧ x.en.length ≤ c1 ∧ x.la.length ≤ c2 ∧ NsIn B W a1 x.en ∧ NsIn B W a2 x.la
theorem OBat.below {B : Nat} {x : OB} {b : Nat} {W W' : World} (h : OBat B x b W) (hb : Below W.heap.size W W') : OBat B x b W' := by
  obtain ⟨a1, c1, a2, c2, h1, h2, h3, h4, h5⟩ := h
  exact ⟨a1, c1, a2, c2, (hb.block _ (blk_lt h1)).trans h1, h2, h3, h4.below hb, h5.below hb⟩
/-- A walk's state: its stack, its open blocks and where they lie. -/
structure WStA (wb : Nat) (fv sv : Value) (p : List Int) (L : List OB) (a : Option Addr) (c : Nat) (la : Option Addr) (lc : Nat) (bs : List Nat) (W : World) : Prop where
  box : W.heap[wb]? = some (.cells #[fv, sv, .slice a p.length c, .slice la L.length lc] 129 (0, 0))
  cap : p.length ≤ c
  stk : NsIn wb W a p
  row : W.ownsRow (wb + 1) 225 1 (.slice la L.length lc) L.length (cellsP bs)
  len : bs.length = L.length
  nod : bs.Nodup
  gt : ∀ b ∈ bs, wb < b
  blk : ∀ i (h : i < L.length), OBat wb L[i] (bs.getD i 0) W
theorem four_cell {w : World} {b : Nat} {x y z u : Value} {t : TypeId} (h : w.heap[b]? = some (.cells #[x, y, z, u] t (0, 0))) : (w.cell? ⟨b, 0, none⟩ = some x ∧ w.cell? ⟨b, 1, none⟩ = some y ∧ w.cell? ⟨b, 2, none⟩ = some z ∧ w.cell? ⟨b, 3, none⟩ = some u) ∧ w.frozen? ⟨b, 2, none⟩ = false ∧ w.frozen? ⟨b, 3, none⟩ = false := by
  simp [World.cell?, World.frozen?, h]
theorem three_cell7 {w : World} {b : Nat} {x y z : Value} {t : TypeId} (h : w.heap[b]? = some (.cells #[x, y, z] t (0, 0))) : (w.cell? ⟨b, 0, none⟩ = some x ∧ w.cell? ⟨b, 1, none⟩ = some y ∧ w.cell? ⟨b, 2, none⟩ = some z) ∧ w.frozen? ⟨b, 1, none⟩ = false := by
  simp [World.cell?, World.frozen?, h]
theorem WStA.below {wb : Nat} {fv sv : Value} {p : List Int} {L : List OB} {a : Option Addr} {c : Nat} {la : Option Addr} {lc : Nat} {bs : List Nat} {W W' : World} (h : WStA wb fv sv p L a c la lc bs W) (hb : Below W.heap.size W W') : WStA wb fv sv p L a c la lc bs W' := by
  refine ⟨(hb.block _ (blk_lt h.box)).trans h.box, h.cap, h.stk.below hb, ?_, h.len, h.nod, h.gt, fun i hi => (h.blk i hi).below hb⟩
  refine ⟨h.row.1, ?_⟩
  rcases h.row.2 with h2 | ⟨g, cap, cur, e, hg, hh, r⟩
  · exact .inl h2
  · exact .inr ⟨g, cap, cur, e, hg, (hb.block g (blk_lt hh)).trans hh, r⟩
theorem ps_of_row {w : World} {base n : Nat} {e : TypeId} {a : Option Addr} {c : Nat} {bs : List Nat} (h : w.ownsRow base e 1 (.slice a n c) n (cellsP bs)) : PsAt w.cell? a bs := by
  have hn : n = bs.length := by have := h.1; rw [cellsP_len] at this; omega
  subst hn
  obtain ⟨a', c', e', _, _, hx⟩ := row_form h
  cases e'
  rcases hx with ⟨_, h0, _⟩ | ⟨g, rfl, hg, _, hcell⟩
  · exact .inl (List.eq_nil_of_length_eq_zero h0)
  · exact .inr ⟨g, 0, rfl, fun j hj => by rw [Nat.zero_add]; exact hcell j _ (by simp [cellsP, hj])⟩
theorem fst_true (m : Nat) : fstIx (fun _ => true) (m + 1) = some m := by rw [fstIx, if_pos rfl]
/-- The place of the innermost loop. -/
def lpIx (L : List OB) : Option Nat := fstIx (fun i => (L[i]?.map OB.lo).getD false) L.length
set_option maxRecDepth 100000 in
set_option maxHeartbeats 1000000 in
theorem innermost7_any {wb : Nat} {fv sv : Value} {p : List Int} {L : List OB} {a : Option Addr} {c : Nat} {la : Option Addr} {lc : Nat} {bs : List Nat} (m : Nat) (hm : L.length = m + 1) (bm : m ≤ 1000) (W : World) (h : WStA wb fv sv p L a c la lc bs W) :
    Calls Tryz.prog 187 #[.pointer (some ⟨wb, 3, none⟩)] W fun e w' => e = .returned (.pointer (some ⟨bs.getD m 0, 0, none⟩)) ∧ Below W.heap.size W w' := by
  have hF := first_yes wb la lc L.length bs (fun _ => true) h.len (by omega) W (four_cell h.box).1.2.2.2 (ps_of_row h.row) (fun W _ i _ => yes_any _ W)
  rw [hm, fst_true] at hF
  unfold FirstEnd7 ptrB at hF
  have HF := hid7 hF
  clear hF h
  go_enter Tryz.func187, Tryz.ntmps187
  go_wp2_with (first | (go_at_call 219; refine HF.out.mono ?_; rintro e w1 ⟨rfl, b1⟩) | fail)
  go_ret
  exact ⟨rfl, b1⟩
set_option maxRecDepth 100000 in
set_option maxHeartbeats 1000000 in
theorem innerLoop7_any {wb : Nat} {fv sv : Value} {p : List Int} {L : List OB} {a : Option Addr} {c : Nat} {la : Option Addr} {lc : Nat} {bs : List Nat} (i : Nat) (hi : lpIx L = some i) (bm : L.length ≤ 1000) (W : World) (h : WStA wb fv sv p L a c la lc bs W) :
    Calls Tryz.prog 189 #[.pointer (some ⟨wb, 3, none⟩)] W fun e w' => e = .returned (.pointer (some ⟨bs.getD i 0, 0, none⟩)) ∧ Below W.heap.size W w' := by
  have hF := first_loop wb la lc L.length bs (fun i => (L[i]?.map OB.lo).getD false) h.len (by omega) W (four_cell h.box).1.2.2.2 (ps_of_row h.row) (fun W' hW j hj => by
    obtain ⟨a1, c1, a2, c2, h1, _⟩ := (h.blk j hj).below hW
    have := loopQ_any (bs.getD j 0) L[j].lo W' (three_cell7 h1).1.2.2
    rw [List.getElem?_eq_getElem hj]
    exact this)
  rw [show fstIx (fun i => (L[i]?.map OB.lo).getD false) L.length = some i from hi] at hF
  unfold FirstEnd7 ptrB at hF
  have HF := hid7 hF
  clear hF h
  go_enter Tryz.func189, Tryz.ntmps189
  go_wp2_with (first | (go_at_call 219; refine HF.out.mono ?_; rintro e w1 ⟨rfl, b1⟩) | fail)
  go_ret
  exact ⟨rfl, b1⟩
end Go.Proofs.YtfnpngbcnmglfaaGreat
namespace Go.Proofs.YtfnpngbcnmglfaaGreat
open Go.RowKit Go.Shelf
theorem four_set3 {w : World} {b : Nat} {x y z u v : Value} {t : TypeId} (h : w.heap[b]? = some (.cells #[x, y, z, u] t (0, 0))) : (w.setCell ⟨b, 3, none⟩ v).heap[b]? = some (.cells #[x, y, z, v] t (0, 0)) := by
  simp [World.setCell, Array.getElem?_modify, h]
theorem four_set2 {w : World} {b : Nat} {x y z u v : Value} {t : TypeId} (h : w.heap[b]? = some (.cells #[x, y, z, u] t (0, 0))) : (w.setCell ⟨b, 2, none⟩ v).heap[b]? = some (.cells #[x, y, v, u] t (0, 0)) := by
  simp [World.setCell, Array.getElem?_modify, h]
theorem three_set1 {w : World} {b : Nat} {x y z v : Value} {t : TypeId} (h : w.heap[b]? = some (.cells #[x, y, z] t (0, 0))) : (w.setCell ⟨b, 1, none⟩ v).heap[b]? = some (.cells #[x, v, z] t (0, 0)) := by
  simp [World.setCell, Array.getElem?_modify, h]
/-- A cell of block b is written: what lies in other blocks. -/
theorem OBat.other {B : Nat} {x : OB} {b k o : Nat} {W : World} {u : Value} {cs : Array Value} {t0 : TypeId} {z : Nat × Nat} (h : OBat B x b W) (hb : W.heap[k]? = some (.cells cs t0 z)) (ht : t0 = 129 ∨ t0 = 228 ∨ t0 = 225) (hne : b ≠ k) : OBat B x b (W.setCell ⟨k, o, none⟩ u) := by
  obtain ⟨a1, c1, a2, c2, h1, h2, h3, h4, h5⟩ := h
  have m := Mv7.set (o := o) (u := u) hb ht
  exact ⟨a1, c1, a2, c2, (Below.heap_setCell _ _ _ b hne).trans h1, h2, h3, h4.mv m, h5.mv m⟩
theorem row_less7 {W : World} {base n m : Nat} {e : TypeId} {a : Option Addr} {c : Nat} {bs : List Nat} (h : W.ownsRow base e 1 (.slice a n c) n (cellsP bs)) (hm : n = m + 1) : W.ownsRow base e 1 (.slice a m c) m (cellsP bs.dropLast) := by
  subst hm
  have hl : bs.length = m + 1 := by have := h.1; rw [cellsP_len] at this; omega
  refine ⟨by rw [cellsP_len, List.length_dropLast, hl]; omega, ?_⟩
  rcases h.2 with ⟨e', _⟩ | ⟨g, cap, cur, e', hg, hh, h1, h2, h3, h4⟩
  · cases e'
  · cases e'
    refine .inr ⟨g, _, cur, rfl, hg, hh, by omega, h2, h3, ?_⟩
    rw [Nat.mul_one] at h4 ⊢
    have : cellsP bs.dropLast = (cellsP bs).take m := by
      rw [cellsP, cellsP, List.map_dropLast, List.dropLast_eq_take, List.length_map, hl]; rfl
    rw [this, ← h4, List.take_take]
    congr 1
    omega
def CloseEnd7 (wb : Nat) (fv sv : Value) (p : List Int) (L : List OB) (a : Option Addr) (c : Nat) (la : Option Addr) (lc : Nat) (bs : List Nat) (b : Nat) (W : World) (e : Ending) (w' : World) : Prop := e = .returned (.pointer (some ⟨b, 0, none⟩)) ∧ WStA wb fv sv p L a c la lc bs w' ∧ Below wb W w' ∧ Mv7 W w'
theorem WStA.closed {wb : Nat} {fv sv : Value} {p : List Int} {L : List OB} {x : OB} {a : Option Addr} {c : Nat} {la : Option Addr} {lc : Nat} {bs : List Nat} {W : World} (h : WStA wb fv sv p (L ++ [x]) a c la lc bs W) (n : Nat) (hn : n = L.length) :
    WStA wb fv sv p L a c la lc bs.dropLast (W.setCell ⟨wb, 3, none⟩ (.slice la n lc)) ∧ Below wb W (W.setCell ⟨wb, 3, none⟩ (.slice la n lc)) ∧ Mv7 W (W.setCell ⟨wb, 3, none⟩ (.slice la n lc)) ∧ OBat wb x (bs.getD n 0) (W.setCell ⟨wb, 3, none⟩ (.slice la n lc)) := by
  subst hn
  have hl : bs.length = L.length + 1 := by rw [h.len]; simp
  have hm := Mv7.set (o := 3) (u := .slice la L.length lc) h.box (.inl rfl)
  have hne : ∀ i, i < L.length + 1 → bs.getD i 0 ≠ wb := fun i hi e => by
    have : bs.getD i 0 ∈ bs := by
      rw [List.getD_eq_getElem?_getD, List.getElem?_eq_getElem (by omega)]
      exact List.getElem_mem _
    have := h.gt _ this
    omega
  refine ⟨⟨four_set3 h.box, h.cap, h.stk.mv hm, ?_, by rw [List.length_dropLast, hl]; rfl, h.nod.sublist (List.dropLast_sublist _), fun b hb => h.gt b (List.dropLast_subset _ hb), fun i hi => ?_⟩, (Below.refl _ W).setCell (p := ⟨wb, 3, none⟩) (Nat.le_refl _) _, hm, ?_⟩
  · have hr := row_less7 h.row (m := L.length) (by simp)
    refine row_other6 hr h.box (by decide)
  · have := h.blk i (by simp; omega)
    rw [List.getElem_append_left hi] at this
    have e : bs.dropLast.getD i 0 = bs.getD i 0 := by
      rw [List.getD_eq_getElem?_getD, List.getD_eq_getElem?_getD, List.dropLast_eq_take, List.getElem?_take, if_pos (by omega)]
    rw [e]
    exact this.other h.box (.inl rfl) (hne i (by omega))
  · have := h.blk L.length (by simp)
    rw [List.getElem_append_right (Nat.le_refl _)] at this
    simp only [Nat.sub_self, List.getElem_cons_zero] at this
    exact this.other h.box (.inl rfl) (hne _ (by omega))
set_option maxRecDepth 100000 in
set_option maxHeartbeats 1000000 in
theorem close7_any {wb : Nat} {fv sv : Value} {p : List Int} {L : List OB} {x : OB} {a : Option Addr} {c : Nat} {la : Option Addr} {lc : Nat} {bs : List Nat} (bm : L.length ≤ 1000) (W : World) (h : WStA wb fv sv p (L ++ [x]) a c la lc bs W) :
    Calls Tryz.prog 188 #[.pointer (some ⟨wb, 3, none⟩)] W fun e w' => e = .returned (.pointer (some ⟨bs.getD L.length 0, 0, none⟩)) ∧ WStA wb fv sv p L a c la lc bs.dropLast w' ∧ Below wb W w' ∧ Mv7 W w' ∧ OBat wb x (bs.getD L.length 0) w' := by
  have hI := innermost7_any L.length (by simp) bm W h
  obtain ⟨n, hn⟩ : ∃ n, n = L.length := ⟨_, rfl⟩
  have HK : Hid (∀ w1, Below W.heap.size W w1 → (w1.cell? ⟨wb, 3, none⟩ = some (.slice la (n + 1) lc) ∧ w1.frozen? ⟨wb, 3, none⟩ = false) ∧ WStA wb fv sv p L a c la lc bs.dropLast (w1.setCell ⟨wb, 3, none⟩ (.slice la n lc)).drew ∧ Below wb W (w1.setCell ⟨wb, 3, none⟩ (.slice la n lc)).drew ∧ Mv7 W (w1.setCell ⟨wb, 3, none⟩ (.slice la n lc)).drew ∧ OBat wb x (bs.getD n 0) (w1.setCell ⟨wb, 3, none⟩ (.slice la n lc)).drew) := hid7 fun w1 hb => by
    have h1 := h.below hb
    have hc := four_cell h1.box
    have hlt := blk_lt h.box
    refine ⟨⟨?_, hc.2.2⟩, ?_⟩
    · have := hc.1.2.2.2
      rw [List.length_append, List.length_singleton, ← hn] at this
      exact this
    · obtain ⟨q1, q2, q3, q4⟩ := h1.closed n hn
      exact ⟨⟨q1.box, q1.cap, q1.stk, q1.row, q1.len, q1.nod, q1.gt, q1.blk⟩, (hb.mono (by omega)).trans q2.drew, (Mv7.below hb).trans ⟨q3.1, q3.2⟩, q4⟩
  have hlc : n + 1 ≤ lc := by
    obtain ⟨_, _, e, h1, _⟩ := row_form h.row
    cases e
    simp at h1
    omega
  have hla : ∃ g, la = some ⟨g, 0, none⟩ := by
    obtain ⟨_, _, e, _, _, h1⟩ := row_form h.row
    cases e
    rcases h1 with ⟨_, h0, _⟩ | ⟨g, e, _⟩
    · simp at h0
    · exact ⟨g, e⟩
  obtain ⟨g, rfl⟩ := hla
  rw [← hn] at hI bm ⊢
  have hw : IntKind.i64.wrap (n : Int) = (n : Int) := by rw [IntKind.wrap_i64]; omega
  have hcc : (n : Int) ≤ (lc : Int) := by omega
  have HI := hid7 hI
  clear hn h hI
  go_enter Tryz.func188, Tryz.ntmps188
  go_wp2_with (first | (go_at_call 187; refine HI.out.mono ?_; clear HI; rintro e w1 ⟨rfl, b1⟩; obtain ⟨⟨c3, z3⟩, HE⟩ := HK.out w1 b1; have HE := hid7 HE) | fail)
  go_region_law fail
  all_goals
    go_wp2
    go_ret
    exact ⟨rfl, HE.out⟩
theorem cellsP_snoc (bs : List Nat) (b : Nat) : cellsP (bs ++ [b]) = cellsP bs ++ [.pointer (some ⟨b, 0, none⟩)] := by simp [cellsP]
set_option maxRecDepth 100000 in
set_option maxHeartbeats 1000000 in
theorem begin7_any {wb : Nat} {fv sv : Value} {p : List Int} {L : List OB} {a : Option Addr} {c : Nat} {la : Option Addr} {lc : Nat} {bs : List Nat} (bm : L.length ≤ 1000) (W : World) (h : WStA wb fv sv p L a c la lc bs W) (en : List Int) (ea : Option Addr) (ec n : Nat) (hn : en.length = n) (hec : n ≤ ec) (hE : NsIn wb W ea en) (l : Bool) :
    Calls Tryz.prog 186 #[.pointer (some ⟨wb, 3, none⟩), .slice ea n ec, .bool l] W fun e w' => e = .returned (.tuple #[]) ∧ (∃ la' lc' b', WStA wb fv sv p (L ++ [⟨en, en, l⟩]) a c la' lc' (bs ++ [b']) w') ∧ Below wb W w' ∧ Mv7 W w' := by
  have hcx := four_cell h.box
  have c3 := hcx.1.2.2.2
  have hlt := blk_lt h.box
  -- the world with the block's struct and the row of one pointer
  have b1 := (Below.refl _ W).alloc (Nat.le_refl _) (.cells #[.slice ea n ec, .slice ea n ec, .bool l] 228)
  have b2 := b1.alloc (by simp) (.cells #[.pointer (some ⟨W.heap.size, 0, none⟩)] 225)
  have HR := hid7 (World.ownsRow.alloc (World.ownsRow.alloc h.row (.cells #[.slice ea n ec, .slice ea n ec, .bool l] 228)) (.cells #[.pointer (some ⟨W.heap.size, 0, none⟩)] 225))
  obtain ⟨m, hm⟩ : ∃ m, m = L.length := ⟨_, rfl⟩
  rw [← hm] at c3 HR bm
  have HX : Hid (∀ v' w6, w6.ownsRow (wb + 1) 225 1 v' (m + 1) (cellsP bs ++ [.pointer (some ⟨W.heap.size, 0, none⟩)]) → Step ((W.alloc (.cells #[.slice ea n ec, .slice ea n ec, .bool l] 228)).alloc (.cells #[.pointer (some ⟨W.heap.size, 0, none⟩)] 225)) (.slice la m lc) w6 v' →
      ∃ va vc, v' = .slice va (m + 1) vc ∧ (∃ u, w6.cell? ⟨wb, 3, none⟩ = some u) ∧ w6.frozen? ⟨wb, 3, none⟩ = false ∧ (∃ b', WStA wb fv sv p (L ++ [⟨en, en, l⟩]) a c va vc (bs ++ [b']) (w6.setCell ⟨wb, 3, none⟩ (.slice va (m + 1) vc))) ∧ Below wb W (w6.setCell ⟨wb, 3, none⟩ (.slice va (m + 1) vc)) ∧ Mv7 W (w6.setCell ⟨wb, 3, none⟩ (.slice va (m + 1) vc))) := hid7 (by
    intro v' w6 hr6 hs6
    obtain ⟨va, vc, rfl, hvc, _⟩ := row_form hr6
    have hbelow := hs6.below (B := wb + 1) (by simp; omega) (fun g e => (HR.out.lt g e).1)
    have hbox : w6.heap[wb]? = some (.cells #[fv, sv, .slice a p.length c, .slice la m lc] 129 (0, 0)) := by
      rw [hm]
      exact (hbelow.block wb (Nat.lt_succ_self _)).trans ((b2.block wb hlt).trans h.box)
    have m6 : Mv7 W w6 := (Mv7.below b2).trans (Mv7.step HR.out hs6)
    have mS := Mv7.set (o := 3) (u := .slice va (m + 1) vc) hbox (.inl rfl)
    obtain ⟨_, z3⟩ := (four_cell hbox).2
    have hl : bs.length = m := by rw [h.len, hm]
    -- blocks of struct type are left alone by the append
    have hkeep : ∀ (k : Nat) (cur : Array Value) (z : Nat × Nat), W.heap[k]? = some (.cells cur 228 z) → w6.heap[k]? = some (.cells cur 228 z) := by
      intro k cur z hk
      have hk2 := (b2.block k (blk_lt hk)).trans hk
      refine (hs6.1.block k (blk_lt hk2) fun e => ?_).trans hk2
      rcases HR.out.2 with ⟨e', _⟩ | ⟨g, cap, cur', e', _, hh, _⟩
      · rw [e'] at e; cases e
      · rw [e'] at e
        cases e
        rw [hk2] at hh
        cases hh
    have hnew : w6.heap[W.heap.size]? = some (.cells #[.slice ea n ec, .slice ea n ec, .bool l] 228 (0, 0)) := by
      have e1 : (W.alloc (.cells #[.slice ea n ec, .slice ea n ec, .bool l] 228)).heap[W.heap.size]? = some (.cells #[.slice ea n ec, .slice ea n ec, .bool l] 228 (0, 0)) := heap_alloc_new W _
      have e2 := (Below.heap_alloc (W.alloc (.cells #[.slice ea n ec, .slice ea n ec, .bool l] 228)) (.cells #[.pointer (some ⟨W.heap.size, 0, none⟩)] 225) W.heap.size (by simp)).trans e1
      refine (hs6.1.block _ (blk_lt e2) fun e => ?_).trans e2
      rcases HR.out.2 with ⟨e', _⟩ | ⟨g, cap, cur', e', _, hh, _⟩
      · rw [e'] at e; cases e
      · rw [e'] at e
        have eg : W.heap.size = g := by simpa [Value.ownBlock] using e
        rw [← eg, e2] at hh
        cases hh
    have hgd : ∀ i, i < m → (bs ++ [W.heap.size]).getD i 0 = bs.getD i 0 := fun i hi => by
      rw [List.getD_eq_getElem?_getD, List.getD_eq_getElem?_getD, List.getElem?_append_left (by omega)]
    have hblt : ∀ i (hi : i < L.length), bs.getD i 0 < W.heap.size := fun i hi => by
      obtain ⟨a1, c1, a2, c2, h1, _⟩ := h.blk i hi
      exact blk_lt h1
    have hmem : ∀ b ∈ bs, b < W.heap.size := fun b hb => by
      obtain ⟨i, hi, rfl⟩ := List.getElem_of_mem hb
      have := hblt i (by rw [← h.len]; exact hi)
      rwa [List.getD_eq_getElem?_getD, List.getElem?_eq_getElem hi] at this
    have hob : ∀ x b, OBat wb x b W → b ≠ wb → OBat wb x b (w6.setCell ⟨wb, 3, none⟩ (.slice va (m + 1) vc)) := by
      rintro x b ⟨a1, c1, a2, c2, h1, h2, h3, h4, h5⟩ hne
      exact ⟨a1, c1, a2, c2, (Below.heap_setCell _ _ _ b hne).trans (hkeep b _ _ h1), h2, h3, (h4.mv m6).mv mS, (h5.mv m6).mv mS⟩
    refine ⟨va, vc, rfl, ⟨_, (four_cell hbox).1.2.2.2⟩, z3, ⟨W.heap.size, ⟨?_, h.cap, (h.stk.mv m6).mv mS, ?_, by simp [hl, hm], ?_, ?_, ?_⟩⟩, ?_, m6.trans mS⟩
    · rw [List.length_append, List.length_singleton, ← hm]; exact four_set3 hbox
    · rw [List.length_append, List.length_singleton, ← hm, cellsP_snoc]
      exact row_other6 hr6 hbox (by decide)
    · rw [List.nodup_append]
      refine ⟨h.nod, by simp, fun x hx y hy e => ?_⟩
      rw [List.mem_singleton] at hy
      have := hmem x hx
      omega
    · intro b hb
      rcases List.mem_append.1 hb with hb | hb
      · exact h.gt b hb
      · rw [List.mem_singleton] at hb; omega
    · intro i hi
      rw [List.length_append, List.length_singleton, ← hm] at hi
      by_cases him : i < m
      · rw [List.getElem_append_left (by omega), hgd i him]
        refine hob _ _ (h.blk i (by omega)) fun e => ?_
        have : bs.getD i 0 ∈ bs := by
          rw [List.getD_eq_getElem?_getD, List.getElem?_eq_getElem (by omega)]
          exact List.getElem_mem _
        have := h.gt _ this
        omega
      · have him : i = m := by omega
        subst him
        rw [List.getElem_append_right (by omega)]
        have e1 : (bs ++ [W.heap.size]).getD i 0 = W.heap.size := by
          rw [List.getD_eq_getElem?_getD, List.getElem?_append_right (by omega), hl]; simp
        rw [e1]
        simp only [hm, Nat.sub_self, List.getElem_cons_zero]
        refine ⟨ea, ec, ea, ec, ?_, by simpa [hn] using hec, by simpa [hn] using hec, (hE.mv m6).mv (hm ▸ mS), (hE.mv m6).mv (hm ▸ mS)⟩
        rw [hn]
        exact (Below.heap_setCell _ _ _ _ (by show W.heap.size ≠ wb; omega)).trans hnew
    · have bW : Below wb W w6 := (b2.mono (Nat.le_of_lt hlt)).trans (hbelow.mono (Nat.le_succ _))
      exact bW.setCell (p := ⟨wb, 3, none⟩) (Nat.le_refl _) _)
  have HL : Hid (Lies ((W.alloc (.cells #[.slice ea n ec, .slice ea n ec, .bool l] 228)).alloc (.cells #[.pointer (some ⟨W.heap.size, 0, none⟩)] 225)) (.slice (some ⟨W.heap.size + 1, 0, none⟩) 1 1) 1 [.pointer (some ⟨W.heap.size, 0, none⟩)]) := hid7 (.inr ⟨⟨W.heap.size + 1, 0, none⟩, 1, rfl, cells_new6 _ [.pointer (some ⟨W.heap.size, 0, none⟩)] 225 _ (World.size_alloc _ _)⟩)
  clear h hcx hE b1 b2 hm hn
  go_enter Tryz.func186, Tryz.ntmps186
  go_wp2_with (first
    | (at_builtin; refine wpList_appN _ rfl _ _ 125 rfl elemN_ptr (wb + 1) _ m (cellsP bs) rfl HR.out _ rfl 1 [.pointer (some ⟨W.heap.size, 0, none⟩)] HL.out rfl (by simp [Value.oneCell']) (by unfold maxLen; omega) (by omega) (by simp; omega) ?_; intro v' w6 hr6 hs6; obtain ⟨va, vc, y6, ⟨u6, c6⟩, z6, H6⟩ := HX.out v' w6 hr6 hs6; subst y6; have H6 := hid7 H6)
    | fail)
  go_end0
  obtain ⟨⟨b', q1⟩, q2, q3⟩ := H6.out
  exact ⟨rfl, ⟨va, vc, b', q1⟩, q2, q3⟩
end Go.Proofs.YtfnpngbcnmglfaaGreat
namespace Go.Proofs.YtfnpngbcnmglfaaGreat
open Go.RowKit
set_option maxRecDepth 100000 in
set_option maxHeartbeats 1000000 in
theorem eqN_any (a b : Option Addr) (c d n m : Nat) (ns ms : List Int) (hn : ns.length = n) (hm : ms.length = m) (w : World) (ha : NsAt w.cell? a ns) (hb : NsAt w.cell? b ms) (hl : n ≤ 17592186044416) (hl' : m ≤ 17592186044416) : Calls Tryz.prog 141 #[.slice a n c, .slice b m d] w fun e w' => e = .returned (.bool (decide (ns = ms))) ∧ ∃ k, w' = w.drewN k := by
  by_cases hnm : n = m
  · subst hnm
    go_enter Tryz.func141, Tryz.ntmps141
    go_wp2
    go_loopw [13] (fun i wr => ∃ k m : Nat, k ≤ n ∧ i = .int .i64 k ∧ (∀ j (h1 : j < ns.length) (h2 : j < ms.length), j < k → ns[j] = ms[j]) ∧ wr = w.drewN m) (fun i _ => n - (intOf i).toNat)
    case atStart => exact ⟨0, 0, Nat.zero_le _, rfl, by omega, rfl⟩
    case round =>
      obtain ⟨k, m, hk, rfl, hr, rfl⟩ := hrel
      by_cases hlt : k < n
      · rcases ha with h0 | ⟨b0, off0, rfl, hc0⟩
        · subst h0; simp at hn; omega
        rcases hb with h0 | ⟨b1, off1, rfl, hc1⟩
        · subst h0; simp at hm; omega
        have c0 := hc0 k (by omega)
        have d0 := hc1 k (by omega)
        have HN : Hid (ns[k] ≠ ms[k] → decide (ns = ms) = false) := hid (list_ne (by omega) (by omega))
        have HT : Hid (ns[k] = ms[k] → ∀ j (h1 : j < ns.length) (h2 : j < ms.length), j < k + 1 → ns[j] = ms[j]) := hid fun h j h1 h2 hjk => by
          rcases Nat.lt_or_ge j k with h3 | h3
          · exact hr j h1 h2 h3
          · obtain rfl : j = k := by omega
            exact h
        generalize ns[k] = x at c0 HN HT
        generalize ms[k] = y at d0 HN HT
        clear hc0 hc1
        by_cases h1 : x = y
        · subst h1
          go_wp2
          go_quiet (fail)
          go_wp2
          refine ⟨⟨k + 1, _, by omega, by go_num, HT.out (by simp), rfl⟩, by simp [intOf]; omega⟩
        · have q : (x != y) = true := by simp [h1]
          have q' : (x == y) = false := by simp [h1]
          go_wp2
          go_quiet (fail)
          go_wp2
          go_ret
          exact ⟨by rw [HN.out h1]; rfl, m + nq, World.drewN_drewN _ _ _⟩
      · have HE : Hid (decide (ns = ms) = true) := hid (decide_eq_true (List.ext_getElem (by omega) fun j h1 h2 => hr j h1 h2 (by omega)))
        go_wp2
        go_ret
        exact ⟨by rw [HE.out]; rfl, m, rfl⟩
  · have hne : ((n : Int) != (m : Int)) = true := by simp; omega
    have hd : decide (ns = ms) = false := decide_eq_false fun h => hnm (by rw [← hn, ← hm, h])
    go_enter Tryz.func141, Tryz.ntmps141
    go_wp2
    go_ret
    exact ⟨by rw [hd]; rfl, 0, rfl⟩
end Go.Proofs.YtfnpngbcnmglfaaGreat
