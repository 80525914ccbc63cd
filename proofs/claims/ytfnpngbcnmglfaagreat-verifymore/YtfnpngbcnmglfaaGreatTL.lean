/- A walk's step: what an instruction takes off the stack, and what it puts. A walk's step, on any stack. A walk's turn, of any operation, and pass. -/
import Derived.Test.YtfnpngbcnmglfaaGreatTH
namespace Go.Proofs.YtfnpngbcnmglfaaGreat
open Go.RowKit Go.Shelf
theorem tk_len {st : List Int} : ∀ {ws : List Int} {l l' : Nat}, tkS st ws l = (0, l') → l' + ws.length = l
  | [], l, l', h => by simp [tkS] at h; simp [h]
  | x :: r, l, l', h => by
    rw [tkS] at h
    split at h
    · simp at h
    split at h
    · simp at h
    · have := tk_len h
      simp only [List.length_cons]
      omega
theorem take_len {st ts : List Int} {l : Nat} (h : takeS st ts = (0, l)) : l + ts.length = st.length := by
  have := tk_len h
  rwa [List.length_reverse] at this
theorem tk_no {st : List Int} : ∀ {ws : List Int} {l : Nat}, (tkS st ws l).1 ≠ 0 → (tkS st ws l).2 = 0
  | [], l, h => by simp [tkS] at h
  | x :: r, l, h => by
    rw [tkS] at h ⊢
    split at h
    · rename_i h0; rw [if_pos h0]
    rename_i h0
    rw [if_neg h0]
    split at h
    · rename_i h1; rw [if_pos h1]
    · rename_i h1; rw [if_neg h1]; exact tk_no h
theorem inT_7 : inT 7 = [0, 0] := by decide
theorem inT_8 : inT 8 = [0, 0] := by decide
theorem ns_take {C : Addr → Option Value} {a : Option Addr} {p : List Int} (h : NsAt C a p) (l : Nat) : NsAt C a (p.take l) := by
  rcases h with rfl | ⟨b, off, e, h⟩
  · exact .inl (by simp)
  · exact .inr ⟨b, off, e, fun j hj => by
      rw [List.length_take] at hj
      rw [h j (by omega), List.getElem_take]⟩
theorem ns_drop {C : Addr → Option Value} {b off : Nat} {p : List Int} (h : NsAt C (some ⟨b, off, none⟩) p) (l c : Nat) (hc : p.length ≤ c) : NsAt C (if c = l then some ⟨b, off, none⟩ else some ⟨b, off + l, none⟩) (p.drop l) := by
  by_cases hcl : c = l
  · exact .inl (List.drop_eq_nil_of_le (by omega))
  · rw [if_neg hcl]
    rcases h with rfl | ⟨b', off', e, h⟩
    · exact .inl (by simp)
    · cases e
      refine .inr ⟨b, off + l, rfl, fun j hj => ?_⟩
      rw [List.length_drop] at hj
      rw [List.getElem_drop, Nat.add_assoc]
      exact h (l + j) (by omega)
/-- What a step makes of the stack. -/
def stepW (fs : List Fn) (sl : List Int) (x : Int × Int) (p : List Int) : Int × List Int :=
  if (takeS p (takenS fs sl x)).1 = 0 then (0, p.take (takeS p (takenS fs sl x)).2 ++ givenS fs sl x (p.drop (takeS p (takenS fs sl x)).2)) else ((takeS p (takenS fs sl x)).1, p)
theorem WStA.fsl {wb : Nat} {fs : List Fn} {sl : List Int} {fa : Option Addr} {fc : Nat} {sa : Option Addr} {sc : Nat} {p : List Int} {L : List OB} {a : Option Addr} {c : Nat} {la : Option Addr} {lc : Nat} {bs : List Nat} {W : World} (h : WStA wb (.slice fa fs.length fc) (.slice sa sl.length sc) p L a c la lc bs W) (hf : FsAt W.cell? fa fs) (hs : NsAt W.cell? sa sl) (hc : sl.length ≤ sc) : FSl wb fs sl fa fc sa sc W := by
  have := (four_cell h.box).1
  exact ⟨this.1, this.2.1, hf, hs, hc⟩
set_option maxRecDepth 100000 in
set_option maxHeartbeats 2000000 in
theorem step_no {wb : Nat} {fs : List Fn} {sl : List Int} {fa : Option Addr} {fc : Nat} {sa : Option Addr} {sc : Nat} {p : List Int} {L : List OB} {a : Option Addr} {c : Nat} {la : Option Addr} {lc : Nat} {bs : List Nat} (x : Int × Int) (hx : InsR fs sl x) (bsl : sl.length ≤ 1000) (bf : fs.length ≤ 1000) (bp : p.length ≤ 1000) (bt : (takenS fs sl x).length ≤ 1000) (hsc : sl.length ≤ sc) (W : World) (h : WStA wb (.slice fa fs.length fc) (.slice sa sl.length sc) p L a c la lc bs W)
    (hK : ∀ V, Below wb W V → FsAt V.cell? fa fs ∧ NsAt V.cell? sa sl) (er : Int) (her : er ≠ 0) (ht : takeS p (takenS fs sl x) = (er, 0)) :
    Calls Tryz.prog 139 #[.pointer (some ⟨wb, 0, none⟩), .agg #[.int .i64 x.1, .int .i64 x.2]] W (WEnd wb (.slice fa fs.length fc) (.slice sa sl.length sc) er p L W) := by
  have hlt := blk_lt h.box
  have b1 := (Below.refl _ W).alloc (Nat.le_refl _) (.cells #[.int .i64 x.1, .int .i64 x.2] 83)
  have bV := b1.drew
  have hV := h.below bV
  obtain ⟨k1, k2⟩ := hK _ (bV.mono (Nat.le_of_lt hlt))
  have HT : Hid (Calls Tryz.prog 183 #[.pointer (some ⟨wb, 0, none⟩), .agg #[.int .i64 x.1, .int .i64 x.2]] (W.alloc (.cells #[.int .i64 x.1, .int .i64 x.2] 83)).drew fun e w1 => ∃ ta tc, e = .returned (.slice ta (takenS fs sl x).length tc) ∧ w1.cell? ⟨wb, 2, none⟩ = some (.slice a p.length c) ∧ Hid (Calls Tryz.prog 182 #[.slice a p.length c, .slice ta (takenS fs sl x).length tc] w1 fun e w2 => e = .returned (.tuple #[.slice none 0 0, .int .i64 er]) ∧ Hid (∀ e', e' = .returned (.int .i64 er) → WEnd wb (.slice fa fs.length fc) (.slice sa sl.length sc) er p L W e' w2))) := hid7 ((taken_any x hx bsl bf _ (hV.fsl k1 k2 hsc)).mono fun e w1 ⟨ta, tc, he, n1, b2⟩ => by
    have h1 := hV.below b2
    refine ⟨ta, tc, he, (four_cell h1.box).1.2.2.1, hid7 ?_⟩
    refine (take_any a ta c tc _ _ p (takenS fs sl x) rfl rfl (by omega) (by omega) h1.cap w1 h1.stk.at' n1).mono fun e2 w2 ⟨he2, b3⟩ => ?_
    rw [ht] at he2
    refine ⟨by rw [he2]; simp [her], hid7 fun e' he' => ⟨he', ⟨_, _, _, _, _, h1.below b3⟩, ?_, ?_⟩⟩
    · exact ((bV.trans (b2.mono bV.size)).trans (b3.mono (Nat.le_trans bV.size b2.size))).mono (Nat.le_of_lt hlt)
    · exact ((Mv7.below bV).trans (Mv7.below b2)).trans (Mv7.below b3))
  have c2 := (four_cell h.box).1.2.2.1
  have hne : (er != 0) = true := by simpa using her
  clear h hV hK k1 k2 hx b1 bV ht
  generalize p.length = pl at c2 HT bp
  generalize (takenS fs sl x).length = tl at HT bt
  generalize (Value.slice fa fs.length fc) = fv at HT ⊢
  generalize (Value.slice sa sl.length sc) = sv at HT ⊢
  obtain ⟨n, A⟩ := x
  simp only at HT ⊢
  go_enter Tryz.func139, Tryz.ntmps139
  go_wp2_with fail
  go_region_with (first | (go_at_call 183; refine HT.out.mono ?_; clear HT; rintro e w1 ⟨ta, tc, rfl, cw, hA⟩) | (go_at_call 182; refine hA.out.mono ?_; clear hA; rintro e w2 ⟨rfl, K1⟩) | fail)
  all_goals
    go_wp2
    go_ret
    exact K1.out _ rfl
set_option maxRecDepth 100000 in
set_option maxHeartbeats 8000000 in
theorem step_yes {wb : Nat} {fs : List Fn} {sl : List Int} {fa : Option Addr} {fc : Nat} {sa : Option Addr} {sc : Nat} {p : List Int} {L : List OB} {ab ao c : Nat} {la : Option Addr} {lc : Nat} {bs : List Nat} (x : Int × Int) (hx : InsR fs sl x) (bsl : sl.length ≤ 1000) (bf : fs.length ≤ 1000) (bp : p.length ≤ 1000) (bt : (takenS fs sl x).length ≤ 1000) (hsc : sl.length ≤ sc) (W : World) (h : WStA wb (.slice fa fs.length fc) (.slice sa sl.length sc) p L (some ⟨ab, ao, none⟩) c la lc bs W)
    (hK : ∀ V, Below wb W V → FsAt V.cell? fa fs ∧ NsAt V.cell? sa sl) (l : Nat) (ht : takeS p (takenS fs sl x) = (0, l)) (bg : (givenS fs sl x (p.drop l)).length ≤ 1000) :
    Calls Tryz.prog 139 #[.pointer (some ⟨wb, 0, none⟩), .agg #[.int .i64 x.1, .int .i64 x.2]] W (WEnd wb (.slice fa fs.length fc) (.slice sa sl.length sc) 0 (p.take l ++ givenS fs sl x (p.drop l)) L W) := by
  have hlt := blk_lt h.box
  have hll := take_len ht
  have hdl : (p.drop l).length = p.length - l := List.length_drop
  have h78 : x.1 = 7 ∨ x.1 = 8 → p.length - l = 2 := fun hh => by
    have : (takenS fs sl x).length = 2 := by
      rcases hh with hh | hh
      · rw [takenS, if_neg (by omega), if_neg (by omega), hh, inT_7]; rfl
      · rw [takenS, if_neg (by omega), if_neg (by omega), hh, inT_8]; rfl
    omega
  have b1 := (Below.refl _ W).alloc (Nat.le_refl _) (.cells #[.int .i64 x.1, .int .i64 x.2] 83)
  have bV := b1.drew
  have hV := h.below bV
  have cx : ∀ V, Below (W.alloc (.cells #[.int .i64 x.1, .int .i64 x.2] 83)).drew.heap.size (W.alloc (.cells #[.int .i64 x.1, .int .i64 x.2] 83)).drew V → V.cell? ⟨W.heap.size, 0, none⟩ = some (.int .i64 x.1) ∧ V.cell? ⟨W.heap.size, 1, none⟩ = some (.int .i64 x.2) := fun V hVV => by
    have e1 : (W.alloc (.cells #[.int .i64 x.1, .int .i64 x.2] 83)).heap[W.heap.size]? = some (.cells #[.int .i64 x.1, .int .i64 x.2] 83 (0, 0)) := heap_alloc_new W _
    have e2 := (hVV.block W.heap.size (by show _ < (W.alloc (.cells #[.int .i64 x.1, .int .i64 x.2] 83)).heap.size; simp)).trans e1
    simp [World.cell?, e2]
  obtain ⟨k1, k2⟩ := hK _ (bV.mono (Nat.le_of_lt hlt))
  have HT : Hid (Calls Tryz.prog 183 #[.pointer (some ⟨wb, 0, none⟩), .agg #[.int .i64 x.1, .int .i64 x.2]] (W.alloc (.cells #[.int .i64 x.1, .int .i64 x.2] 83)).drew fun e w1 => ∃ ta tc, e = .returned (.slice ta (takenS fs sl x).length tc) ∧ w1.cell? ⟨wb, 2, none⟩ = some (.slice (some ⟨ab, ao, none⟩) p.length c) ∧
      Hid (Calls Tryz.prog 182 #[.slice (some ⟨ab, ao, none⟩) p.length c, .slice ta (takenS fs sl x).length tc] w1 fun e w2 => e = .returned (.tuple #[.slice (some ⟨ab, ao, none⟩) l c, .int .i64 0]) ∧ w2.cell? ⟨wb, 2, none⟩ = some (.slice (some ⟨ab, ao, none⟩) p.length c) ∧ w2.cell? ⟨W.heap.size, 0, none⟩ = some (.int .i64 x.1) ∧ w2.cell? ⟨W.heap.size, 1, none⟩ = some (.int .i64 x.2) ∧
        Hid (Calls Tryz.prog 185 #[.pointer (some ⟨wb, 0, none⟩), .agg #[.int .i64 x.1, .int .i64 x.2], .slice (if c = l then some ⟨ab, ao, none⟩ else some ⟨ab, ao + l, none⟩) (p.length - l) (c - l)] w2.drew fun e w3 => ∃ ga gc, e = .returned (.slice ga (givenS fs sl x (p.drop l)).length gc) ∧
          Hid (Calls Tryz.prog 184 #[.slice (some ⟨ab, ao, none⟩) l c, .slice ga (givenS fs sl x (p.drop l)).length gc] w3 fun e w4 => ∃ a4 c4 n4, e = .returned (.slice a4 n4 c4) ∧ (∃ u, w4.cell? ⟨wb, 2, none⟩ = some u) ∧ w4.frozen? ⟨wb, 2, none⟩ = false ∧ Hid (∀ e', e' = .returned (.int .i64 0) → WEnd wb (.slice fa fs.length fc) (.slice sa sl.length sc) 0 (p.take l ++ givenS fs sl x (p.drop l)) L W e' (w4.setCell ⟨wb, 2, none⟩ (.slice a4 n4 c4))))))) := hid7 ((taken_any x hx bsl bf _ (hV.fsl k1 k2 hsc)).mono fun e w1 ⟨ta, tc, he, n1, b2⟩ => by
    have h1 := hV.below b2
    refine ⟨ta, tc, he, (four_cell h1.box).1.2.2.1, hid7 ?_⟩
    refine (take_any _ ta c tc _ _ p (takenS fs sl x) rfl rfl (by omega) (by omega) h1.cap w1 h1.stk.at' n1).mono fun e2 w2 ⟨he2, b3⟩ => ?_
    rw [ht] at he2
    have h2 := h1.below b3
    have bb2 : Below (W.alloc (.cells #[.int .i64 x.1, .int .i64 x.2] 83)).drew.heap.size (W.alloc (.cells #[.int .i64 x.1, .int .i64 x.2] 83)).drew w2 := b2.trans (b3.mono b2.size)
    have bW2 : Below W.heap.size W w2 := bV.trans (bb2.mono bV.size)
    obtain ⟨d0, d1⟩ := cx w2 bb2
    refine ⟨by rw [he2]; simp, (four_cell h2.box).1.2.2.1, d0, d1, hid7 ?_⟩
    have bW2d : Below W.heap.size W w2.drew := bW2.drew
    have h2d : WStA wb (.slice fa fs.length fc) (.slice sa sl.length sc) p L (some ⟨ab, ao, none⟩) c la lc bs w2.drew := h2.drew 1
    obtain ⟨q1, q2⟩ := hK _ (bW2d.mono (Nat.le_of_lt hlt))
    refine (given_any x hx bsl bf _ (h2d.fsl q1 q2 hsc) (p.drop l) _ (c - l) (p.length - l) hdl (by omega) (by have := h2.cap; omega) (ns_drop h2d.stk.at' l c h2.cap) h78).mono fun e3 w3 ⟨ga, gc, he3, n3, b4⟩ => ?_
    have h3 := h2d.below b4
    refine ⟨ga, gc, he3, hid7 ?_⟩
    have htl : (p.take l).length = l := by rw [List.length_take]; omega
    refine (put_any _ ga c gc l _ (p.take l) _ htl rfl (by omega) (by omega) w3 (ns_take h3.stk.at' l) n3).mono fun e4 w4 ⟨a4, c4, he4, hc4, hr4, b5⟩ => ?_
    have h4 := h3.below b5
    have hcx := four_cell h4.box
    refine ⟨a4, c4, _, he4, ⟨_, hcx.1.2.2.1⟩, hcx.2.1, hid7 fun e' he' => ⟨he', ⟨a4, c4, la, lc, bs, ?_⟩, ?_, ?_⟩⟩
    · have mW := Mv7.set (o := 2) (u := .slice a4 (p.take l ++ givenS fs sl x (p.drop l)).length c4) h4.box (.inl rfl)
      refine ⟨four_set2 h4.box, hc4, ((ns_in_row hr4).low (Nat.le_of_lt (blk_lt h3.box))).mv mW, row_other6 h4.row h4.box (by decide), h4.len, h4.nod, h4.gt, fun i hi => (h4.blk i hi).other h4.box (.inl rfl) fun e => ?_⟩
      have : bs.getD i 0 ∈ bs := by
        rw [List.getD_eq_getElem?_getD, List.getElem?_eq_getElem (by rw [h4.len]; exact hi)]
        exact List.getElem_mem _
      have := h4.gt _ this
      omega
    · have q3 : Below W.heap.size W w4 := (bW2d.trans (b4.mono bW2d.size)).trans (b5.mono (Nat.le_trans bW2d.size b4.size))
      exact (q3.mono (Nat.le_of_lt hlt)).setCell (p := ⟨wb, 2, none⟩) (Nat.le_refl _) _
    · have q3 : Below W.heap.size W w4 := (bW2d.trans (b4.mono bW2d.size)).trans (b5.mono (Nat.le_trans bW2d.size b4.size))
      exact (Mv7.below q3).trans (Mv7.set h4.box (.inl rfl)))
  have c2 := (four_cell h.box).1.2.2.1
  have hlp : (l : Int) ≤ p.length := by omega
  have hpc : (p.length : Int) ≤ c := by have := h.cap; omega
  clear h hV hK k1 k2 hx b1 bV ht cx h78 hdl hll
  generalize p.length = pl at c2 HT bp hlp hpc
  generalize (takenS fs sl x).length = tl at HT bt
  generalize (givenS fs sl x (p.drop l)).length = gl at HT bg
  generalize p.take l ++ givenS fs sl x (p.drop l) = p' at HT ⊢
  generalize (Value.slice fa fs.length fc) = fv at HT ⊢
  generalize (Value.slice sa sl.length sc) = sv at HT ⊢
  obtain ⟨n, A⟩ := x
  simp only at HT ⊢
  by_cases hcl : c = l
  · have hpl : pl = l := by omega
    subst hcl
    subst hpl
    rw [if_pos rfl, Nat.sub_self] at HT
    go_enter Tryz.func139, Tryz.ntmps139
    go_wp2_with fail
    go_region_with (first | (go_at_call 183; refine HT.out.mono ?_; clear HT; rintro e w1 ⟨ta, tc, rfl, cw, hA⟩) | (go_at_call 182; refine hA.out.mono ?_; clear hA; rintro e w2 ⟨rfl, d2, d0, d1, hG⟩) | fail)
    all_goals go_wp2_with fail
    all_goals go_region_with (first | (go_at_call 185; refine hG.out.mono ?_; clear hG; rintro e w3 ⟨ga, gc, rfl, hP⟩) | (go_at_call 184; refine hP.out.mono ?_; clear hP; rintro e w4 ⟨a4, c4, n4, rfl, ⟨u4, z4⟩, f4, K1⟩) | fail)
    all_goals
      go_wp2
      go_ret
      exact K1.out _ rfl
  · rw [if_neg hcl] at HT
    go_enter Tryz.func139, Tryz.ntmps139
    go_wp2_with fail
    go_region_with (first | (go_at_call 183; refine HT.out.mono ?_; clear HT; rintro e w1 ⟨ta, tc, rfl, cw, hA⟩) | (go_at_call 182; refine hA.out.mono ?_; clear hA; rintro e w2 ⟨rfl, d2, d0, d1, hG⟩) | fail)
    all_goals go_wp2_with fail
    all_goals go_region_with (first | (go_at_call 185; refine hG.out.mono ?_; clear hG; rintro e w3 ⟨ga, gc, rfl, hP⟩) | (go_at_call 184; refine hP.out.mono ?_; clear hP; rintro e w4 ⟨a4, c4, n4, rfl, ⟨u4, z4⟩, f4, K1⟩) | fail)
    all_goals
      go_wp2
      go_ret
      exact K1.out _ rfl
end Go.Proofs.YtfnpngbcnmglfaaGreat
namespace Go.Proofs.YtfnpngbcnmglfaaGreat
open Go.RowKit Go.Shelf
set_option maxRecDepth 100000 in
set_option maxHeartbeats 8000000 in
theorem step_nil {wb : Nat} {fs : List Fn} {sl : List Int} {fa : Option Addr} {fc : Nat} {sa : Option Addr} {sc : Nat} {p : List Int} {L : List OB} {c : Nat} {la : Option Addr} {lc : Nat} {bs : List Nat} (x : Int × Int) (hx : InsR fs sl x) (bsl : sl.length ≤ 1000) (bf : fs.length ≤ 1000) (bp : p.length ≤ 1000) (bt : (takenS fs sl x).length ≤ 1000) (hsc : sl.length ≤ sc) (W : World) (h : WStA wb (.slice fa fs.length fc) (.slice sa sl.length sc) p L none c la lc bs W)
    (hK : ∀ V, Below wb W V → FsAt V.cell? fa fs ∧ NsAt V.cell? sa sl) (l : Nat) (ht : takeS p (takenS fs sl x) = (0, l)) (bg : (givenS fs sl x (p.drop l)).length ≤ 1000) :
    Calls Tryz.prog 139 #[.pointer (some ⟨wb, 0, none⟩), .agg #[.int .i64 x.1, .int .i64 x.2]] W (WEnd wb (.slice fa fs.length fc) (.slice sa sl.length sc) 0 (p.take l ++ givenS fs sl x (p.drop l)) L W) := by
  have hlt := blk_lt h.box
  have hll := take_len ht
  have hdl : (p.drop l).length = p.length - l := List.length_drop
  have hnil : p = [] := by
    rcases h.stk with h0 | ⟨_, _, _, e, _⟩
    · exact h0.1
    · cases e
  have hnil' : p.drop l = [] := by rw [hnil]; simp
  have h78 : x.1 = 7 ∨ x.1 = 8 → p.length - l = 2 := fun hh => by
    have : (takenS fs sl x).length = 2 := by
      rcases hh with hh | hh
      · rw [takenS, if_neg (by omega), if_neg (by omega), hh, inT_7]; rfl
      · rw [takenS, if_neg (by omega), if_neg (by omega), hh, inT_8]; rfl
    omega
  have b1 := (Below.refl _ W).alloc (Nat.le_refl _) (.cells #[.int .i64 x.1, .int .i64 x.2] 83)
  have bV := b1.drew
  have hV := h.below bV
  have cx : ∀ V, Below (W.alloc (.cells #[.int .i64 x.1, .int .i64 x.2] 83)).drew.heap.size (W.alloc (.cells #[.int .i64 x.1, .int .i64 x.2] 83)).drew V → V.cell? ⟨W.heap.size, 0, none⟩ = some (.int .i64 x.1) ∧ V.cell? ⟨W.heap.size, 1, none⟩ = some (.int .i64 x.2) := fun V hVV => by
    have e1 : (W.alloc (.cells #[.int .i64 x.1, .int .i64 x.2] 83)).heap[W.heap.size]? = some (.cells #[.int .i64 x.1, .int .i64 x.2] 83 (0, 0)) := heap_alloc_new W _
    have e2 := (hVV.block W.heap.size (by show _ < (W.alloc (.cells #[.int .i64 x.1, .int .i64 x.2] 83)).heap.size; simp)).trans e1
    simp [World.cell?, e2]
  obtain ⟨k1, k2⟩ := hK _ (bV.mono (Nat.le_of_lt hlt))
  have HT : Hid (Calls Tryz.prog 183 #[.pointer (some ⟨wb, 0, none⟩), .agg #[.int .i64 x.1, .int .i64 x.2]] (W.alloc (.cells #[.int .i64 x.1, .int .i64 x.2] 83)).drew fun e w1 => ∃ ta tc, e = .returned (.slice ta (takenS fs sl x).length tc) ∧ w1.cell? ⟨wb, 2, none⟩ = some (.slice none p.length c) ∧
      Hid (Calls Tryz.prog 182 #[.slice none p.length c, .slice ta (takenS fs sl x).length tc] w1 fun e w2 => e = .returned (.tuple #[.slice none l c, .int .i64 0]) ∧ w2.cell? ⟨wb, 2, none⟩ = some (.slice none p.length c) ∧ w2.cell? ⟨W.heap.size, 0, none⟩ = some (.int .i64 x.1) ∧ w2.cell? ⟨W.heap.size, 1, none⟩ = some (.int .i64 x.2) ∧
        Hid (Calls Tryz.prog 185 #[.pointer (some ⟨wb, 0, none⟩), .agg #[.int .i64 x.1, .int .i64 x.2], .slice none (p.length - l) (c - l)] w2.drew fun e w3 => ∃ ga gc, e = .returned (.slice ga (givenS fs sl x (p.drop l)).length gc) ∧
          Hid (Calls Tryz.prog 184 #[.slice none l c, .slice ga (givenS fs sl x (p.drop l)).length gc] w3 fun e w4 => ∃ a4 c4 n4, e = .returned (.slice a4 n4 c4) ∧ (∃ u, w4.cell? ⟨wb, 2, none⟩ = some u) ∧ w4.frozen? ⟨wb, 2, none⟩ = false ∧ Hid (∀ e', e' = .returned (.int .i64 0) → WEnd wb (.slice fa fs.length fc) (.slice sa sl.length sc) 0 (p.take l ++ givenS fs sl x (p.drop l)) L W e' (w4.setCell ⟨wb, 2, none⟩ (.slice a4 n4 c4))))))) := hid7 ((taken_any x hx bsl bf _ (hV.fsl k1 k2 hsc)).mono fun e w1 ⟨ta, tc, he, n1, b2⟩ => by
    have h1 := hV.below b2
    refine ⟨ta, tc, he, (four_cell h1.box).1.2.2.1, hid7 ?_⟩
    refine (take_any _ ta c tc _ _ p (takenS fs sl x) rfl rfl (by omega) (by omega) h1.cap w1 h1.stk.at' n1).mono fun e2 w2 ⟨he2, b3⟩ => ?_
    rw [ht] at he2
    have h2 := h1.below b3
    have bb2 : Below (W.alloc (.cells #[.int .i64 x.1, .int .i64 x.2] 83)).drew.heap.size (W.alloc (.cells #[.int .i64 x.1, .int .i64 x.2] 83)).drew w2 := b2.trans (b3.mono b2.size)
    have bW2 : Below W.heap.size W w2 := bV.trans (bb2.mono bV.size)
    obtain ⟨d0, d1⟩ := cx w2 bb2
    refine ⟨by rw [he2]; simp, (four_cell h2.box).1.2.2.1, d0, d1, hid7 ?_⟩
    have bW2d : Below W.heap.size W w2.drew := bW2.drew
    have h2d : WStA wb (.slice fa fs.length fc) (.slice sa sl.length sc) p L none c la lc bs w2.drew := h2.drew 1
    obtain ⟨q1, q2⟩ := hK _ (bW2d.mono (Nat.le_of_lt hlt))
    refine (given_any x hx bsl bf _ (h2d.fsl q1 q2 hsc) (p.drop l) _ (c - l) (p.length - l) hdl (by omega) (by have := h2.cap; omega) (.inl hnil') h78).mono fun e3 w3 ⟨ga, gc, he3, n3, b4⟩ => ?_
    have h3 := h2d.below b4
    refine ⟨ga, gc, he3, hid7 ?_⟩
    have htl : (p.take l).length = l := by rw [List.length_take]; omega
    refine (put_any _ ga c gc l _ (p.take l) _ htl rfl (by omega) (by omega) w3 (ns_take h3.stk.at' l) n3).mono fun e4 w4 ⟨a4, c4, he4, hc4, hr4, b5⟩ => ?_
    have h4 := h3.below b5
    have hcx := four_cell h4.box
    refine ⟨a4, c4, _, he4, ⟨_, hcx.1.2.2.1⟩, hcx.2.1, hid7 fun e' he' => ⟨he', ⟨a4, c4, la, lc, bs, ?_⟩, ?_, ?_⟩⟩
    · have mW := Mv7.set (o := 2) (u := .slice a4 (p.take l ++ givenS fs sl x (p.drop l)).length c4) h4.box (.inl rfl)
      refine ⟨four_set2 h4.box, hc4, ((ns_in_row hr4).low (Nat.le_of_lt (blk_lt h3.box))).mv mW, row_other6 h4.row h4.box (by decide), h4.len, h4.nod, h4.gt, fun i hi => (h4.blk i hi).other h4.box (.inl rfl) fun e => ?_⟩
      have : bs.getD i 0 ∈ bs := by
        rw [List.getD_eq_getElem?_getD, List.getElem?_eq_getElem (by rw [h4.len]; exact hi)]
        exact List.getElem_mem _
      have := h4.gt _ this
      omega
    · have q3 : Below W.heap.size W w4 := (bW2d.trans (b4.mono bW2d.size)).trans (b5.mono (Nat.le_trans bW2d.size b4.size))
      exact (q3.mono (Nat.le_of_lt hlt)).setCell (p := ⟨wb, 2, none⟩) (Nat.le_refl _) _
    · have q3 : Below W.heap.size W w4 := (bW2d.trans (b4.mono bW2d.size)).trans (b5.mono (Nat.le_trans bW2d.size b4.size))
      exact (Mv7.below q3).trans (Mv7.set h4.box (.inl rfl)))
  have c2 := (four_cell h.box).1.2.2.1
  have hlp : (l : Int) ≤ p.length := by omega
  have hpc : (p.length : Int) ≤ c := by have := h.cap; omega
  clear h hV hK k1 k2 hx b1 bV ht cx h78 hdl hll
  generalize p.length = pl at c2 HT bp hlp hpc
  generalize (takenS fs sl x).length = tl at HT bt
  generalize (givenS fs sl x (p.drop l)).length = gl at HT bg
  generalize p.take l ++ givenS fs sl x (p.drop l) = p' at HT ⊢
  generalize (Value.slice fa fs.length fc) = fv at HT ⊢
  generalize (Value.slice sa sl.length sc) = sv at HT ⊢
  obtain ⟨n, A⟩ := x
  simp only at HT ⊢
  go_enter Tryz.func139, Tryz.ntmps139
  go_wp2_with fail
  go_region_with (first | (go_at_call 183; refine HT.out.mono ?_; clear HT; rintro e w1 ⟨ta, tc, rfl, cw, hA⟩) | (go_at_call 182; refine hA.out.mono ?_; clear hA; rintro e w2 ⟨rfl, d2, d0, d1, hG⟩) | fail)
  all_goals go_wp2_with fail
  all_goals go_region_with (first | (go_at_call 185; refine hG.out.mono ?_; clear hG; rintro e w3 ⟨ga, gc, rfl, hP⟩) | (go_at_call 184; refine hP.out.mono ?_; clear hP; rintro e w4 ⟨a4, c4, n4, rfl, ⟨u4, z4⟩, f4, K1⟩) | fail)
  all_goals
    go_wp2
    go_ret
    exact K1.out _ rfl
theorem step7_any {wb : Nat} {fs : List Fn} {sl : List Int} {fa : Option Addr} {fc : Nat} {sa : Option Addr} {sc : Nat} {p : List Int} {L : List OB} {a : Option Addr} {c : Nat} {la : Option Addr} {lc : Nat} {bs : List Nat} (x : Int × Int) (hx : InsR fs sl x) (bsl : sl.length ≤ 1000) (bf : fs.length ≤ 1000) (bp : p.length ≤ 1000) (bt : (takenS fs sl x).length ≤ 1000) (hsc : sl.length ≤ sc) (W : World) (h : WStA wb (.slice fa fs.length fc) (.slice sa sl.length sc) p L a c la lc bs W)
    (hK : ∀ V, Below wb W V → FsAt V.cell? fa fs ∧ NsAt V.cell? sa sl) (bg : ∀ l, (givenS fs sl x (p.drop l)).length ≤ 1000) :
    Calls Tryz.prog 139 #[.pointer (some ⟨wb, 0, none⟩), .agg #[.int .i64 x.1, .int .i64 x.2]] W (WEnd wb (.slice fa fs.length fc) (.slice sa sl.length sc) (stepW fs sl x p).1 (stepW fs sl x p).2 L W) := by
  obtain ⟨er, l, ht⟩ : ∃ er l, takeS p (takenS fs sl x) = (er, l) := ⟨_, _, rfl⟩
  by_cases her : er = 0
  · subst her
    have e1 : stepW fs sl x p = (0, p.take l ++ givenS fs sl x (p.drop l)) := by simp [stepW, ht]
    rw [e1]
    cases a with
    | none => exact step_nil x hx bsl bf bp bt hsc W h hK l ht (bg l)
    | some ad =>
      have hp : ∃ ab ao, ad = ⟨ab, ao, none⟩ := by
        rcases h.stk with ⟨_, h0 | ⟨b, off, h0⟩⟩ | ⟨b, off, _, e, _⟩
        · cases h0
        · cases h0
          exact ⟨b, off, rfl⟩
        · cases e
          exact ⟨b, off, rfl⟩
      obtain ⟨ab, ao, rfl⟩ := hp
      exact step_yes x hx bsl bf bp bt hsc W h hK l ht (bg l)
  · have hl : l = 0 := by
      have := tk_no (st := p) (ws := (takenS fs sl x).reverse) (l := p.length)
      rw [show tkS p (takenS fs sl x).reverse p.length = (er, l) from ht] at this
      exact this her
    subst hl
    have e1 : stepW fs sl x p = (er, p) := by simp [stepW, ht, her]
    rw [e1]
    exact step_no x hx bsl bf bp bt hsc W h hK er her ht
end Go.Proofs.YtfnpngbcnmglfaaGreat
namespace Go.Proofs.YtfnpngbcnmglfaaGreat
open Go.RowKit Go.Shelf
/-- What an operation makes of the stack and the open blocks: the error, the stack, the blocks. -/
def turnW (n : Int) (p : List Int) (L : List OB) : Int × List Int × List OB :=
  if n = 48 ∨ n = 51 then (0, p, L ++ [⟨p, p, decide (n = 51)⟩])
  else if n = 49 then (match L.getLast? with | none => (0, p, L) | some b => (0, b.en, L.dropLast ++ [⟨b.en, p, b.lo⟩]))
  else if n = 50 then (match L.getLast? with | none => (0, p, L) | some b => (alikeS p b.la, p, L.dropLast))
  else if n = 52 then (match (lpIx L).bind (fun i => L[i]?) with | none => (0, p, L) | some b => (alikeS p b.en, p, L))
  else (0, p, L)
/-- The blocks that the operation needs are open. -/
def TurnOk (n : Int) (L : List OB) : Prop := (n = 49 ∨ n = 50 → L ≠ []) ∧ (n = 52 → (lpIx L).isSome = true)
theorem turn7_any {wb : Nat} {fv sv : Value} {p : List Int} {L : List OB} {a : Option Addr} {c : Nat} {la : Option Addr} {lc : Nat} {bs : List Nat} (n : Int) (ho : TurnOk n L) (bp : p.length ≤ 1000) (bb : ∀ b ∈ L, b.en.length ≤ 1000 ∧ b.la.length ≤ 1000) (bm : L.length ≤ 1000) (W : World) (h : WStA wb fv sv p L a c la lc bs W) :
    Calls Tryz.prog 140 #[.pointer (some ⟨wb, 0, none⟩), .int .i64 n] W (WEnd wb fv sv (turnW n p L).1 (turnW n p L).2.1 (turnW n p L).2.2 W) := by
  by_cases h1 : n = 48 ∨ n = 51
  · have e1 : turnW n p L = (0, p, L ++ [⟨p, p, decide (n = 51)⟩]) := by rw [turnW, if_pos h1]
    rw [e1]
    exact turn_open bm W h n h1
  by_cases h2 : n = 49
  · rcases List.eq_nil_or_concat L with rfl | ⟨M, b, rfl⟩
    · exact absurd rfl (ho.1 (.inl h2))
    rw [List.concat_eq_append] at h bb bm ⊢
    have e1 : turnW n p (M ++ [b]) = (0, b.en, M ++ [⟨b.en, p, b.lo⟩]) := by
      rw [turnW, if_neg h1, if_pos h2]
      simp
    rw [e1]
    subst h2
    exact turn_else (L := M) (bb b (by simp)).1 (by simp at bm; omega) W h
  by_cases h3 : n = 50
  · rcases List.eq_nil_or_concat L with rfl | ⟨M, b, rfl⟩
    · exact absurd rfl (ho.1 (.inr h3))
    rw [List.concat_eq_append] at h bb bm ⊢
    have e1 : turnW n p (M ++ [b]) = (alikeS p b.la, p, M) := by
      rw [turnW, if_neg h1, if_neg h2, if_pos h3]
      simp
    rw [e1]
    subst h3
    exact turn_end (L := M) bp (bb b (by simp)).2 (by simp at bm; omega) W h
  by_cases h4 : n = 52
  · obtain ⟨i, hi⟩ := Option.isSome_iff_exists.1 (ho.2 h4)
    have hil : i < L.length := fstIx_lt hi
    have e1 : turnW n p L = (alikeS p L[i].en, p, L) := by
      rw [turnW, if_neg h1, if_neg h2, if_neg h3, if_pos h4, hi]
      simp [hil]
    rw [e1]
    subst h4
    exact turn_leave i hi L[i] (List.getElem?_eq_getElem hil) bp (bb _ (List.getElem_mem _)).1 bm W h
  · have e1 : turnW n p L = (0, p, L) := by rw [turnW, if_neg h1, if_neg h2, if_neg h3, if_neg h4]
    rw [e1]
    exact turn_none W h n (by omega)
/-- What an instruction makes of them. -/
def passW (fs : List Fn) (sl : List Int) (x : Int × Int) (p : List Int) (L : List OB) : Int × List Int × List OB :=
  if (stepW fs sl x p).1 ≠ 0 then ((stepW fs sl x p).1, (stepW fs sl x p).2, L)
  else if (turnW x.1 (stepW fs sl x p).2 L).1 ≠ 0 then turnW x.1 (stepW fs sl x p).2 L
  else if 32 < (turnW x.1 (stepW fs sl x p).2 L).2.1.length then (32, (turnW x.1 (stepW fs sl x p).2 L).2)
  else (0, (turnW x.1 (stepW fs sl x p).2 L).2)
set_option maxRecDepth 100000 in
set_option maxHeartbeats 2000000 in
theorem pass_any {wb : Nat} {fs : List Fn} {sl : List Int} {fa : Option Addr} {fc : Nat} {sa : Option Addr} {sc : Nat} {p : List Int} {L : List OB} {a : Option Addr} {c : Nat} {la : Option Addr} {lc : Nat} {bs : List Nat} (x : Int × Int) (hx : InsR fs sl x) (ho : TurnOk x.1 L) (bsl : sl.length ≤ 1000) (bf : fs.length ≤ 1000) (bp : p.length ≤ 100) (bb : ∀ b ∈ L, b.en.length ≤ 1000 ∧ b.la.length ≤ 1000) (bm : L.length ≤ 1000) (bt : (takenS fs sl x).length ≤ 1000) (hsc : sl.length ≤ sc) (W : World) (h : WStA wb (.slice fa fs.length fc) (.slice sa sl.length sc) p L a c la lc bs W)
    (hK : ∀ V, Below wb W V → FsAt V.cell? fa fs ∧ NsAt V.cell? sa sl) (bg : ∀ l, (givenS fs sl x (p.drop l)).length ≤ 500) :
    Calls Tryz.prog 83 #[.pointer (some ⟨wb, 0, none⟩), .agg #[.int .i64 x.1, .int .i64 x.2]] W (WEnd wb (.slice fa fs.length fc) (.slice sa sl.length sc) (passW fs sl x p L).1 (passW fs sl x p L).2.1 (passW fs sl x p L).2.2 W) := by
  have hlt := blk_lt h.box
  have b1 := (Below.refl _ W).alloc (Nat.le_refl _) (.cells #[.int .i64 x.1, .int .i64 x.2] 83)
  have h1 := h.below b1
  have hS := step7_any x hx bsl bf (by omega) bt hsc _ h1 (fun V hV => hK V ((b1.mono (Nat.le_of_lt hlt)).trans hV)) (fun l => by have := bg l; omega)
  have bS : (stepW fs sl x p).2.length ≤ 1000 := by
    unfold stepW
    split
    · rw [List.length_append, List.length_take]
      have := bg (takeS p (takenS fs sl x)).2
      omega
    · show p.length ≤ 1000; omega
  unfold passW
  by_cases e1 : (stepW fs sl x p).1 ≠ 0
  · rw [if_pos e1]
    have hne : ((stepW fs sl x p).1 != 0) = true := by simpa using e1
    have HS : Hid (Calls Tryz.prog 139 #[.pointer (some ⟨wb, 0, none⟩), .agg #[.int .i64 x.1, .int .i64 x.2]] (W.alloc (.cells #[.int .i64 x.1, .int .i64 x.2] 83)) fun e w1 => e = .returned (.int .i64 (stepW fs sl x p).1) ∧ Hid (WEnd wb (.slice fa fs.length fc) (.slice sa sl.length sc) (stepW fs sl x p).1 (stepW fs sl x p).2 L W e w1)) := hid7 (hS.mono fun e w1 ⟨q1, q2, q3, q4⟩ => ⟨q1, hid7 ⟨q1, q2, (b1.mono (Nat.le_of_lt hlt)).trans q3, (Mv7.below b1).trans q4⟩⟩)
    clear hS h1 h hK hx b1 bS e1
    generalize (stepW fs sl x p).1 = er at HS hne ⊢
    generalize (stepW fs sl x p).2 = p2 at HS ⊢
    generalize (Value.slice fa fs.length fc) = fv at HS ⊢
    generalize (Value.slice sa sl.length sc) = sv at HS ⊢
    obtain ⟨n, A⟩ := x
    simp only at HS ⊢
    go_enter Tryz.func83, Tryz.ntmps83
    go_wp2_with (first | (go_at_call 139; refine HS.out.mono ?_; clear HS; rintro e w1 ⟨rfl, K1⟩) | fail)
    go_ret
    exact K1.out
  · have e0 : (stepW fs sl x p).1 = 0 := Decidable.byContradiction e1
    rw [if_neg e1]
    rw [e0] at hS
    obtain ⟨T, hT⟩ : ∃ T, T = turnW x.1 (stepW fs sl x p).2 L := ⟨_, rfl⟩
    rw [← hT]
    obtain ⟨er, p2, L2⟩ := T
    simp only
    have HS : Hid (Calls Tryz.prog 139 #[.pointer (some ⟨wb, 0, none⟩), .agg #[.int .i64 x.1, .int .i64 x.2]] (W.alloc (.cells #[.int .i64 x.1, .int .i64 x.2] 83)) fun e w1 => e = .returned (.int .i64 0) ∧ w1.cell? ⟨W.heap.size, 0, none⟩ = some (.int .i64 x.1) ∧
        Hid (Calls Tryz.prog 140 #[.pointer (some ⟨wb, 0, none⟩), .int .i64 x.1] w1 fun e w2 => e = .returned (.int .i64 er) ∧ ∃ a2 c2, w2.cell? ⟨wb, 2, none⟩ = some (.slice a2 p2.length c2) ∧ Hid (∀ e' r, e' = .returned (.int .i64 r) → WEnd wb (.slice fa fs.length fc) (.slice sa sl.length sc) r p2 L2 W e' w2))) := hid7 (hS.mono fun e w1 ⟨q1, ⟨a1, c1, la1, lc1, bs1, q2⟩, q3, q4⟩ => by
      have e2 : (W.alloc (.cells #[.int .i64 x.1, .int .i64 x.2] 83)).heap[W.heap.size]? = some (.cells #[.int .i64 x.1, .int .i64 x.2] 83 (0, 0)) := heap_alloc_new W _
      have e3 := q4.2 _ _ _ _ (by decide) (by decide) (by decide) e2
      refine ⟨q1, by simp [World.cell?, e3], hid7 ?_⟩
      have hTn := turn7_any x.1 ho bS bb bm w1 q2
      rw [← hT] at hTn
      refine hTn.mono fun e4 w2 ⟨r1, ⟨a2, c2, la2, lc2, bs2, r2⟩, r3, r4⟩ => ?_
      refine ⟨r1, a2, c2, (four_cell r2.box).1.2.2.1, hid7 fun e' r he' => ⟨he', ⟨_, _, _, _, _, r2⟩, ?_, ?_⟩⟩
      · exact ((b1.mono (Nat.le_of_lt hlt)).trans q3).trans r3
      · exact ((Mv7.below b1).trans q4).trans r4)
    have hp2 : p2.length ≤ 2000 := by
      have : p2 = (turnW x.1 (stepW fs sl x p).2 L).2.1 := by rw [← hT]
      rw [this]
      unfold turnW
      split
      · show (stepW fs sl x p).2.length ≤ 2000; omega
      split
      · cases hl : L.getLast? with
        | none => show (stepW fs sl x p).2.length ≤ 2000; omega
        | some b =>
          have := (bb b (List.mem_of_getLast? hl)).1
          show b.en.length ≤ 2000; omega
      split
      · cases L.getLast? <;> (show (stepW fs sl x p).2.length ≤ 2000; omega)
      split
      · cases (lpIx L).bind (fun i => L[i]?) <;> (show (stepW fs sl x p).2.length ≤ 2000; omega)
      · show (stepW fs sl x p).2.length ≤ 2000; omega
    clear hS h1 h hK hx b1 bS e1 e0 hT ho bb
    generalize (Value.slice fa fs.length fc) = fv at HS ⊢
    generalize (Value.slice sa sl.length sc) = sv at HS ⊢
    obtain ⟨pl, hpl⟩ : ∃ pl, pl = p2.length := ⟨_, rfl⟩
    rw [← hpl] at HS hp2 ⊢
    clear hpl
    obtain ⟨n, A⟩ := x
    simp only at HS ⊢
    by_cases g1 : er ≠ 0
    · rw [if_pos g1]
      have hne : (er != 0) = true := by simpa using g1
      clear g1
      go_enter Tryz.func83, Tryz.ntmps83
      go_wp2_with (first | (go_at_call 139; refine HS.out.mono ?_; clear HS; rintro e w1 ⟨rfl, d0, hT⟩) | (go_at_call 140; refine hT.out.mono ?_; clear hT; rintro e w2 ⟨rfl, a2, c2, d2, K1⟩) | fail)
      go_ret
      exact K1.out _ _ rfl
    · have g0 : er = 0 := Decidable.byContradiction g1
      subst g0
      rw [if_neg (by simp)]
      by_cases g2 : (32 : Int) < pl
      · rw [if_pos (by omega)]
        go_enter Tryz.func83, Tryz.ntmps83
        go_wp2_with (first | (go_at_call 139; refine HS.out.mono ?_; clear HS; rintro e w1 ⟨rfl, d0, hT⟩) | (go_at_call 140; refine hT.out.mono ?_; clear hT; rintro e w2 ⟨rfl, a2, c2, d2, K1⟩) | fail)
        go_ret
        exact K1.out _ _ rfl
      · rw [if_neg (by omega)]
        go_enter Tryz.func83, Tryz.ntmps83
        go_wp2_with (first | (go_at_call 139; refine HS.out.mono ?_; clear HS; rintro e w1 ⟨rfl, d0, hT⟩) | (go_at_call 140; refine hT.out.mono ?_; clear hT; rintro e w2 ⟨rfl, a2, c2, d2, K1⟩) | fail)
        go_ret
        exact K1.out _ _ rfl
end Go.Proofs.YtfnpngbcnmglfaaGreat
