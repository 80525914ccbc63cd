/- A walk's step: what an instruction takes off the stack, and what it puts. -/
import Derived.Test.YtnidakplcaanfaaTJ
namespace Go.Proofs.Ytnidakplcaanfaa
open Go.RowKit Go.Shelf
theorem tk_len {st : List Int} : ∀ {ws : List Int} {l l' : Nat}, tkS st ws l = (0, l') → l' + ws.length = l
  | [], l, l', h => by simp [tkS] at h; simp [h]
  | x :: r, l, l', h => by
    rw [tkS] at h
    split at h
    · simp at h
    split at h
    · simp at h
    · have := tk_len h
      simp only [List.length_cons]
      omega
theorem take_len {st ts : List Int} {l : Nat} (h : takeS st ts = (0, l)) : l + ts.length = st.length := by
  have := tk_len h
  rwa [List.length_reverse] at this
theorem tk_no {st : List Int} : ∀ {ws : List Int} {l : Nat}, (tkS st ws l).1 ≠ 0 → (tkS st ws l).2 = 0
  | [], l, h => by simp [tkS] at h
  | x :: r, l, h => by
    rw [tkS] at h ⊢
    split at h
    · rename_i h0; rw [if_pos h0]
    rename_i h0
    rw [if_neg h0]
    split at h
    · rename_i h1; rw [if_pos h1]
    · rename_i h1; rw [if_neg h1]; exact tk_no h
theorem inT_7 : inT 7 = [0, 0] := by decide
theorem inT_8 : inT 8 = [0, 0] := by decide
theorem ns_take {C : Addr → Option Value} {a : Option Addr} {p : List Int} (h : NsAt C a p) (l : Nat) : NsAt C a (p.take l) := by
  rcases h with rfl | ⟨b, off, e, h⟩
  · exact .inl (by simp)
  · exact .inr ⟨b, off, e, fun j hj => by
      rw [List.length_take] at hj
      rw [h j (by omega), List.getElem_take]⟩
theorem ns_drop {C : Addr → Option Value} {b off : Nat} {p : List Int} (h : NsAt C (some ⟨b, off, none⟩) p) (l c : Nat) (hc : p.length ≤ c) : NsAt C (if c = l then some ⟨b, off, none⟩ else some ⟨b, off + l, none⟩) (p.drop l) := by
  by_cases hcl : c = l
  · exact .inl (List.drop_eq_nil_of_le (by omega))
  · rw [if_neg hcl]
    rcases h with rfl | ⟨b', off', e, h⟩
    · exact .inl (by simp)
    · cases e
      refine .inr ⟨b, off + l, rfl, fun j hj => ?_⟩
      rw [List.length_drop] at hj
      rw [List.getElem_drop, Nat.add_assoc]
      exact h (l + j) (by omega)
/-- What a step makes of the stack. -/
def stepW (fs : List Fn) (sl : List Int) (x : Int × Int) (p : List Int) : Int × List Int :=
  if (takeS p (takenS fs sl x)).1 = 0 then (0, p.take (takeS p (takenS fs sl x)).2 ++ givenS fs sl x (p.drop (takeS p (takenS fs sl x)).2)) else ((takeS p (takenS fs sl x)).1, p)
theorem WStA.fsl {wb : Nat} {fs : List Fn} {sl : List Int} {fa : Option Addr} {fc : Nat} {sa : Option Addr} {sc : Nat} {p : List Int} {L : List OB} {a : Option Addr} {c : Nat} {la : Option Addr} {lc : Nat} {bs : List Nat} {W : World} (h : WStA wb (.slice fa fs.length fc) (.slice sa sl.length sc) p L a c la lc bs W) (hf : FsAt W.cell? fa fs) (hs : NsAt W.cell? sa sl) (hc : sl.length ≤ sc) : FSl wb fs sl fa fc sa sc W := by
  have := (four_cell h.box).1
  exact ⟨this.1, this.2.1, hf, hs, hc⟩
set_option maxRecDepth 100000 in
set_option maxHeartbeats 2000000 in
theorem step_no {wb : Nat} {fs : List Fn} {sl : List Int} {fa : Option Addr} {fc : Nat} {sa : Option Addr} {sc : Nat} {p : List Int} {L : List OB} {a : Option Addr} {c : Nat} {la : Option Addr} {lc : Nat} {bs : List Nat} (x : Int × Int) (hx : InsR fs sl x) (bsl : sl.length ≤ 1000) (bf : fs.length ≤ 1000) (bp : p.length ≤ 1000) (bt : (takenS fs sl x).length ≤ 1000) (hsc : sl.length ≤ sc) (W : World) (h : WStA wb (.slice fa fs.length fc) (.slice sa sl.length sc) p L a c la lc bs W)
    (hK : ∀ V, Below wb W V → FsAt V.cell? fa fs ∧ NsAt V.cell? sa sl) (er : Int) (her : er ≠ 0) (ht : takeS p (takenS fs sl x) = (er, 0)) :
    Calls Try.prog 71 #[.pointer (some ⟨wb, 0, none⟩), .agg #[.int .i64 x.1, .int .i64 x.2]] W (WEnd wb (.slice fa fs.length fc) (.slice sa sl.length sc) er p L W) := by
  have hlt := blk_lt h.box
  have b1 := (Below.refl _ W).alloc (Nat.le_refl _) (.cells #[.int .i64 x.1, .int .i64 x.2] 53)
  have bV := b1.drew
  have hV := h.below bV
  obtain ⟨k1, k2⟩ := hK _ (bV.mono (Nat.le_of_lt hlt))
  have HT : Hid (Calls Try.prog 86 #[.pointer (some ⟨wb, 0, none⟩), .agg #[.int .i64 x.1, .int .i64 x.2]] (W.alloc (.cells #[.int .i64 x.1, .int .i64 x.2] 53)).drew fun e w1 => ∃ ta tc, e = .returned (.slice ta (takenS fs sl x).length tc) ∧ w1.cell? ⟨wb, 2, none⟩ = some (.slice a p.length c) ∧ Hid (Calls Try.prog 85 #[.slice a p.length c, .slice ta (takenS fs sl x).length tc] w1 fun e w2 => e = .returned (.tuple #[.slice none 0 0, .int .i64 er]) ∧ Hid (∀ e', e' = .returned (.int .i64 er) → WEnd wb (.slice fa fs.length fc) (.slice sa sl.length sc) er p L W e' w2))) := hid7 ((taken_any x hx bsl bf _ (hV.fsl k1 k2 hsc)).mono fun e w1 ⟨ta, tc, he, n1, b2⟩ => by
    have h1 := hV.below b2
    refine ⟨ta, tc, he, (four_cell h1.box).1.2.2.1, hid7 ?_⟩
    refine (take_any a ta c tc _ _ p (takenS fs sl x) rfl rfl (by omega) (by omega) h1.cap w1 h1.stk.at' n1).mono fun e2 w2 ⟨he2, b3⟩ => ?_
    rw [ht] at he2
    refine ⟨by rw [he2]; simp [her], hid7 fun e' he' => ⟨he', ⟨_, _, _, _, _, h1.below b3⟩, ?_, ?_⟩⟩
    · exact ((bV.trans (b2.mono bV.size)).trans (b3.mono (Nat.le_trans bV.size b2.size))).mono (Nat.le_of_lt hlt)
    · exact ((Mv7.below bV).trans (Mv7.below b2)).trans (Mv7.below b3))
  have c2 := (four_cell h.box).1.2.2.1
  have hne : (er != 0) = true := by simpa using her
  clear h hV hK k1 k2 hx b1 bV ht
  generalize p.length = pl at c2 HT bp
  generalize (takenS fs sl x).length = tl at HT bt
  generalize (Value.slice fa fs.length fc) = fv at HT ⊢
  generalize (Value.slice sa sl.length sc) = sv at HT ⊢
  obtain ⟨n, A⟩ := x
  simp only at HT ⊢
  go_enter Try.func71, Try.ntmps71
  go_wp2_with fail
  go_region_with (first | (go_at_call 86; refine HT.out.mono ?_; clear HT; rintro e w1 ⟨ta, tc, rfl, cw, hA⟩) | (go_at_call 85; refine hA.out.mono ?_; clear hA; rintro e w2 ⟨rfl, K1⟩) | fail)
  all_goals
    go_wp2
    go_ret
    exact K1.out _ rfl
set_option maxRecDepth 100000 in
set_option maxHeartbeats 8000000 in
theorem step_yes {wb : Nat} {fs : List Fn} {sl : List Int} {fa : Option Addr} {fc : Nat} {sa : Option Addr} {sc : Nat} {p : List Int} {L : List OB} {ab ao c : Nat} {la : Option Addr} {lc : Nat} {bs : List Nat} (x : Int × Int) (hx : InsR fs sl x) (bsl : sl.length ≤ 1000) (bf : fs.length ≤ 1000) (bp : p.length ≤ 1000) (bt : (takenS fs sl x).length ≤ 1000) (hsc : sl.length ≤ sc) (W : World) (h : WStA wb (.slice fa fs.length fc) (.slice sa sl.length sc) p L (some ⟨ab, ao, none⟩) c la lc bs W)
    (hK : ∀ V, Below wb W V → FsAt V.cell? fa fs ∧ NsAt V.cell? sa sl) (l : Nat) (ht : takeS p (takenS fs sl x) = (0, l)) (bg : (givenS fs sl x (p.drop l)).length ≤ 1000) :
    Calls Try.prog 71 #[.pointer (some ⟨wb, 0, none⟩), .agg #[.int .i64 x.1, .int .i64 x.2]] W (WEnd wb (.slice fa fs.length fc) (.slice sa sl.length sc) 0 (p.take l ++ givenS fs sl x (p.drop l)) L W) := by
  have hlt := blk_lt h.box
  have hll := take_len ht
  have hdl : (p.drop l).length = p.length - l := List.length_drop
  have h78 : x.1 = 7 ∨ x.1 = 8 → p.length - l = 2 := fun hh => by
    have : (takenS fs sl x).length = 2 := by
      rcases hh with hh | hh
      · rw [takenS, if_neg (by omega), if_neg (by omega), hh, inT_7]; rfl
      · rw [takenS, if_neg (by omega), if_neg (by omega), hh, inT_8]; rfl
    omega
  have b1 := (Below.refl _ W).alloc (Nat.le_refl _) (.cells #[.int .i64 x.1, .int .i64 x.2] 53)
  have bV := b1.drew
  have hV := h.below bV
  have cx : ∀ V, Below (W.alloc (.cells #[.int .i64 x.1, .int .i64 x.2] 53)).drew.heap.size (W.alloc (.cells #[.int .i64 x.1, .int .i64 x.2] 53)).drew V → V.cell? ⟨W.heap.size, 0, none⟩ = some (.int .i64 x.1) ∧ V.cell? ⟨W.heap.size, 1, none⟩ = some (.int .i64 x.2) := fun V hVV => by
    have e1 : (W.alloc (.cells #[.int .i64 x.1, .int .i64 x.2] 53)).heap[W.heap.size]? = some (.cells #[.int .i64 x.1, .int .i64 x.2] 53 (0, 0)) := heap_alloc_new W _
    have e2 := (hVV.block W.heap.size (by show _ < (W.alloc (.cells #[.int .i64 x.1, .int .i64 x.2] 53)).heap.size; simp)).trans e1
    simp [World.cell?, e2]
  obtain ⟨k1, k2⟩ := hK _ (bV.mono (Nat.le_of_lt hlt))
  have HT : Hid (Calls Try.prog 86 #[.pointer (some ⟨wb, 0, none⟩), .agg #[.int .i64 x.1, .int .i64 x.2]] (W.alloc (.cells #[.int .i64 x.1, .int .i64 x.2] 53)).drew fun e w1 => ∃ ta tc, e = .returned (.slice ta (takenS fs sl x).length tc) ∧ w1.cell? ⟨wb, 2, none⟩ = some (.slice (some ⟨ab, ao, none⟩) p.length c) ∧
      Hid (Calls Try.prog 85 #[.slice (some ⟨ab, ao, none⟩) p.length c, .slice ta (takenS fs sl x).length tc] w1 fun e w2 => e = .returned (.tuple #[.slice (some ⟨ab, ao, none⟩) l c, .int .i64 0]) ∧ w2.cell? ⟨wb, 2, none⟩ = some (.slice (some ⟨ab, ao, none⟩) p.length c) ∧ w2.cell? ⟨W.heap.size, 0, none⟩ = some (.int .i64 x.1) ∧ w2.cell? ⟨W.heap.size, 1, none⟩ = some (.int .i64 x.2) ∧
        Hid (Calls Try.prog 88 #[.pointer (some ⟨wb, 0, none⟩), .agg #[.int .i64 x.1, .int .i64 x.2], .slice (if c = l then some ⟨ab, ao, none⟩ else some ⟨ab, ao + l, none⟩) (p.length - l) (c - l)] w2.drew fun e w3 => ∃ ga gc, e = .returned (.slice ga (givenS fs sl x (p.drop l)).length gc) ∧
          Hid (Calls Try.prog 87 #[.slice (some ⟨ab, ao, none⟩) l c, .slice ga (givenS fs sl x (p.drop l)).length gc] w3 fun e w4 => ∃ a4 c4 n4, e = .returned (.slice a4 n4 c4) ∧ (∃ u, w4.cell? ⟨wb, 2, none⟩ = some u) ∧ w4.frozen? ⟨wb, 2, none⟩ = false ∧ Hid (∀ e', e' = .returned (.int .i64 0) → WEnd wb (.slice fa fs.length fc) (.slice sa sl.length sc) 0 (p.take l ++ givenS fs sl x (p.drop l)) L W e' (w4.setCell ⟨wb, 2, none⟩ (.slice a4 n4 c4))))))) := hid7 ((taken_any x hx bsl bf _ (hV.fsl k1 k2 hsc)).mono fun e w1 ⟨ta, tc, he, n1, b2⟩ => by
    have h1 := hV.below b2
    refine ⟨ta, tc, he, (four_cell h1.box).1.2.2.1, hid7 ?_⟩
    refine (take_any _ ta c tc _ _ p (takenS fs sl x) rfl rfl (by omega) (by omega) h1.cap w1 h1.stk.at' n1).mono fun e2 w2 ⟨he2, b3⟩ => ?_
    rw [ht] at he2
    have h2 := h1.below b3
    have bb2 : Below (W.alloc (.cells #[.int .i64 x.1, .int .i64 x.2] 53)).drew.heap.size (W.alloc (.cells #[.int .i64 x.1, .int .i64 x.2] 53)).drew w2 := b2.trans (b3.mono b2.size)
    have bW2 : Below W.heap.size W w2 := bV.trans (bb2.mono bV.size)
    obtain ⟨d0, d1⟩ := cx w2 bb2
    refine ⟨by rw [he2]; simp, (four_cell h2.box).1.2.2.1, d0, d1, hid7 ?_⟩
    have bW2d : Below W.heap.size W w2.drew := bW2.drew
    have h2d : WStA wb (.slice fa fs.length fc) (.slice sa sl.length sc) p L (some ⟨ab, ao, none⟩) c la lc bs w2.drew := h2.drew 1
    obtain ⟨q1, q2⟩ := hK _ (bW2d.mono (Nat.le_of_lt hlt))
    refine (given_any x hx bsl bf _ (h2d.fsl q1 q2 hsc) (p.drop l) _ (c - l) (p.length - l) hdl (by omega) (by have := h2.cap; omega) (ns_drop h2d.stk.at' l c h2.cap) h78).mono fun e3 w3 ⟨ga, gc, he3, n3, b4⟩ => ?_
    have h3 := h2d.below b4
    refine ⟨ga, gc, he3, hid7 ?_⟩
    have htl : (p.take l).length = l := by rw [List.length_take]; omega
    refine (put_any _ ga c gc l _ (p.take l) _ htl rfl (by omega) (by omega) w3 (ns_take h3.stk.at' l) n3).mono fun e4 w4 ⟨a4, c4, he4, hc4, hr4, b5⟩ => ?_
    have h4 := h3.below b5
    have hcx := four_cell h4.box
    refine ⟨a4, c4, _, he4, ⟨_, hcx.1.2.2.1⟩, hcx.2.1, hid7 fun e' he' => ⟨he', ⟨a4, c4, la, lc, bs, ?_⟩, ?_, ?_⟩⟩
    · have mW := Mv7.set (o := 2) (u := .slice a4 (p.take l ++ givenS fs sl x (p.drop l)).length c4) h4.box (.inl rfl)
      refine ⟨four_set2 h4.box, hc4, ((ns_in_row hr4).low (Nat.le_of_lt (blk_lt h3.box))).mv mW, row_other6 h4.row h4.box (by decide), h4.len, h4.nod, h4.gt, fun i hi => (h4.blk i hi).other h4.box (.inl rfl) fun e => ?_⟩
      have : bs.getD i 0 ∈ bs := by
        rw [List.getD_eq_getElem?_getD, List.getElem?_eq_getElem (by rw [h4.len]; exact hi)]
        exact List.getElem_mem _
      have := h4.gt _ this
      omega
    · have q3 : Below W.heap.size W w4 := (bW2d.trans (b4.mono bW2d.size)).trans (b5.mono (Nat.le_trans bW2d.size b4.size))
      exact (q3.mono (Nat.le_of_lt hlt)).setCell (p := ⟨wb, 2, none⟩) (Nat.le_refl _) _
    · have q3 : Below W.heap.size W w4 := (bW2d.trans (b4.mono bW2d.size)).trans (b5.mono (Nat.le_trans bW2d.size b4.size))
      exact (Mv7.below q3).trans (Mv7.set h4.box (.inl rfl)))
  have c2 := (four_cell h.box).1.2.2.1
  have hlp : (l : Int) ≤ p.length := by omega
  have hpc : (p.length : Int) ≤ c := by have := h.cap; omega
  clear h hV hK k1 k2 hx b1 bV ht cx h78 hdl hll
  generalize p.length = pl at c2 HT bp hlp hpc
  generalize (takenS fs sl x).length = tl at HT bt
  generalize (givenS fs sl x (p.drop l)).length = gl at HT bg
  generalize p.take l ++ givenS fs sl x (p.drop l) = p' at HT ⊢
  generalize (Value.slice fa fs.length fc) = fv at HT ⊢
  generalize (Value.slice sa sl.length sc) = sv at HT ⊢
  obtain ⟨n, A⟩ := x
  simp only at HT ⊢
  by_cases hcl : c = l
  · have hpl : pl = l := by omega
    subst hcl
    subst hpl
    rw [if_pos rfl, Nat.sub_self] at HT
    go_enter Try.func71, Try.ntmps71
    go_wp2_with fail
    go_region_with (first | (go_at_call 86; refine HT.out.mono ?_; clear HT; rintro e w1 ⟨ta, tc, rfl, cw, hA⟩) | (go_at_call 85; refine hA.out.mono ?_; clear hA; rintro e w2 ⟨rfl, d2, d0, d1, hG⟩) | fail)
    all_goals go_wp2_with fail
    all_goals go_region_with (first | (go_at_call 88; refine hG.out.mono ?_; clear hG; rintro e w3 ⟨ga, gc, rfl, hP⟩) | (go_at_call 87; refine hP.out.mono ?_; clear hP; rintro e w4 ⟨a4, c4, n4, rfl, ⟨u4, z4⟩, f4, K1⟩) | fail)
    all_goals
      go_wp2
      go_ret
      exact K1.out _ rfl
  · rw [if_neg hcl] at HT
    go_enter Try.func71, Try.ntmps71
    go_wp2_with fail
    go_region_with (first | (go_at_call 86; refine HT.out.mono ?_; clear HT; rintro e w1 ⟨ta, tc, rfl, cw, hA⟩) | (go_at_call 85; refine hA.out.mono ?_; clear hA; rintro e w2 ⟨rfl, d2, d0, d1, hG⟩) | fail)
    all_goals go_wp2_with fail
    all_goals go_region_with (first | (go_at_call 88; refine hG.out.mono ?_; clear hG; rintro e w3 ⟨ga, gc, rfl, hP⟩) | (go_at_call 87; refine hP.out.mono ?_; clear hP; rintro e w4 ⟨a4, c4, n4, rfl, ⟨u4, z4⟩, f4, K1⟩) | fail)
    all_goals
      go_wp2
      go_ret
      exact K1.out _ rfl
end Go.Proofs.Ytnidakplcaanfaa
