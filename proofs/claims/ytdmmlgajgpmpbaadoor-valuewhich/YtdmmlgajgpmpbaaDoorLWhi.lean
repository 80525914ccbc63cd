/- The law ValueWhich. -/
import Derived.Test.YtdmmlgajgpmpbaaDoorVC
import Derived.Test.YtdmmlgajgpmpbaaDoorVO
import Derived.Test.YtdmmlgajgpmpbaaDoorVK
import Derived.Test.YtdmmlgajgpmpbaaDoorVZ
import Derived.Test.YtdmmlgajgpmpbaaDoorVI
namespace Go.Proofs.YtdmmlgajgpmpbaaDoor
open Go.RowKit Go.Shelf
attribute [local go_sem high] eq_val eq_val0
theorem pair_bel {W w6 : World} {n : Nat} {o1 o2 : Obj} (h : Below ((W.alloc o1).alloc o2).heap.size ((W.alloc o1).alloc o2) w6) (hn : n ≤ W.heap.size) : Below n W w6 :=
  (((Below.refl _ W).alloc hn _).alloc (by simp; omega) _).trans (h.mono (by simp; omega))
theorem after7 {wr w3 w4 w5 w7 : World} {o1 o2 : Obj} (h3 : Below wr.heap.size wr w3) (h4 : Below (w3.alloc o1).heap.size (w3.alloc o1) w4) (h5 : Below w4.heap.size w4 w5) (h7 : Below (w5.alloc o2).heap.size (w5.alloc o2) w7) : Below wr.heap.size wr w7 := by
  have a1 := h3.alloc h3.size o1
  have a2 := a1.trans (h4.mono a1.size)
  have a3 := a2.trans (h5.mono a2.size)
  have a4 := a3.alloc a3.size o2
  exact a4.trans (h7.mono a4.size)
set_option maxRecDepth 100000 in
set_option maxHeartbeats 4000000 in
theorem which_walk (a : Option Addr) (n c : Nat) (L : List Val) (hn : L.length = n) (b : Option Addr) (m d : Nat) (ts : List Int) (hm : ts.length = m) (z : Int) (s : List UInt8) (w : World) (hL : Laid w) (hV : Vs w a L) (hT : IntsAt w b ts) (hF : Fair L) (hl : n * 32 ≤ 140737488351232) (hl' : m * 8 ≤ 140737488351232) : Calls Tryd.prog 3 #[.slice a n c, .slice b m d, .int .i64 z, .string ⟨s.toArray⟩] w fun e w' => e = .returned (.bool true) ∧ Below w.heap.size w w' := by
  go_enter Tryd.func3, Tryd.ntmps3
  go_wp2_with (go_at_call 7; refine (own_any a n c L hn _ hV (by omega)).mono ?_; rintro e w1 ⟨oa, oc, rfl, hVo, hb1⟩)
  go_loopw [10] (fun i wr => ∃ k : Nat, k ≤ n ∧ i = .int .i64 k ∧ Below w1.heap.size w1 wr) (fun i _ => n - (intOf i).toNat)
  case atStart => exact ⟨0, Nat.zero_le _, rfl, Below.refl _ _⟩
  case round =>
    obtain ⟨k, hk, rfl, hb⟩ := hrel
    by_cases hlt : k < n
    · rcases (hV.keep hb1).keep hb with h0 | ⟨b0, off0, hao, hc0⟩
      · subst h0; simp at hn; omega
      rcases hVo.keep hb with h0 | ⟨b2, off2, hao2, hc2⟩
      · subst h0; simp at hn; omega
      subst hao hao2
      obtain ⟨c0, c1, c2⟩ := hc0 k (by omega)
      obtain ⟨d0, d1, d2⟩ := hc2 k (by omega)
      have l0 := World.block_lt_of_cell? _ _ c0
      have l1 := World.block_lt_of_cell? _ _ d0
      simp only at l0 l1
      have hx := hF L[k] (by simp)
      generalize L[k] = x at c0 c1 c2 d0 d1 d2 hx
      have hR := fun W => right_any x hx W
      have hR' := fun W => rright_any x hx W
      generalize x.right = r at hR hR'
      have hcell : ∀ W, Below wr.heap.size wr W → W.cell? ⟨b0, off0 + k * 3, none⟩ = some (.int .i64 x.t) ∧ W.cell? ⟨b0, off0 + k * 3 + 1, none⟩ = some (.int .i64 x.n) ∧ W.cell? ⟨b0, off0 + k * 3 + 2, none⟩ = some (.string ⟨x.b.toArray⟩) := fun W hW => ⟨cell_below c0 hW, cell_below c1 hW, cell_below c2 hW⟩
      obtain ⟨xt, xn, xb⟩ := x
      simp only [Val.v] at hR hR' c0 c1 c2 d0 d1 d2 hcell
      clear hc0 hc2
      go_wp2
      go_region_with (first | (go_at_call 8; refine (hR _).mono ?_; rintro e w2 ⟨rfl, hb2⟩; replace hb2 : Below wr.heap.size wr w2 := (Below.refl _ wr).drew.trans hb2; obtain ⟨e0, e1, e2⟩ := hcell w2 hb2; clear hR) | (go_at_call 9; refine (hR' _).mono ?_; rintro e w3 ⟨rfl, hb3⟩; clear hR'))
      all_goals go_wp2
      all_goals exact ⟨⟨k + 1, by omega, by go_num, hb.trans ((hb2.trans (hb3.mono hb2.size)).mono hb.size)⟩, by simp [intOf]; omega⟩
    · obtain rfl : k = n := by omega
      have hbw : Below w.heap.size w wr := hb1.trans (hb.mono hb1.size)
      have hVo' := hVo.keep hb
      have hV' := hV.keep hbw
      have hT' := hT.keep hbw
      have hL' := hL.keep hbw
      clear hV hT hL hVo hb hb1
      obtain ⟨A, hA⟩ : ∃ A : List Val, A = [⟨1, z, []⟩, ⟨2, 0, s⟩, Val.truth (decide (0 < z)), zeroV z] := ⟨_, rfl⟩
      have hTr : ∀ W, Calls Tryd.prog 12 #[.bool (decide (0 < z))] W fun e w' => e = .returned (Val.v (Val.truth (decide (0 < z)))) ∧ Below W.heap.size W w' := fun W => (truth_any' _ W).mono fun e w' ⟨he, hw⟩ => ⟨he, by rw [hw]; exact ((Below.refl _ W).alloc (Nat.le_refl _) _).alloc (by simp) _⟩
      have hTr' := fun W => rtruth_any (decide (0 < z)) W
      have hZ := fun W => zero_any z W
      have hZ' := fun W => rzero_any z W
      generalize hy : Val.truth (decide (0 < z)) = y at hA hTr hTr'
      generalize hu : zeroV z = u at hA hZ hZ'
      clear hy hu
      obtain ⟨yt, yn, yb⟩ := y
      obtain ⟨ut, un, ub⟩ := u
      simp only [Val.v] at hTr hTr' hZ hZ'
      have hK := fun W hW => knows2_any W hW
      subst hA
      obtain ⟨i0, hi, hz0, hz1, hz2⟩ := info_parts int_info
      by_cases h0 : m = 0 ∧ b = none
      · obtain ⟨rfl, rfl⟩ := h0
        obtain rfl : ts = [] := List.eq_nil_of_length_eq_zero hm
        go_wp2_with (first | (go_at_call 11; refine (text_any' s _).mono ?_; rintro e w' ⟨rfl, rfl⟩; simp only [Val.box, Val.v]) | (go_at_call 10; refine (number_any' _ _).mono ?_; rintro e w' ⟨rfl, rfl⟩; simp only [Val.box, Val.v]) | (go_at_call 12; refine (hTr _).mono ?_; rintro e w2 ⟨rfl, hb2⟩; clear hTr) | (go_at_call 13; refine (hZ _).mono ?_; rintro e w3 ⟨rfl, hb3⟩; clear hZ) | (go_at_call 14; refine (hTr' _).mono ?_; rintro e w4 ⟨rfl, hb4⟩; clear hTr') | (go_at_call 15; refine (hZ' _).mono ?_; rintro e w5 ⟨rfl, hb5⟩; clear hZ') | (go_at_call 16; first | (have hwr2 := pair_bel hb2 (Nat.le_refl _); have hwr3 := hwr2.trans (hb3.mono hwr2.size); have V1 := vsFour w3 ⟨1, z, []⟩ ⟨2, 0, s⟩ ⟨yt, yn, yb⟩ ⟨ut, un, ub⟩ w3.heap.size rfl; have V2 := V1.keep (hb4.trans (hb5.mono hb4.size)); have V3 := V2.keep ((Below.refl _ w5).alloc (Nat.le_refl _) (.cells #[.int .i64 1, .int .i64 z, .string ⟨#[]⟩, .int .i64 2, .int .i64 0, .string ⟨s.toArray⟩, .int .i64 yt, .int .i64 yn, .string ⟨yb.toArray⟩, .int .i64 ut, .int .i64 un, .string ⟨ub.toArray⟩] 27)); have V4 := vsFour w5 ⟨1, z, []⟩ ⟨2, 0, s⟩ ⟨yt, yn, yb⟩ ⟨ut, un, ub⟩ w5.heap.size rfl; refine (same_any _ _ 4 4 4 [⟨1, z, []⟩, ⟨2, 0, s⟩, ⟨yt, yn, yb⟩, ⟨ut, un, ub⟩] rfl _ V3 V4 (by decide)).mono ?_; rintro e w7 ⟨rfl, hb7⟩; have hwr7 : Below wr.heap.size wr w7 := after7 hwr3 hb4 hb5 hb7; have hwr7' := hwr7.alloc hwr7.size (.cells #[] 3); clear V1 V2 V3 V4 hb2) | (refine (same_any _ _ k _ _ L hn _ (hVo'.keep hwr9) (hV'.keep hwr9) (by omega)).mono ?_; rintro e w10 ⟨rfl, hb10⟩; have hwr10 := hwr9.trans (hb10.mono hwr9.size))) | (go_at_call 17; refine (fits_any _ k _ L hn _ 0 _ [] rfl _ (hVo'.keep hwr7') (.inl rfl) hF (by omega)).mono ?_; rintro e w8 ⟨rfl, hb8⟩; have hwr8 := hwr7'.trans (hb8.mono hwr7'.size)) | (go_at_call 18; refine (rfits_any _ k _ L hn _ 0 _ [] rfl _ (hV'.keep hwr8) (.inl rfl) hF (by omega)).mono ?_; rintro e w9 ⟨rfl, hb9⟩; have hwr9 := hwr8.trans (hb9.mono hwr8.size)) | (go_at_call 19; refine (hK _ (hL'.keep hwr10)).mono ?_; rintro e w11 ⟨rfl, hb11⟩))
        go_ret
        exact ⟨by first | rfl | simp, hbw.trans ((hwr10.trans (hb11.mono hwr10.size)).mono hbw.size)⟩
      · obtain ⟨ad, rfl, hnews0⟩ : ∃ ad, b = some ad ∧ ∀ j u, (intsC ts)[j]? = some u → wr.cell? (ad.add j) = some u := by
          rcases hT' with h | ⟨b', off', rfl, hc⟩
          · subst h
            cases b with
            | none => exact absurd ⟨by simpa using hm.symm, rfl⟩ h0
            | some ad => exact ⟨ad, rfl, fun j u hu => by simp [intsC] at hu⟩
          · exact ⟨_, rfl, intsC_get hc⟩
        have hnews : ∀ W, Below wr.heap.size wr W → ∀ j u, (intsC ts)[j]? = some u → W.cell? (ad.add j) = some u := fun W hW j u hu => cell_below (hnews0 j u hu) hW
        have hrow : ∀ W : World, (W.alloc (.cells #[] 3)).ownsRow W.heap.size 3 1 (.slice (some ⟨W.heap.size, 0, none⟩) 0 0) 0 [] := fun W => ⟨rfl, .inr ⟨W.heap.size, 0, #[], rfl, Nat.le_refl _, heap_alloc_new W _, Nat.le_refl _, Nat.zero_le _, rfl, rfl⟩⟩
        go_wp2_with (first | (go_at_call 11; refine (text_any' s _).mono ?_; rintro e w' ⟨rfl, rfl⟩; simp only [Val.box, Val.v]) | (go_at_call 10; refine (number_any' _ _).mono ?_; rintro e w' ⟨rfl, rfl⟩; simp only [Val.box, Val.v]) | (go_at_call 12; refine (hTr _).mono ?_; rintro e w2 ⟨rfl, hb2⟩; clear hTr) | (go_at_call 13; refine (hZ _).mono ?_; rintro e w3 ⟨rfl, hb3⟩; clear hZ) | (go_at_call 14; refine (hTr' _).mono ?_; rintro e w4 ⟨rfl, hb4⟩; clear hTr') | (go_at_call 15; refine (hZ' _).mono ?_; rintro e w5 ⟨rfl, hb5⟩; clear hZ') | (go_at_call 16; first | (have hwr2 := pair_bel hb2 (Nat.le_refl _); have hwr3 := hwr2.trans (hb3.mono hwr2.size); have V1 := vsFour w3 ⟨1, z, []⟩ ⟨2, 0, s⟩ ⟨yt, yn, yb⟩ ⟨ut, un, ub⟩ w3.heap.size rfl; have V2 := V1.keep (hb4.trans (hb5.mono hb4.size)); have V3 := V2.keep ((Below.refl _ w5).alloc (Nat.le_refl _) (.cells #[.int .i64 1, .int .i64 z, .string ⟨#[]⟩, .int .i64 2, .int .i64 0, .string ⟨s.toArray⟩, .int .i64 yt, .int .i64 yn, .string ⟨yb.toArray⟩, .int .i64 ut, .int .i64 un, .string ⟨ub.toArray⟩] 27)); have V4 := vsFour w5 ⟨1, z, []⟩ ⟨2, 0, s⟩ ⟨yt, yn, yb⟩ ⟨ut, un, ub⟩ w5.heap.size rfl; refine (same_any _ _ 4 4 4 [⟨1, z, []⟩, ⟨2, 0, s⟩, ⟨yt, yn, yb⟩, ⟨ut, un, ub⟩] rfl _ V3 V4 (by decide)).mono ?_; rintro e w7 ⟨rfl, hb7⟩; have hwr7 : Below wr.heap.size wr w7 := after7 hwr3 hb4 hb5 hb7; have hwr7' := hwr7.alloc hwr7.size (.cells #[] 3); clear V1 V2 V3 V4 hb2) | (refine (same_any _ _ k _ _ L hn _ (hVo'.keep hwr9) (hV'.keep hwr9) (by omega)).mono ?_; rintro e w10 ⟨rfl, hb10⟩; have hwr10 := hwr9.trans (hb10.mono hwr9.size))) | (at_builtin; refine wpList_unguard (by rfl) ?_; refine wpList_append_own_at _ rfl _ _ 23 rfl w7.heap.size 3 i0 _ 1 8 Tryd.underlying23 hi hz0 hz1 hz2 rfl (by decide) _ 0 [] rfl (hrow w7) ad m d (intsC ts) rfl (by rw [intsC_len, hm, Nat.mul_one]) (hnews _ hwr7') (intsC_one ts) (by unfold maxLen; omega) (by omega) (by simp) ?_; intro v' w8' hown hgrow _ _; rw [Nat.zero_add, List.nil_append] at hown; obtain ⟨ta, tc, rfl, hTt⟩ := ints_of_row hown hm; have hwr8' : Below wr.heap.size wr w8' := hwr7'.grown hgrow hwr7'.size (fun j hj => by cases hj; exact hwr7.size)) | (go_at_call 17; refine (fits_any _ k _ L hn _ m _ ts hm _ (hVo'.keep hwr8') hTt hF (by omega)).mono ?_; rintro e w8 ⟨rfl, hb8⟩; have hwr8 := hwr8'.trans (hb8.mono hwr8'.size)) | (go_at_call 18; refine (rfits_any _ k _ L hn _ m _ ts hm _ (hV'.keep hwr8) (hT'.keep hwr8) hF (by omega)).mono ?_; rintro e w9 ⟨rfl, hb9⟩; have hwr9 := hwr8.trans (hb9.mono hwr8.size)) | (go_at_call 19; refine (hK _ (hL'.keep hwr10)).mono ?_; rintro e w11 ⟨rfl, hb11⟩))
        go_ret
        exact ⟨by first | rfl | simp, hbw.trans ((hwr10.trans (hb11.mono hwr10.size)).mono hbw.size)⟩
end Go.Proofs.YtdmmlgajgpmpbaaDoor
