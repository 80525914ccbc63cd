/- The law ValueOwn. -/
import Derived.Test.YtdmmlgajgpmpbaaDoorVC
import Derived.Test.YtdmmlgajgpmpbaaDoorVO
import Derived.Test.YtdmmlgajgpmpbaaDoorVK
import Derived.Test.YtdmmlgajgpmpbaaDoorVI
namespace Go.Proofs.YtdmmlgajgpmpbaaDoor
open Go.RowKit Go.Shelf
attribute [local go_sem high] eq_val eq_val0
theorem tmod_at (x : Int) (k : Nat) (h1 : 1 ≤ k) (h2 : k ≤ 140737488351232) : ∃ m : Nat, m < k ∧ (wrap64 (x.tmod k + k)).tmod k = (m : Int) := by
  have a1 : x.tmod k < k := Int.tmod_lt_of_pos x (by omega)
  have a2 : -(k : Int) < x.tmod k := by
    have h3 : (-x).tmod k < k := Int.tmod_lt_of_pos (-x) (by omega)
    rw [Int.neg_tmod] at h3
    omega
  have e : wrap64 (x.tmod k + k) = x.tmod k + k := by unfold wrap64; omega
  rw [e]
  have b0 : 0 ≤ x.tmod k + k := by omega
  generalize x.tmod k + k = y at b0
  have b1 : y.tmod k = y % k := Int.tmod_eq_emod_of_nonneg b0
  have b2 := Int.emod_nonneg y (b := (k : Int)) (by omega)
  have b3 := Int.emod_lt_of_pos y (b := (k : Int)) (by omega)
  exact ⟨(y % k).toNat, by omega, by rw [b1]; omega⟩
theorem fits_len (a b : Option Addr) (n m c d : Nat) (h : n ≠ m) (w : World) : Calls Tryd.prog 17 #[.slice a n c, .slice b m d] w fun e w' => e = .returned (.bool false) ∧ w' = w := by
  have hne : ((n : Int) != (m : Int)) = true := by simp; omega
  go_enter Tryd.func17, Tryd.ntmps17
  go_wp2
  go_ret
  exact ⟨rfl, rfl⟩
set_option maxRecDepth 100000 in
set_option maxHeartbeats 4000000 in
theorem own_walk (a : Option Addr) (n c : Nat) (L : List Val) (hn : L.length = n) (at' kind : Int) (w : World) (hL : Laid w) (hV : Vs w a L) (hF : Fair L) (hl : n * 32 ≤ 140737488351232) : Calls Tryd.prog 6 #[.slice a n c, .int .i64 at', .int .i64 kind] w fun e w' => e = .returned (.bool true) ∧ Below w.heap.size w w' := by
  obtain ⟨i0, hi, hz0, hz1, hz2⟩ := info_parts int_info
  go_enter Tryd.func6, Tryd.ntmps6
  go_wp2
  go_loopw [7, 8, 9] (fun v g i wr => ∃ k : Nat, k ≤ n ∧ i = .int .i64 k ∧ g = .bool ((L.take k).all Val.right) ∧ wr.ownsRow w.heap.size 3 1 v k (intsC ((L.take k).map Val.t)) ∧ Below w.heap.size w wr) (fun _ _ i _ => n - (intOf i).toNat)
  case atStart => exact ⟨0, Nat.zero_le _, rfl, rfl, World.ownsRow_nil _ _ _ _, Below.refl _ _⟩
  case round =>
    obtain ⟨k, hk, rfl, rfl, hown, hb⟩ := hrel
    by_cases hlt : k < n
    · rcases hV with h0 | ⟨b, off, hao, hc⟩
      · subst h0; simp at hn; omega
      subst hao
      obtain ⟨q0, q1, q2⟩ := hc k (by omega)
      have HT : Hid (L.take (k + 1) = L.take k ++ [L[k]]) := hidV (take_snoc L k (by omega))
      have hx := hF L[k] (by simp)
      generalize L[k] = x at q0 q1 q2 HT hx
      have hR := fun W => right_any x hx W
      have HG : Hid ((L.take (k + 1)).all Val.right = ((L.take k).all Val.right && x.right)) := hidV (by rw [HT.out]; simp)
      have HC : Hid (intsC ((L.take (k + 1)).map Val.t) = intsC ((L.take k).map Val.t) ++ [.int .i64 x.t]) := hidV (by rw [HT.out]; simp [intsC])
      clear HT
      generalize x.right = r at hR HG
      obtain ⟨xt, xn, xb⟩ := x
      simp only [Val.v] at hR q0 q1 q2 HC
      have c0 := cell_below q0 hb
      have hown' : (wr.alloc (.cells #[.int .i64 xt] 3)).ownsRow w.heap.size 3 1 u7 k (intsC ((L.take k).map Val.t)) := hown.alloc _
      have hnw : ∀ j u, [Value.int .i64 xt][j]? = some u → (wr.alloc (.cells #[.int .i64 xt] 3)).cell? ((⟨wr.heap.size, 0, none⟩ : Addr).add j) = some u := cell_one_new _ _ _
      have hbs := hb.size
      clear hc
      generalize hgg : (L.take k).all Val.right = gg at *
      cases gg
      · go_wp2_with (at_builtin; refine wpList_append_own_at _ rfl _ _ 23 rfl w.heap.size 3 i0 (.int .i64 0) 1 8 Tryd.underlying23 hi hz0 hz1 hz2 rfl (by decide) u7 k _ rfl hown' ⟨wr.heap.size, 0, none⟩ 1 1 [.int .i64 xt] rfl rfl hnw (by simp [Value.oneCell']) (by unfold maxLen; omega) (by omega) (by simp; omega) ?_; intro v' w3 hown2 hgrow _ _; have hb3 : Below w.heap.size w w3 := (hb.alloc hb.size _).grown hgrow (by simp; omega) (fun j hj => (hown.lt j hj).1))
        rw [← HC.out] at hown2
        refine ⟨⟨k + 1, by omega, by go_num, by rw [HG.out]; rfl, hown2, hb3⟩, by simp [intOf]; omega⟩
      · go_wp2_with (first | (at_builtin; refine wpList_append_own_at _ rfl _ _ 23 rfl w.heap.size 3 i0 (.int .i64 0) 1 8 Tryd.underlying23 hi hz0 hz1 hz2 rfl (by decide) u7 k _ rfl hown' ⟨wr.heap.size, 0, none⟩ 1 1 [.int .i64 xt] rfl rfl hnw (by simp [Value.oneCell']) (by unfold maxLen; omega) (by omega) (by simp; omega) ?_; intro v' w3 hown2 hgrow _ _; have hb3 : Below w.heap.size w w3 := (hb.alloc hb.size _).grown hgrow (by simp; omega) (fun j hj => (hown.lt j hj).1); have d0 := cell_below q0 hb3; have d1 := cell_below q1 hb3; have d2 := cell_below q2 hb3) | (go_at_call 8; refine (hR _).mono ?_; rintro e w4 ⟨rfl, hb4⟩))
        rw [← HC.out] at hown2
        refine ⟨⟨k + 1, by omega, by go_num, by rw [HG.out]; rfl, row_below hown2 hb4, hb3.trans (hb4.mono hb3.size)⟩, by simp [intOf]; omega⟩
    · obtain rfl : k = n := by omega
      have htk : L.take k = L := List.take_of_length_le (by omega)
      rw [htk] at hown
      have hfit : fitsB L (L.map Val.t) = L.all Val.right := by simp [fitsB]
      have hmt : (L.map Val.t).length = k := by simpa using hn
      generalize hgg : (L.take k).all Val.right = gg
      rw [htk] at hgg
      rw [hgg] at hfit
      clear htk
      have hK := fun W hW => knows2_any W hW
      have hN : ∀ W, Calls Tryd.prog 17 #[.slice none 0 0, .slice none 0 0] W fun e w' => e = .returned (.bool true) ∧ Below W.heap.size W w' := fun W => fits_any none 0 0 [] rfl none 0 0 [] rfl W (.inl rfl) (.inl rfl) (fun x hx => by simp at hx) (by decide)
      by_cases h0 : k = 0
      · subst h0
        obtain ⟨ta, tc, rfl, hT⟩ := ints_of_row hown hmt
        go_wp2_with (first | (go_at_call 7; refine (own_any a 0 c L hn _ (hV.keep hb) (by omega)).mono ?_; rintro e w2 ⟨oa, oc, rfl, hVo, hb2⟩; have hT2 := hT.keep hb2) | (go_at_call 17; first | (refine (fits_any oa 0 oc L hn ta 0 tc (L.map Val.t) hmt w2 hVo hT2 hF (by omega)).mono ?_; rintro e w3 ⟨he3, hb3⟩; rw [hfit] at he3; subst he3; clear hT2) | (refine (hN _).mono ?_; rintro e w4 ⟨rfl, hb4⟩)) | (go_at_call 19; refine (hK _ (hL.keep (hb.trans ((hb2.mono hb.size).trans ((hb3.mono (Nat.le_trans hb.size hb2.size)).trans (hb4.mono (Nat.le_trans (Nat.le_trans hb.size hb2.size) hb3.size))))))).mono ?_; rintro e w5 ⟨rfl, hb5⟩))
        go_ret
        exact ⟨rfl, hb.trans ((hb2.mono hb.size).trans ((hb3.mono (Nat.le_trans hb.size hb2.size)).trans ((hb4.mono (Nat.le_trans (Nat.le_trans hb.size hb2.size) hb3.size)).trans (hb5.mono (Nat.le_trans (Nat.le_trans (Nat.le_trans hb.size hb2.size) hb3.size) hb4.size)))))⟩
      · have hk1 : 1 ≤ k := by omega
        have hk2 : k ≤ 140737488351232 := by omega
        obtain ⟨m, hm, hix⟩ := tmod_at at' k hk1 hk2
        obtain ⟨ta, tc, hv, hT⟩ := ints_of_row hown hmt
        rcases hown.2 with ⟨_, h00⟩ | ⟨g, cap, cur, rfl, hg, hh, hnc, hcm, hcs, hct⟩
        · omega
        cases hv
        have hgl : g < wr.heap.size := (Array.getElem?_eq_some_iff.1 hh).1
        have hgm : ∀ W : World, W.heap[g]? = some (.cells cur 3 (0, 0)) → W.cell? ⟨g, m, none⟩ = some (.int .i64 (L[m]'(by omega)).t) := fun W hW => by
          rcases hT with h | ⟨b', off', hbo, hcc⟩
          · rw [h] at hmt; simp at hmt; omega
          · cases hbo
            have := hcc m (by omega)
            rw [Lib.cell_of_heap hh] at this
            rw [Lib.cell_of_heap hW]
            simpa using this
        generalize hLm : (L[m]'(by omega)).t = tm at hgm
        have hfit' : kind ≠ tm → fitsB L ((L.map Val.t).set m kind) = false := fun hne => by
          have : L.map Val.t ≠ (L.map Val.t).set m kind := map_t_ne (k := m) (by omega) (by simp; omega) (by simp; rw [hLm]; exact fun h => hne h.symm)
          simp [fitsB, this]
        clear hLm
        by_cases hkt : kind = tm
        · subst hkt
          go_wp2_with (first | (go_at_call 7; refine (own_any a k c L hn _ (hV.keep hb) (by omega)).mono ?_; rintro e w2 ⟨oa, oc, rfl, hVo, hb2⟩; have hT2 := hT.keep hb2) | (go_at_call 17; first | (refine (fits_any oa k oc L hn _ k _ (L.map Val.t) hmt w2 hVo hT2 hF (by omega)).mono ?_; rintro e w3 ⟨he3, hb3⟩; rw [hfit] at he3; subst he3; clear hT2; have hb13 := hb2.trans (hb3.mono hb2.size); have hcell := hgm w3 ((hb13.block _ hgl).trans hh))) | (go_at_call 19; refine (hK _ (hL.keep (hb.trans (hb13.mono hb.size)))).mono ?_; rintro e w5 ⟨rfl, hb5⟩))
          go_ret
          exact ⟨rfl, (hb.trans (hb13.mono hb.size)).trans (hb5.mono (Nat.le_trans hb.size hb13.size))⟩
        · have hne : (kind == tm) = false := by simp [hkt]
          go_wp2_with (first | (go_at_call 7; refine (own_any a k c L hn _ (hV.keep hb) (by omega)).mono ?_; rintro e w2 ⟨oa, oc, rfl, hVo, hb2⟩; have hT2 := hT.keep hb2) | (go_at_call 17; first | (refine (fits_any oa k oc L hn _ k _ (L.map Val.t) hmt w2 hVo hT2 hF (by omega)).mono ?_; rintro e w3 ⟨he3, hb3⟩; rw [hfit] at he3; subst he3; clear hT2; have hb13 := hb2.trans (hb3.mono hb2.size); have hh3 := (hb13.block _ hgl).trans hh; have hcell := hgm w3 hh3; have hfrz := Lib.frozen_of_heap hh3 m)))
          have hbw3 : Below w.heap.size w w3 := hb.trans (hb13.mono hb.size)
          have hb4 : Below w.heap.size w (w3.setCell ⟨g, m, none⟩ (.int .i64 kind)) := hbw3.setCell (p := ⟨g, m, none⟩) hg _
          have hT4 : IntsAt (w3.setCell ⟨g, m, none⟩ (.int .i64 kind)) (some ⟨g, 0, none⟩) ((L.map Val.t).set m kind) := by
            rcases hT.keep hb13 with h | ⟨b', off', hbo, hcc⟩
            · rw [h] at hmt; simp at hmt; omega
            · cases hbo
              refine .inr ⟨g, 0, rfl, fun j hj => ?_⟩
              simp only [List.length_set] at hj
              have hj' := hcc j hj
              rw [Nat.zero_add] at hj' ⊢
              rw [List.getElem_set]
              by_cases hjm : m = j
              · subst hjm
                rw [if_pos rfl, World.cell?_setCell_same _ _ _ hcell]
              · rw [if_neg hjm, World.cell?_setCell_other _ _ _ _ (by simp)]
                exact hj'
          have hV4 : Vs (w3.setCell ⟨g, m, none⟩ (.int .i64 kind)) a L := hV.keep hb4
          generalize w3.setCell ⟨g, m, none⟩ (.int .i64 kind) = W4 at *
          have hfit2 := hfit' hkt
          have hO1 : ∀ W, Below W4.heap.size W4 W → Calls Tryd.prog 7 #[.slice a k c] W fun e w' => ∃ a' c', e = .returned (.slice a' k c') ∧ Vs w' a' L ∧ Below W.heap.size W w' := fun W hW => own_any a k c L hn W (hV4.keep hW) (by omega)
          have hF1 : ∀ W oa oc d, Vs W oa L → Below W4.heap.size W4 W → Calls Tryd.prog 17 #[.slice oa k oc, .slice (some ⟨g, 0, none⟩) k d] W fun e w' => e = .returned (.bool false) ∧ Below W.heap.size W w' := fun W oa oc d h1 h2 => by
            have := fits_any oa k oc L hn (some ⟨g, 0, none⟩) k d ((L.map Val.t).set m kind) (by simpa using hn) W h1 (hT4.keep h2) hF (by omega)
            rw [hfit2] at this
            exact this
          have hF2 : ∀ W a b c d, Calls Tryd.prog 17 #[.slice a k c, .slice b (k - 1) d] W fun e w' => e = .returned (.bool false) ∧ w' = W := fun W a b c d => fits_len a b k (k - 1) c d (by omega) W
          have hKK : ∀ W, Below W4.heap.size W4 W → Calls Tryd.prog 19 #[] W fun e w' => e = .returned (.bool true) ∧ Below W.heap.size W w' := fun W hW => knows2_any W (hL.keep (hb4.trans (hW.mono hb4.size)))
          clear hT4 hV4 hfit' hfit hgm hfrz hcell hh3 hb13 hb3 hVo hb2 hT hh hct hown hV hK hN hix hfit2 hbw3 hi hz0 hz1 hz2 hF hgg
          by_cases htc : tc = 1
          all_goals
            go_region_with (first | (go_at_call 7; first | (refine (hO1 _ (Below.refl _ W4).drew).mono ?_; rintro e w5 ⟨oa5, oc5, rfl, hV5, hb5⟩; replace hb5 : Below W4.heap.size W4 w5 := (Below.refl _ W4).drew.trans hb5) | (refine (hO1 _ hb6').mono ?_; rintro e w7 ⟨oa7, oc7, rfl, hV7, hb7⟩; have hb7' := hb6'.trans (hb7.mono hb6'.size); clear hO1)) | (go_at_call 17; first | (refine (hF1 _ _ _ _ hV5 hb5).mono ?_; rintro e w6 ⟨rfl, hb6⟩; have hb6' := hb5.trans (hb6.mono hb5.size); clear hF1) | (refine (hF2 _ _ _ _ _).mono ?_; rintro e w' ⟨rfl, rfl⟩; clear hF2)) | (go_at_call 19; refine (hKK _ hb7').mono ?_; rintro e w8 ⟨rfl, hb8⟩; clear hKK))
          all_goals go_wp2
          all_goals (go_ret; exact ⟨rfl, hb4.trans ((hb7'.trans (hb8.mono hb7'.size)).mono hb4.size)⟩)
end Go.Proofs.YtdmmlgajgpmpbaaDoor
