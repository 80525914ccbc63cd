/- The law ValueBack. -/
import Derived.Test.YtdmmlgajgpmpbaaGreatDoorVXp
import Derived.Test.YtdmmlgajgpmpbaaGreatDoorVYh
import Derived.Test.YtdmmlgajgpmpbaaGreatDoorVC
import Derived.Test.YtdmmlgajgpmpbaaGreatDoorVO
namespace Go.Proofs.YtdmmlgajgpmpbaaGreatDoor
open Go.RowKit Go.Shelf
attribute [local go_sem high] eq_val eq_val0
theorem all_good {L : List Val} (hR : L.all Val.right = true) (hI : ∀ x ∈ L, -9223372036854775808 ≤ x.n ∧ x.n ≤ 9223372036854775807) : Good L ∧ ∀ x ∈ L, x.b.length ≤ 256 := by
  have h : ∀ x ∈ L, x.b.length ≤ 256 := fun x hx => by
    rcases right_cases (List.all_eq_true.1 hR x hx) with ⟨_, e⟩ | ⟨_, _, e⟩ | ⟨_, _, e⟩
    · simp [e]
    · exact e
    · simp [e]
  exact ⟨fun x hx => ⟨Nat.le_trans (h x hx) (by decide), hI x hx⟩, h⟩
set_option maxRecDepth 100000 in
set_option maxHeartbeats 4000000 in
theorem back_walk (a : Option Addr) (n c : Nat) (L : List Val) (hn : L.length = n) (w : World) (hL : Laid w) (hV : Vs w a L) (hF : Fair L) (hI : ∀ x ∈ L, -9223372036854775808 ≤ x.n ∧ x.n ≤ 9223372036854775807) (hl : n * 32 ≤ 140737488351232) : Calls Tryz.prog 4 #[.slice a n c] w fun e w' => e = .returned (.bool true) ∧ Below w.heap.size w w' := by
  have hK := fun W hW => knows2_any W hW
  have hOw := fun W (hW : Below w.heap.size w W) => own_any a n c L hn W (hV.keep hW) (by omega)
  have hPut := fun W oa oc (h : Vs W oa L) => put_any oa n oc L hn W h hF (by omega)
  by_cases hbad : 255 < n ∨ L.all Val.right = false
  · have hP : ∀ W oa oc, Vs W oa L → Calls Tryz.prog 7 #[.slice oa n oc] W fun e w' => ∃ code : Int, (code = 6 ∨ code = 1) ∧ e = .returned (.tuple #[.slice none 0 0, .int .i64 code]) ∧ Below W.heap.size W w' := fun W oa oc h => (hPut W oa oc h).mono fun e w' ⟨hb, he⟩ => by
      rcases he with ⟨_, rfl⟩ | ⟨_, _, rfl⟩ | ⟨h1, h2, _⟩
      · exact ⟨6, .inl rfl, rfl, hb⟩
      · exact ⟨1, .inr rfl, rfl, hb⟩
      · rcases hbad with h | h
        · omega
        · rw [h] at h2; cases h2
    clear hPut
    go_enter Tryz.func4, Tryz.ntmps4
    go_wp2_with (first | (go_at_call 6; refine (hOw _ (Below.refl _ _)).mono ?_; rintro e w1 ⟨oa, oc, rfl, hV1, hb1⟩) | (go_at_call 7; refine (hP _ _ _ hV1).mono ?_; rintro e w2 ⟨code, hcode, rfl, hb2⟩; have hbw := hb1.trans (hb2.mono hb1.size); have hcn : (code != 0) = true := (by rcases hcode with rfl | rfl <;> rfl)) | (go_at_call 11; refine (num2_any _ _).mono ?_; rintro e w' ⟨rfl, rfl⟩) | (go_at_call 14; refine (hK _ (hL.keep hbw)).mono ?_; rintro e w3 ⟨rfl, hb3⟩))
    go_ret
    exact ⟨rfl, hbw.trans (hb3.mono hbw.size)⟩
  · have hn255 : n ≤ 255 := by omega
    have hR : L.all Val.right = true := by
      cases h : L.all Val.right with
      | true => rfl
      | false => exact absurd (.inr h) hbad
    obtain ⟨hG, hb256⟩ := all_good hR hI
    have hP : ∀ W oa oc, Vs W oa L → Calls Tryz.prog 7 #[.slice oa n oc] W fun e w' => ∃ a', e = .returned (.tuple #[.slice (some a') (encL L).length (encL L).length, .int .i64 0]) ∧ Bs w' (some a') (encL L) ∧ Below W.heap.size W w' := fun W oa oc h => (hPut W oa oc h).mono fun e w' ⟨hb, he⟩ => by
      rcases he with ⟨h1, _⟩ | ⟨_, h2, _⟩ | ⟨_, _, a', rfl, h3⟩
      · omega
      · rw [hR] at h2; cases h2
      · exact ⟨a', rfl, h3, hb⟩
    have hGt : ∀ W a' m, (encL L).length = m → Bs W (some a') (encL L) → Calls Tryz.prog 9 #[.slice (some a') m m] W fun e w' => ∃ ad cap, e = .returned (.tuple #[.slice ad n cap, .int .i64 0]) ∧ Vs w' ad L ∧ Below W.heap.size W w' := fun W a' m hm hB => by
      have := get_any (some a') m m L hm W hB (by omega) hR hI
      rw [hn] at this
      exact this
    have hPr : ∀ W oa oc, Laid W → Vs W oa L → Calls Tryz.prog 16 #[.slice oa n oc] W fun e w' => e = .returned (.string ⟨(printOf L).toArray⟩) ∧ Below W.heap.size W w' := fun W oa oc hW h => print_any oa n oc L hn W hW.pow h hG (by omega) (by
      have := join_len (L.map wordOf) 600 fun x hx => by
        obtain ⟨y, hy, rfl⟩ := List.mem_map.1 hx
        have h1 := hb256 y hy
        obtain ⟨h2, h3, h4⟩ := hG y hy
        unfold wordOf
        split
        · have := Lib.itoa_length_le y.n h3 h4; omega
        split
        · rw [hex_len]; omega
        split <;> simp
      simp only [List.length_map] at this
      unfold printList
      omega)
    have hPa : ∀ W, Laid W → Calls Tryz.prog 15 #[.string ⟨(printOf L).toArray⟩] W fun e w' => ∃ ad cap, e = .returned (.tuple #[.slice ad n cap, .int .i64 0]) ∧ Vs w' ad L ∧ Below W.heap.size W w' := fun W hW => by
      have := parse_print L (by omega) hR hG hb256 W hW
      rw [hn] at this
      exact this
    obtain ⟨m, hm⟩ : ∃ m, (encL L).length = m := ⟨_, rfl⟩
    have hGt' := fun W a' => hGt W a' m hm
    rw [hm] at hP
    clear hPut hGt hm
    generalize printOf L = txt at hPr hPa
    have hS : ∀ W p q cp cq, Vs W p L → Vs W q L → Calls Tryz.prog 12 #[.slice p n cp, .slice q n cq] W fun e w' => e = .returned (.bool true) ∧ Below W.heap.size W w' := fun W p q cp cq h1 h2 => same_any p q n cp cq L hn W h1 h2 (by omega)
    go_enter Tryz.func4, Tryz.ntmps4
    go_wp2_with (first | (go_at_call 6; first | (refine (hOw _ (Below.refl _ _)).mono ?_; rintro e w1 ⟨oa, oc, rfl, hV1, hb1⟩) | (refine (hOw _ hbw3).mono ?_; rintro e w4 ⟨oa4, oc4, rfl, hV4, hb4⟩; have hbw4 := hbw3.trans (hb4.mono hbw3.size))) | (go_at_call 7; refine (hP _ _ _ hV1).mono ?_; rintro e w2 ⟨a2, rfl, hB2, hb2⟩; have hbw2 := hb1.trans (hb2.mono hb1.size)) | (go_at_call 9; refine (hGt' _ _ hB2).mono ?_; rintro e w3 ⟨xa, xc, rfl, hX, hb3⟩; have hbw3 := hbw2.trans (hb3.mono hbw2.size)) | (go_at_call 16; refine (hPr _ _ _ (hL.keep hbw4) hV4).mono ?_; rintro e w5 ⟨rfl, hb5⟩; have hbw5 := hbw4.trans (hb5.mono hbw4.size)) | (go_at_call 15; refine (hPa _ (hL.keep hbw5)).mono ?_; rintro e w6 ⟨ya, yc, rfl, hY, hb6⟩; have hbw6 := hbw5.trans (hb6.mono hbw5.size); have hX6 := ((hX.keep hb4).keep hb5).keep hb6; have hVa6 := hV.keep hbw6) | (go_at_call 11; refine (num2_any _ _).mono ?_; rintro e w' ⟨rfl, rfl⟩) | (go_at_call 12; first | (refine (hS _ _ _ _ _ hX6 hVa6).mono ?_; rintro e w7 ⟨rfl, hb7⟩; have hbw7 := hbw6.trans (hb7.mono hbw6.size); have hY7 := hY.keep hb7; have hVa7 := hV.keep hbw7; clear hX6) | (refine (hS _ _ _ _ _ hY7 hVa7).mono ?_; rintro e w8 ⟨rfl, hb8⟩; have hbw8 := hbw7.trans (hb8.mono hbw7.size))) | (go_at_call 14; refine (hK _ (hL.keep hbw8)).mono ?_; rintro e w9 ⟨rfl, hb9⟩))
    go_ret
    exact ⟨rfl, hbw8.trans (hb9.mono hbw8.size)⟩
end Go.Proofs.YtdmmlgajgpmpbaaGreatDoor
