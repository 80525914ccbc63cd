/- The law WireSums, walked. -/
import Derived.Test.YtjnmgnnaefiegaaDoorWS
namespace Go.Proofs.YtjnmgnnaefiegaaDoor
open Go.RowKit

set_option maxHeartbeats 400000 in
theorem sum_any (ao : Option Addr) (len cap : Nat) (bs : List UInt8) (w : World) (hl : bs.length = len) (hm : len ≤ 140737488355328) (hb : Bs w ao bs) (ht : Tab w) :
    Calls Tryd.prog 35 #[.slice ao len cap] w fun e w' => e = .returned (.int .u32 (crc bs : Nat)) ∧ Below w.heap.size w w' := by
  go_enter Tryd.func35, Tryd.ntmps35
  go_wp2_with fail
  refine (sum_one ao len cap bs w _ hl hm hb ht).mono ?_
  rintro e w3 ⟨rfl, rfl⟩
  go_wp2
  go_ret
  exact ⟨rfl, (Below.refl _ _).alloc (Nat.le_refl _) _⟩

/-- The lent slice, in a world of its own. -/
theorem lent_bs {w : World} {base g len c : Nat} {bs : List UInt8} (hl : bs.length = len) (hO : OwnB w base (.slice (some ⟨g, 0, none⟩) (len + 2) c) (bs ++ [77, 78])) : Bs w (some ⟨g, 0, none⟩) bs ∧ len ≤ c ∧ c ≤ maxLen := by
  obtain ⟨ao', cap', hv, h1, h2, hB, _, _⟩ := Own.bs hO
  simp only [Value.slice.injEq] at hv
  obtain ⟨rfl, _, rfl⟩ := hv
  rw [List.length_append, hl] at h1
  refine ⟨?_, by omega, h2⟩
  rcases hB with h | ⟨b, off, h, hc⟩
  · simp at h
  · cases h
    refine .inr ⟨g, 0, rfl, fun j hj => ?_⟩
    have := hc j (by rw [List.length_append]; omega)
    rw [this, List.getElem_append_left hj]

set_option maxHeartbeats 2000000 in
theorem wireSums_walk (ao : Option Addr) (len cap : Nat) (bs : List UInt8) (w : World) (hl : bs.length = len) (hm : len ≤ 140737488351232) (hb : Bs w ao bs) (ht : Tab w) :
    Calls Tryd.prog 5 #[.slice ao len cap] w fun e w' => e = .returned (.bool true) ∧ Below w.heap.size w w' := by
  go_enter Tryd.func5, Tryd.ntmps5
  go_wp2_with fail
  refine (lent_any ao len cap bs w hl hm hb).mono ?_
  rintro e w1 ⟨g, c, rfl, hO1, hb1⟩
  obtain ⟨hL1, hlc, hcm⟩ := lent_bs hl hO1
  by_cases hbig : len ≤ 1048576
  · go_wp2_with fail
    refine (frame_any (some ⟨g, 0, none⟩) len c bs w1 hl hbig hL1 (ht.keep (below_keep hb1))).mono ?_
    rintro e w2 ⟨v2, rfl, hO2, hb2'⟩
    have hb2 : Below w.heap.size w w2 := hb1.trans (hb2'.mono hb1.size)
    have hO1 := Own.below hO1 hb2'
    clear hb2' hL1
    go_wp2_with fail
    refine (refFrame_any ao len cap bs w2 hl hbig (hb.keep (below_keep hb2))).mono ?_
    rintro e w3 ⟨v3, rfl, hO3, hb3'⟩
    have hb3 : Below w.heap.size w w3 := hb2.trans (hb3'.mono hb2.size)
    have hO1 := Own.below hO1 hb3'
    have hO2 := Own.below hO2 hb3'
    clear hb3' hb2 hb1
    go_wp2_with fail
    refine (sum_any (some ⟨g, 0, none⟩) len c bs w3 hl (by omega) (lent_bs hl hO1).1 (ht.keep (below_keep hb3))).mono ?_
    rintro e w4 ⟨rfl, hb4'⟩
    have hb4 : Below w.heap.size w w4 := hb3.trans (hb4'.mono hb3.size)
    have hO1 := Own.below hO1 hb4'
    have hO2 := Own.below hO2 hb4'
    have hO3 := hO3.below hb4'
    clear hb4' hb3
    go_wp2_with fail
    refine (refSum_any ao len cap bs w4 hl (by omega) (hb.keep (below_keep hb4))).mono ?_
    rintro e w5 ⟨rfl, hw⟩
    subst hw
    obtain ⟨ao2, cap2, hv2, _, _, hB2, _, _⟩ := Own.bs hO2
    obtain ⟨ao3, cap3, hv3, _, _, hB3⟩ := OwnO.bs hO3
    have s2 := run_str hB2 cap2
    have s3 := run_str hB3 cap3
    rw [← hv2] at s2
    rw [← hv3] at s3
    clear hv2 hv3 hB2 hB3 hO2 hO3
    go_wp2_with fail
    refine (num_any _ _).mono ?_
    rintro e w6 ⟨rfl, hw⟩
    subst hw
    go_wp2_with fail
    refine (stays_any g len c _ bs ao cap _ hl hm hO1 (hb.keep (below_keep hb4))).mono ?_
    rintro e w6 ⟨rfl, hb6'⟩
    have hb6 := hb4.trans (hb6'.mono hb4.size)
    clear hb6' hO1 hb4
    go_wp2_with fail
    refine (knows_any w6 (ht.keep (below_keep hb6))).mono ?_
    rintro e w7 ⟨rfl, hb7'⟩
    have hb7 := hb6.trans (hb7'.mono hb6.size)
    go_wp2
    go_ret
    exact ⟨rfl, hb7⟩
  · go_wp2_with fail
    refine (frame_big (some ⟨g, 0, none⟩) len c w1 (by omega) (by omega)).mono ?_
    rintro e w2 ⟨rfl, hw⟩
    subst hw
    go_wp2_with fail
    refine (refFrame_big ao len cap _ (by omega) (by omega)).mono ?_
    rintro e w3 ⟨rfl, hw⟩
    subst hw
    go_wp2_with fail
    refine (sum_any (some ⟨g, 0, none⟩) len c bs _ hl (by omega) (lent_bs hl hO1).1 (ht.keep (below_keep hb1))).mono ?_
    rintro e w4 ⟨rfl, hb4'⟩
    have hb4 := hb1.trans (hb4'.mono hb1.size)
    have hO1 := Own.below hO1 hb4'
    clear hb4' hL1 hb1
    go_wp2_with fail
    refine (refSum_any ao len cap bs w4 hl (by omega) (hb.keep (below_keep hb4))).mono ?_
    rintro e w5 ⟨rfl, hw⟩
    subst hw
    have s2 := run_str (w := w5) (ao := none) (bs := []) (.inl rfl) 0
    simp only [List.length_nil] at s2
    go_wp2_with fail
    refine (num_any _ _).mono ?_
    rintro e w6 ⟨rfl, hw⟩
    subst hw
    go_wp2_with fail
    refine (stays_any g len c _ bs ao cap _ hl hm hO1 (hb.keep (below_keep hb4))).mono ?_
    rintro e w6 ⟨rfl, hb6'⟩
    have hb6 := hb4.trans (hb6'.mono hb4.size)
    clear hb6' hO1 hb4
    go_wp2_with fail
    refine (knows_any w6 (ht.keep (below_keep hb6))).mono ?_
    rintro e w7 ⟨rfl, hb7'⟩
    have hb7 := hb6.trans (hb7'.mono hb6.size)
    go_wp2
    go_ret
    exact ⟨rfl, hb7⟩
end Go.Proofs.YtjnmgnnaefiegaaDoor
