/- The walk of OpTable. -/
import Derived.Test.YtbhibhlabogohaaOU
import Derived.Test.YtbhibhlabogohaaOTx
import Derived.Test.YtbhibhlabogohaaOKn
import Derived.Test.YtbhibhlabogohaaOI
namespace Go.Proofs.Ytbhibhlabogohaa
open Go.RowKit
attribute [local go_sem high] eq_val eq_val0
theorem ints_new (T : List Int) (w : World) : ∃ a, sliceOf T w = .slice a T.length T.length ∧ IntsAt (worldOf T w) a T ∧ Below w.heap.size w (worldOf T w) := by
  unfold sliceOf worldOf
  by_cases h : T = []
  · rw [if_pos h, if_pos h, h]
    exact ⟨none, rfl, .inl rfl, Below.refl _ _⟩
  · rw [if_neg h, if_neg h]
    refine ⟨_, rfl, .inr ⟨w.heap.size, 0, rfl, fun j hj => ?_⟩, (Below.refl _ w).alloc (Nat.le_refl _) _⟩
    rw [cell_of_row _ _ (0 + j) _ _ (0, 0) (heap_alloc_new w _)]
    simp [hj]
theorem in_lies (n : Int) (w : World) : Calls Try.prog 18 #[.int .i64 n] w fun e w' => ∃ a, e = .returned (.slice a (inT n).length (inT n).length) ∧ IntsAt w' a (inT n) ∧ Below w.heap.size w w' := by
  refine (in_any n w).mono ?_
  rintro e w' ⟨rfl, rfl⟩
  obtain ⟨a, e, h⟩ := ints_new (inT n) w
  exact ⟨a, by rw [e], h⟩
theorem out_lies (n : Int) (w : World) : Calls Try.prog 20 #[.int .i64 n] w fun e w' => ∃ a, e = .returned (.slice a (outT n).length (outT n).length) ∧ IntsAt w' a (outT n) ∧ Below w.heap.size w w' := by
  refine (out_any n w).mono ?_
  rintro e w' ⟨rfl, rfl⟩
  obtain ⟨a, e, h⟩ := ints_new (outT n) w
  exact ⟨a, by rw [e], h⟩
theorem rows_short (n : Int) : (inT n).length ≤ 1000 ∧ (outT n).length ≤ 1000 := by
  have H : ∀ k : Fin 54, (inTab.getD k.1 []).length ≤ 3 ∧ (outTab.getD k.1 []).length ≤ 3 := by decide +kernel
  unfold inT outT rowOf
  by_cases h : 1 ≤ n ∧ n ≤ 53
  · have := H ⟨n.toNat, by omega⟩
    rw [if_pos h, if_pos h]
    simp only at this
    omega
  · rw [if_neg h, if_neg h]
    simp
set_option maxHeartbeats 4000000 in
set_option maxRecDepth 100000 in
theorem table_walk (n : Int) (s : List UInt8) (w : World) : Calls Try.prog 3 #[.int .i64 n, .string ⟨s.toArray⟩] w fun e w' => e = .returned (.bool true) ∧ Below w.heap.size w w' := by
  have f1 := find_any s
  have f2 := rfind_any s
  have n1 := name_any n
  have n2 := rname_any n
  have t1 := takes_any n
  have t2 := rtakes_any n
  have c1 := cost_any n
  have c2 := rcost_any n
  have i1 := in_lies n
  have i2 := rin_any n
  have o1 := out_lies n
  have o2 := rout_any n
  have p1 := plain_any n
  have p2 := rplain_any n
  obtain ⟨hl1, hl2⟩ := rows_short n
  have hI := fun W a b c d ha hb => ints_same a b (inT n).length c d (inT n) rfl W ha hb hl1
  have hO := fun W a b c d ha hb => ints_same a b (outT n).length c d (outT n) rfl W ha hb hl2
  generalize findFrom s 1 = fs at *
  obtain ⟨fr, fo⟩ := fs
  generalize nameT n = nm at *
  generalize takesT n = tk at *
  generalize costT n = ct at *
  generalize inT n = it at *
  generalize outT n = ot at *
  generalize plainB n = pl at *
  simp only at f1 f2
  go_enter Try.func3, Try.ntmps3
  go_wp2_with fail
  refine (f1 _).mono ?_
  rintro e w1 ⟨rfl, hb1⟩
  go_wp2_with fail
  refine (f2 _).mono ?_
  rintro e w2 ⟨rfl, hb2⟩
  replace hb2 := hb1.trans (hb2.mono hb1.size)
  clear f1 f2 hb1
  go_wp2_with (first | (go_at_call 11; refine (n1 _).mono ?_; rintro e w' ⟨rfl, hw'⟩; replace hw' := hw'.symm; subst hw') | (go_at_call 12; refine (n2 _).mono ?_; rintro e w3 ⟨rfl, hb3⟩; replace hb3 := hb2.trans (hb3.mono hb2.size)) | (go_at_call 13; refine (t1 _).mono ?_; rintro e w' ⟨rfl, hw'⟩; replace hw' := hw'.symm; subst hw') | (go_at_call 14; refine (t2 _).mono ?_; rintro e w4 ⟨rfl, hb4⟩; replace hb4 := hb3.trans (hb4.mono hb3.size)) | (go_at_call 15; refine (c1 _).mono ?_; rintro e w' ⟨rfl, hw'⟩; replace hw' := hw'.symm; subst hw') | (go_at_call 16; refine (c2 _).mono ?_; rintro e w5 ⟨rfl, hb5⟩; replace hb5 := hb4.trans (hb5.mono hb4.size)))
  clear n1 n2 t1 t2 c1 c2
  refine (i1 _).mono ?_
  rintro e w6 ⟨a6, rfl, hi6, hk6⟩
  have hb6 := hb5.trans (hk6.mono hb5.size)
  go_wp2_with fail
  refine (i2 _).mono ?_
  rintro e w7 ⟨a7, d7, rfl, hi7, hk7⟩
  have hb7 := hb6.trans (hk7.mono hb6.size)
  go_wp2_with fail
  refine (hI _ _ _ _ _ (hi6.keep hk7) hi7).mono ?_
  rintro e w8 ⟨rfl, hk8⟩
  have hb8 := hb7.trans (hk8.mono hb7.size)
  clear i1 i2 hI hi6 hi7 hk6 hk7 hk8
  go_wp2_with fail
  refine (o1 _).mono ?_
  rintro e w9 ⟨a9, rfl, hi9, hk9⟩
  have hb9 := hb8.trans (hk9.mono hb8.size)
  go_wp2_with fail
  refine (o2 _).mono ?_
  rintro e w10 ⟨a10, d10, rfl, hi10, hk10⟩
  have hb10 := hb9.trans (hk10.mono hb9.size)
  go_wp2_with fail
  refine (hO _ _ _ _ _ (hi9.keep hk10) hi10).mono ?_
  rintro e w11 ⟨rfl, hk11⟩
  have hb11 := hb10.trans (hk11.mono hb10.size)
  clear o1 o2 hO hi9 hi10 hk9 hk10 hk11
  go_wp2_with (first | (go_at_call 22; refine (p1 _).mono ?_; rintro e w' ⟨rfl, hw'⟩; replace hw' := hw'.symm; subst hw') | (go_at_call 23; refine (p2 _).mono ?_; rintro e w' ⟨rfl, hw'⟩; replace hw' := hw'.symm; subst hw') | (go_at_call 24; refine (knows3_any _).mono ?_; rintro e w12 ⟨rfl, hb12⟩; replace hb12 := hb11.trans (hb12.mono hb11.size)))
  go_ret
  exact ⟨rfl, hb12⟩
end Go.Proofs.Ytbhibhlabogohaa
