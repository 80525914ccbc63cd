/- No Writer, no Reader, and those that nobody made: their calls; and the law WireNil, walked. -/
import Derived.Test.YtappcidcpcbckaaDoorWH
namespace Go.Proofs.YtappcidcpcbckaaDoor
open Go.RowKit

/-- A nil pointer, or one to a struct whose only cell is nil. -/
def NilP (w : World) (v : Value) : Prop := v = .pointer none ∨ ∃ a, v = .pointer (some ⟨a, 0, none⟩) ∧ w.cell? ⟨a, 0, none⟩ = some (.pointer none)

set_option maxHeartbeats 400000 in
theorem wmade_nil (v : Value) (w : World) (h : NilP w v) : Calls Tryd.prog 40 #[v] w fun e w' => e = .returned (.bool false) ∧ w' = w := by
  rcases h with rfl | ⟨a, rfl, hc⟩
  · go_enter Tryd.func40, Tryd.ntmps40
    go_wp2
    go_ret
    exact ⟨rfl, rfl⟩
  · go_enter Tryd.func40, Tryd.ntmps40
    go_wp2
    go_ret
    exact ⟨rfl, rfl⟩
set_option maxHeartbeats 400000 in
theorem rmade_nil (v : Value) (w : World) (h : NilP w v) : Calls Tryd.prog 53 #[v] w fun e w' => e = .returned (.bool false) ∧ w' = w := by
  rcases h with rfl | ⟨a, rfl, hc⟩
  · go_enter Tryd.func53, Tryd.ntmps53
    go_wp2
    go_ret
    exact ⟨rfl, rfl⟩
  · go_enter Tryd.func53, Tryd.ntmps53
    go_wp2
    go_ret
    exact ⟨rfl, rfl⟩
set_option maxHeartbeats 400000 in
theorem wbyte_nil (v x : Value) (w : World) (h : NilP w v) : Calls Tryd.prog 12 #[v, x] w fun e w' => e = .returned (.int .i64 1) ∧ w' = w := by
  go_enter Tryd.func12, Tryd.ntmps12
  go_wp2_with (go_at_call 40; refine (wmade_nil v w h).mono ?_; rintro e w' ⟨rfl, hw⟩; subst hw)
  go_ret
  exact ⟨rfl, rfl⟩
set_option maxHeartbeats 400000 in
theorem wint_nil (v x : Value) (w : World) (h : NilP w v) : Calls Tryd.prog 14 #[v, x] w fun e w' => e = .returned (.int .i64 1) ∧ w' = w := by
  go_enter Tryd.func14, Tryd.ntmps14
  go_wp2_with (go_at_call 40; refine (wmade_nil v w h).mono ?_; rintro e w' ⟨rfl, hw⟩; subst hw)
  go_ret
  exact ⟨rfl, rfl⟩
set_option maxHeartbeats 400000 in
theorem wtext_nil (v x : Value) (w : World) (h : NilP w v) : Calls Tryd.prog 16 #[v, x] w fun e w' => e = .returned (.int .i64 1) ∧ w' = w := by
  go_enter Tryd.func16, Tryd.ntmps16
  go_wp2_with (go_at_call 40; refine (wmade_nil v w h).mono ?_; rintro e w' ⟨rfl, hw⟩; subst hw)
  go_ret
  exact ⟨rfl, rfl⟩
set_option maxHeartbeats 400000 in
theorem wbytes_nil (v : Value) (w : World) (h : NilP w v) : Calls Tryd.prog 18 #[v] w fun e w' => e = .returned (.slice none 0 0) ∧ w' = w := by
  go_enter Tryd.func18, Tryd.ntmps18
  go_wp2_with (go_at_call 40; refine (wmade_nil v w h).mono ?_; rintro e w' ⟨rfl, hw⟩; subst hw)
  go_ret
  exact ⟨rfl, rfl⟩
set_option maxHeartbeats 400000 in
theorem take_nil (v : Value) (n : Int) (w : World) (h : NilP w v) : Calls Tryd.prog 50 #[v, .int .i64 n] w fun e w' => e = .returned (.slice none 0 0) ∧ w' = w := by
  go_enter Tryd.func50, Tryd.ntmps50
  go_wp2_with (go_at_call 53; refine (rmade_nil v w h).mono ?_; rintro e w' ⟨rfl, hw⟩; subst hw)
  go_ret
  exact ⟨rfl, rfl⟩
theorem number_nil (w : World) : Calls Tryd.prog 49 #[.slice none 0 0] w fun e w' => e = .returned (.int .u64 0) ∧ w' = w :=
  number_any none 0 0 [] w rfl (by decide) (.inl rfl)
set_option maxHeartbeats 400000 in
theorem rbyte_nil (v : Value) (w : World) (h : NilP w v) : Calls Tryd.prog 22 #[v] w fun e w' => e = .returned (.int .i64 0) ∧ w' = w := by
  go_enter Tryd.func22, Tryd.ntmps22
  go_wp2_with (first | (go_at_call 50; refine (take_nil v _ w h).mono ?_; rintro e w' ⟨rfl, hw⟩; subst hw) | (go_at_call 49; refine (number_nil _).mono ?_; rintro e w' ⟨rfl, hw⟩; subst hw))
  go_ret
  exact ⟨rfl, rfl⟩
set_option maxHeartbeats 400000 in
theorem rint_nil (v : Value) (w : World) (h : NilP w v) : Calls Tryd.prog 24 #[v] w fun e w' => e = .returned (.int .i64 0) ∧ w' = w := by
  go_enter Tryd.func24, Tryd.ntmps24
  go_wp2_with (first | (go_at_call 50; refine (take_nil v _ w h).mono ?_; rintro e w' ⟨rfl, hw⟩; subst hw) | (go_at_call 49; refine (number_nil _).mono ?_; rintro e w' ⟨rfl, hw⟩; subst hw))
  go_ret
  exact ⟨rfl, rfl⟩
set_option maxHeartbeats 400000 in
theorem rleft_nil (v : Value) (w : World) (h : NilP w v) : Calls Tryd.prog 28 #[v] w fun e w' => e = .returned (.int .i64 0) ∧ w' = w := by
  go_enter Tryd.func28, Tryd.ntmps28
  go_wp2_with (go_at_call 53; refine (rmade_nil v w h).mono ?_; rintro e w' ⟨rfl, hw⟩; subst hw)
  go_ret
  exact ⟨rfl, rfl⟩
set_option maxHeartbeats 400000 in
theorem rerr_nil (v : Value) (w : World) (h : NilP w v) : Calls Tryd.prog 30 #[v] w fun e w' => e = .returned (.int .i64 1) ∧ w' = w := by
  go_enter Tryd.func30, Tryd.ntmps30
  go_wp2_with (go_at_call 53; refine (rmade_nil v w h).mono ?_; rintro e w' ⟨rfl, hw⟩; subst hw)
  go_ret
  exact ⟨rfl, rfl⟩
set_option maxHeartbeats 400000 in
theorem rdone_nil (v : Value) (w : World) (h : NilP w v) : Calls Tryd.prog 31 #[v] w fun e w' => e = .returned (.int .i64 1) ∧ w' = w := by
  go_enter Tryd.func31, Tryd.ntmps31
  go_wp2_with (go_at_call 30; refine (rerr_nil v w h).mono ?_; rintro e w' ⟨rfl, hw⟩; subst hw)
  go_ret
  exact ⟨rfl, rfl⟩
set_option maxHeartbeats 400000 in
theorem rlen_nil (v : Value) (w : World) (h : NilP w v) : Calls Tryd.prog 52 #[v] w fun e w' => e = .returned (.int .i64 0) ∧ w' = w := by
  go_enter Tryd.func52, Tryd.ntmps52
  go_wp2_with (go_at_call 28; refine (rleft_nil v w h).mono ?_; rintro e w' ⟨rfl, hw⟩; subst hw)
  go_ret
  exact ⟨rfl, rfl⟩
set_option maxHeartbeats 400000 in
theorem rtext_nil (v : Value) (w : World) (h : NilP w v) : Calls Tryd.prog 26 #[v] w fun e w' => e = .returned (.string ⟨#[]⟩) ∧ w' = w := by
  go_enter Tryd.func26, Tryd.ntmps26
  go_wp2_with (first | (go_at_call 52; refine (rlen_nil v w h).mono ?_; rintro e w' ⟨rfl, hw⟩; subst hw) | (go_at_call 50; refine (take_nil v _ _ h).mono ?_; rintro e w' ⟨rfl, hw⟩; subst hw))
  go_ret
  exact ⟨rfl, rfl⟩

set_option maxHeartbeats 2000000 in
theorem wireNil_walk (k l s : Value) (w : World) (ht : Tab w) (hl : ∃ a n c, l = .slice a n c) (hs : ∃ a n c, s = .slice a n c) :
    Calls Tryd.prog 7 #[.agg #[k, l, s]] w fun e w' => e = .returned (.bool true) ∧ Below w.heap.size w w' := by
  obtain ⟨la, ln, lc, rfl⟩ := hl
  obtain ⟨sa, sn, sc, rfl⟩ := hs
  go_enter Tryd.func7, Tryd.ntmps7
  go_wp2
  go_loopw [3, 4, 5] (fun x y i wr => ∃ j : Nat, j ≤ 2 ∧ i = .int .i64 j ∧ NilP wr x ∧ NilP wr y ∧ wr.cell? ⟨w.heap.size, 1, none⟩ = some (.slice la ln lc) ∧ wr.cell? ⟨w.heap.size, 2, none⟩ = some (.slice sa sn sc) ∧ Below w.heap.size w wr ∧ w.heap.size < wr.heap.size) (fun _ _ i _ => 2 - (intOf i).toNat)
  case atStart => exact ⟨0, by omega, rfl, .inl rfl, .inl rfl, new_cell w _ _ 1 _ rfl, new_cell w _ _ 2 _ rfl, (Below.refl _ _).alloc (Nat.le_refl _) _, by simp⟩
  case round =>
    obtain ⟨j, hj, rfl, hx, hy, hc1, hc2, hb, hz⟩ := hrel
    by_cases hlt : j < 2
    · go_wp2_with (first
        | (go_at_call 11; refine (num_any _ _).mono ?_; rintro e w' ⟨rfl, hw⟩; subst hw)
        | (go_at_call 12; refine (wbyte_nil _ _ _ hx).mono ?_; rintro e w' ⟨rfl, hw⟩; subst hw)
        | (go_at_call 14; refine (wint_nil _ _ _ hx).mono ?_; rintro e w' ⟨rfl, hw⟩; subst hw)
        | (go_at_call 16; refine (wtext_nil _ _ _ hx).mono ?_; rintro e w' ⟨rfl, hw⟩; subst hw)
        | (go_at_call 18; refine (wbytes_nil _ _ hx).mono ?_; rintro e w' ⟨rfl, hw⟩; subst hw)
        | (go_at_call 22; refine (rbyte_nil _ _ hy).mono ?_; rintro e w' ⟨rfl, hw⟩; subst hw)
        | (go_at_call 24; refine (rint_nil _ _ hy).mono ?_; rintro e w' ⟨rfl, hw⟩; subst hw)
        | (go_at_call 28; refine (rleft_nil _ _ hy).mono ?_; rintro e w' ⟨rfl, hw⟩; subst hw)
        | (go_at_call 26; refine (rtext_nil _ _ hy).mono ?_; rintro e w' ⟨rfl, hw⟩; subst hw)
        | (go_at_call 30; refine (rerr_nil _ _ hy).mono ?_; rintro e w' ⟨rfl, hw⟩; subst hw)
        | (go_at_call 31; refine (rdone_nil _ _ hy).mono ?_; rintro e w' ⟨rfl, hw⟩; subst hw))
      have k1 := alloc_keep w' (.cells #[.pointer none] 66)
      have k2 := alloc_keep (w'.alloc (.cells #[.pointer none] 66)) (.cells #[.pointer none] 67)
      have c1 : ((w'.alloc (.cells #[.pointer none] 66)).alloc (.cells #[.pointer none] 67)).cell? ⟨w'.heap.size, 0, none⟩ = some (.pointer none) := k2 _ _ (new_cell w' _ _ 0 _ rfl)
      have c2 : ((w'.alloc (.cells #[.pointer none] 66)).alloc (.cells #[.pointer none] 67)).cell? ⟨w'.heap.size + 1, 0, none⟩ = some (.pointer none) := by
        have := new_cell (w'.alloc (.cells #[.pointer none] 66)) #[.pointer none] 67 0 _ rfl
        rwa [show (w'.alloc (.cells #[.pointer none] 66)).heap.size = w'.heap.size + 1 by simp] at this
      exact ⟨⟨j + 1, by omega, by go_num, .inr ⟨_, rfl, c1⟩, .inr ⟨_, rfl, c2⟩, k2 _ _ (k1 _ _ hc1), k2 _ _ (k1 _ _ hc2), (hb.alloc (by omega) _).alloc (by simp; omega) _, by simp; omega⟩, by simp [intOf]; omega⟩
    · go_wp2_with fail
      refine (knows_any wr (ht.keep (below_keep hb))).mono ?_
      rintro e w2 ⟨rfl, hb2⟩
      go_wp2
      go_ret
      exact ⟨rfl, hb.trans (hb2.mono hb.size)⟩

end Go.Proofs.YtappcidcpcbckaaDoor
