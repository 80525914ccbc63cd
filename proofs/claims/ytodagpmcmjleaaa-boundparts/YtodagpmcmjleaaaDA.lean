/- The document's closes. -/
import Derived.Test.YtodagpmcmjleaaaST
import Derived.Test.YtodagpmcmjleaaaSL
namespace Go.Proofs.Ytodagpmcmjleaaa
open Go.RowKit
theorem cell_op {w : World} {cb co : Nat} {cs : List (Int × Int)} (h : IsAt w.cell? (some ⟨cb, co, none⟩) cs) (j : Nat) (hj : j < cs.length) : w.cell? ⟨cb, co + j * 2, none⟩ = some (.int .i64 (opA cs j)) := is_at h j hj
set_option maxRecDepth 100000 in
set_option maxHeartbeats 1000000 in
theorem closes_any (cs : List (Int × Int)) (cb co cc n : Nat) (hn : cs.length = n) (bn : n ≤ 1000000000) (i : Nat) (hi : i < n) (w : World) (hc : IsAt w.cell? (some ⟨cb, co, none⟩) cs) :
    Calls Try.prog 38 #[.slice (some ⟨cb, co, none⟩) n cc, .int .i64 i] w fun e w' => e = .returned (.tuple #[.int .i64 (closeAt (opA cs) n i).1, .int .i64 (closeAt (opA cs) n i).2]) ∧ w' = w := by
  obtain ⟨r, hr⟩ : ∃ r, r = closeAt (opA cs) n i := ⟨_, rfl⟩
  rw [← hr]
  have HC : Hid (∀ j, j < n → w.cell? ⟨cb, co + j * 2, none⟩ = some (.int .i64 (opA cs j))) := hid6 fun j hj => cell_op hc j (by omega)
  have HR := hid6 hr
  clear hr hc hn
  go_enter Try.func38, Try.ntmps38
  go_wp2
  go_loopw [6, 7, 8] (fun dv ov jv wr => ∃ (d j : Nat) (o : Int), dv = .int .i64 d ∧ ov = .int .i64 o ∧ jv = .int .i64 j ∧ i < j ∧ j ≤ n ∧ d ≤ j ∧ -1 ≤ o ∧ Hid (r = closeS (opA cs) (decide (opA cs i = 48)) (n - j) j d o) ∧ wr = w) (fun _ _ jv _ => n - (intOf jv).toNat)
  case atStart => exact ⟨0, i + 1, -1, rfl, rfl, by go_num, by omega, by omega, by omega, by omega, HR, rfl⟩
  case round =>
    obtain ⟨d, j, o, rfl, rfl, rfl, h1, h2, h3, h4, H5, rfl⟩ := hrel
    by_cases hj : j < n
    · have c0 := HC.out j hj
      have c1 := HC.out i hi
      have H6 := hid6 (H5.out.trans (closeS_succ hj))
      clear H5 HR
      generalize opA cs j = o1 at c0 H6
      generalize hfo : opA cs i = o2 at c1 H6
      clear hfo
      by_cases e1 : o1 = 48
      · subst e1
        have H7 := hid6 (H6.out.trans (if_pos (.inl rfl)))
        go_wp2
        refine ⟨⟨d + 1, j + 1, o, by go_num, rfl, by go_num, by omega, by omega, by omega, h4, H7, by trivial⟩, by simp [intOf]; omega⟩
      by_cases e2 : o1 = 51
      · subst e2
        have H7 := hid6 (H6.out.trans (if_pos (.inr rfl)))
        go_wp2
        refine ⟨⟨d + 1, j + 1, o, by go_num, rfl, by go_num, by omega, by omega, by omega, h4, H7, by trivial⟩, by simp [intOf]; omega⟩
      have H7 := hid6 (H6.out.trans (if_neg (by omega)))
      clear H6
      by_cases e3 : o1 = 49
      · subst e3
        have H8 := hid6 (H7.out.trans (if_pos rfl))
        clear H7
        by_cases e4 : d = 0
        · subst e4
          have H9 := hid6 (H8.out.trans (if_pos rfl))
          clear H8
          by_cases e5 : 0 ≤ o
          · have H10 := hid6 (H9.out.trans (if_pos (.inl e5)))
            clear H9
            go_wp2
            go_ret2
            exact ⟨by rw [H10.out]; rfl, rfl⟩
          · by_cases e6 : o2 = 48
            · subst e6
              have H10 := hid6 (H9.out.trans (if_neg (by simp; omega)))
              clear H9
              go_wp2
              refine ⟨⟨0, j + 1, j, rfl, rfl, by go_num, by omega, by omega, by omega, by omega, H10, by trivial⟩, by simp [intOf]; omega⟩
            · have H10 := hid6 (H9.out.trans (if_pos (.inr (by simp [e6]))))
              clear H9
              go_wp2
              go_ret2
              exact ⟨by rw [H10.out]; rfl, rfl⟩
        · have H9 := hid6 (H8.out.trans (if_neg e4))
          clear H8
          go_wp2
          refine ⟨⟨d, j + 1, o, rfl, rfl, by go_num, by omega, by omega, by omega, h4, H9, by trivial⟩, by simp [intOf]; omega⟩
      have H8 := hid6 (H7.out.trans (if_neg e3))
      clear H7
      by_cases e7 : o1 = 50
      · subst e7
        have H9 := hid6 (H8.out.trans (if_pos rfl))
        clear H8
        by_cases e4 : d = 0
        · subst e4
          have H10 := hid6 (H9.out.trans (if_pos rfl))
          clear H9
          go_wp2
          go_ret2
          exact ⟨by rw [H10.out]; rfl, rfl⟩
        · have H10 := hid6 (H9.out.trans (if_neg e4))
          clear H9
          go_wp2
          refine ⟨⟨d - 1, j + 1, o, by go_num, rfl, by go_num, by omega, by omega, by omega, h4, H10, by trivial⟩, by simp [intOf]; omega⟩
      have H9 := hid6 (H8.out.trans (if_neg e7))
      clear H8
      go_wp2
      refine ⟨⟨d, j + 1, o, rfl, rfl, by go_num, by omega, by omega, by omega, h4, H9, by trivial⟩, by simp [intOf]; omega⟩
    · have : j = n := by omega
      subst this
      have H6 : Hid (r = (o, -1)) := hid6 (by rw [H5.out, Nat.sub_self, closeS])
      clear H5 HR
      go_wp2
      go_ret2
      exact ⟨by rw [H6.out]; rfl, rfl⟩
end Go.Proofs.Ytodagpmcmjleaaa
