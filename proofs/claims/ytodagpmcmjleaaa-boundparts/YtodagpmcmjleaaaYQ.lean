/- Layer 9: the document's Part, of any instructions. -/
import Derived.Test.YtodagpmcmjleaaaYP
namespace Go.Proofs.Ytodagpmcmjleaaa
open Go.RowKit
set_option maxRecDepth 100000 in
set_option maxHeartbeats 1000000 in
theorem rpart9_any (cs : List (Int × Int)) (cal : List Int) (ca la : Option Addr) (cc lc n l : Nat) (hn : cs.length = n) (hl : cal.length = l) (bn : n ≤ 1000000) (bl : l ≤ 1000000000000000) (w : World) (hi : IsAt w.cell? ca cs) (hz : NsAt w.cell? la cal) :
    Calls Try.prog 11 #[.slice ca n cc, .slice la l lc] w fun e w' => e = .returned (.tuple #[.int .i64 ((partS cs cal).1 : Nat), .int .i64 (partS cs cal).2]) ∧ Below w.heap.size w w' := by
  have HM := hid9 (rmatch_any cs ca cc n hn bn w hi)
  by_cases hg : goodS cs = true
  · by_cases hr : rightB cs cal = true
    · rw [show partS cs cal = (gasS cal cs, 0) from by unfold partS; rw [if_pos hg, if_pos hr]]
      exact rpart_good cs cal ca la cc lc n l hn hl bn bl w hi hz hg hr
    · rw [show partS cs cal = (0, 1) from by unfold partS; rw [if_pos hg, if_neg hr]]
      rw [Bool.not_eq_true] at hr
      replace HM : Hid (Calls Try.prog 19 #[.slice ca n cc] w fun e w' => ∃ g : Nat, e = .returned (.tuple #[.slice (some ⟨g, 0, none⟩) n n, .int .i64 0]) ∧ Hid (Below w.heap.size w w')) := hid9 (HM.out.mono fun e w' ⟨h1, h2⟩ => by
        rw [if_pos hg, hn] at h1
        obtain ⟨g, _, h1, _⟩ := h1
        exact ⟨g, h1, hid9 h2⟩)
      have HR : Hid (∀ W, Below w.heap.size w W → Calls Try.prog 20 #[.slice ca n cc, .slice la l lc] W fun e w' => e = .returned (.bool false) ∧ w' = W) := hid9 fun W hb => by
        have := rfine_any cs cal ca la cc lc n l hn hl (by omega) bl W (hi.keep (below_keep hb)) (hz.keep (below_keep hb))
        rw [hr] at this
        exact this
      clear hi hz hg hr hn hl
      go_enter Try.func11, Try.ntmps11
      go_wp2_with (first
        | (go_at_call 19; refine HM.out.mono ?_; clear HM; rintro e w1 ⟨g, rfl, HW⟩)
        | (go_at_call 20; refine (HR.out _ HW.out).mono ?_; clear HR; rintro e w2 ⟨rfl, w2e⟩; rw [w2e]; clear w2e)
        | fail)
      go_ret2
      exact ⟨rfl, HW.out⟩
  · rw [show partS cs cal = (0, 31) from by unfold partS; rw [if_neg hg]]
    replace HM : Hid (Calls Try.prog 19 #[.slice ca n cc] w fun e w' => e = .returned (.tuple #[.slice none 0 0, .int .i64 31]) ∧ Hid (Below w.heap.size w w')) := hid9 (HM.out.mono fun e w' ⟨h1, h2⟩ => by
      rw [if_neg hg] at h1
      exact ⟨h1, hid9 h2⟩)
    clear hi hz hg hn hl
    go_enter Try.func11, Try.ntmps11
    go_wp2_with (first | (go_at_call 19; refine HM.out.mono ?_; clear HM; rintro e w1 ⟨rfl, HW⟩) | fail)
    go_ret2
    exact ⟨rfl, HW.out⟩
end Go.Proofs.Ytodagpmcmjleaaa
