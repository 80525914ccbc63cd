/- Layer 9: rightNumbers, gasOf, Part. -/
import Derived.Test.YtodagpmcmjleaaaYF
namespace Go.Proofs.Ytodagpmcmjleaaa
open Go.RowKit
def wrong9 (l : Nat) (x : Int × Int) : Bool := if x.1 = 53 then decide (x.2 < 0 ∨ (l : Int) ≤ x.2) else if x.1 = 51 then decide (x.2 < 0) else false
def below9 (x : Int) : Bool := decide (x < 0)
def rightB (cs : List (Int × Int)) (cal : List Int) : Bool := !cs.any (wrong9 cal.length) && !cal.any below9
theorem right_of {cs : List (Int × Int)} {cal : List Int} (h : rightB cs cal = true) : rightN cs cal := by
  unfold rightB at h
  rw [Bool.and_eq_true, Bool.not_eq_true', Bool.not_eq_true', List.any_eq_false, List.any_eq_false] at h
  refine ⟨fun x hx => ⟨fun e => ?_, fun e => ?_⟩, fun n hn => ?_⟩
  · have := h.1 x hx
    simp only [wrong9, e, if_true, decide_eq_true_eq] at this
    omega
  · have := h.1 x hx
    simp only [wrong9, e] at this
    simp at this
    omega
  · have := h.2 n hn
    simp only [below9, decide_eq_true_eq] at this
    omega
set_option maxRecDepth 100000 in
set_option maxHeartbeats 1000000 in
theorem wrong9_any (pl l c : Nat) (la : Option Addr) (x : Int × Int) (w : World) (h : w.cell? ⟨pl, 0, none⟩ = some (.slice la l c)) :
    Calls Try.prog 31 #[.agg #[.int .i64 x.1, .int .i64 x.2], .pointer (some ⟨pl, 0, none⟩)] w fun e w' => e = .returned (.bool (wrong9 l x)) ∧ Below w.heap.size w w' := by
  obtain ⟨x0, x9⟩ := x
  have b1 := (Below.refl _ w).alloc (Nat.le_refl _) (.cells #[.int .i64 x0, .int .i64 x9] 35)
  have h2 := below_keep b1 _ _ h
  obtain ⟨r, hr⟩ : ∃ r, r = wrong9 l (x0, x9) := ⟨_, rfl⟩
  rw [← hr]
  have HR := hid9 hr
  clear hr
  go_enter Try.func31, Try.ntmps31
  go_wp2_with fail
  all_goals
    go_ret
    refine ⟨?_, b1⟩
    rw [HR.out]
    unfold wrong9
    simp_all
set_option maxRecDepth 100000 in
theorem below9_any (x : Int) (w : World) : Calls Try.prog 32 #[.int .i64 x] w fun e w' => e = .returned (.bool (below9 x)) ∧ w' = w := by
  unfold below9
  go_enter Try.func32, Try.ntmps32
  go_wp2_with fail
  go_ret
  exact ⟨rfl, rfl⟩
set_option maxRecDepth 100000 in
set_option maxHeartbeats 1000000 in
theorem right9_any (cs : List (Int × Int)) (cal : List Int) (ca la : Option Addr) (cc lc : Nat) (hn : cs.length ≤ 9000000000000) (hl : cal.length ≤ 18000000000000) (w : World) (hi : IsAt w.cell? ca cs) (hz : NsAt w.cell? la cal) :
    Calls Try.prog 17 #[.slice ca cs.length cc, .slice la cal.length lc] w fun e w' => e = .returned (.bool (rightB cs cal)) ∧ Below w.heap.size w w' := by
  obtain ⟨W, hW⟩ : ∃ W, W = w.alloc (.cells #[.slice la cal.length lc] 23) := ⟨_, rfl⟩
  have b1 := (Below.refl _ w).alloc (Nat.le_refl _) (.cells #[.slice la cal.length lc] 23)
  have c1 : W.cell? ⟨w.heap.size, 0, none⟩ = some (.slice la cal.length lc) := by rw [hW]; exact Lib.cell_of_heap (heap_alloc_new w _) 0
  rw [← hW] at b1
  have e1 : ∀ args w, (callFunc 31 args).run Try.prog w = .ok (.enter 31 args) w := enters_of Try.func31 (by kernel_rfl) rfl
  have e2 : ∀ args w, (callFunc 32 args).run Try.prog w = .ok (.enter 32 args) w := enters_of Try.func32 (by kernel_rfl) rfl
  have T1 : Tells9 encI 31 #[.pointer (some ⟨w.heap.size, 0, none⟩)] W cs (wrong9 cal.length) := fun x hx W' hb => by
    show Calls Try.prog 31 #[.agg #[.int .i64 x.1, .int .i64 x.2], .pointer (some ⟨w.heap.size, 0, none⟩)] W' _
    exact wrong9_any w.heap.size cal.length lc la x W' (below_keep hb _ _ c1)
  have T2 : ∀ W', Tells9 encN 32 #[] W' cal below9 := fun W' x hx W2 hb2 => by
    show Calls Try.prog 32 #[.int .i64 x] W2 _
    exact (below9_any x W2).mono fun e w' ⟨h1, h2⟩ => ⟨h1, by rw [h2]; exact Below.refl _ _⟩
  have HC1 : Hid (Calls Try.prog 33 #[.slice ca cs.length cc, .func (.func 31) #[] #[.pointer (some ⟨w.heap.size, 0, none⟩)]] W fun e w' => e = .returned (.bool (cs.any (wrong9 cal.length))) ∧ w'.cell? ⟨w.heap.size, 0, none⟩ = some (.slice la cal.length lc) ∧ Hid (NsAt w'.cell? la cal) ∧ Hid (Below w.heap.size w w')) := hid9 ((contains9I_any cs ca cs.length cc rfl hn W 31 #[.pointer (some ⟨w.heap.size, 0, none⟩)] e1 (wrong9 cal.length) (hi.keep (below_keep b1)) T1).mono fun e w' ⟨h1, h2⟩ => ⟨h1, below_keep h2 _ _ c1, hid9 (hz.keep (below_keep (b1.trans (h2.mono b1.size)))), hid9 (b1.trans (h2.mono b1.size))⟩)
  have HC2 : Hid (∀ W', NsAt W'.cell? la cal → Below w.heap.size w W' → Calls Try.prog 34 #[.slice la cal.length lc, .func (.func 32) #[] #[]] W' fun e w' => e = .returned (.bool (cal.any below9)) ∧ Hid (Below w.heap.size w w')) := hid9 fun W' hz' hb => (contains9N_any cal la cal.length lc rfl hl W' 32 #[] e2 below9 hz' (T2 W')).mono fun e w' ⟨h1, h2⟩ => ⟨h1, hid9 (hb.trans (h2.mono hb.size))⟩
  unfold rightB
  generalize cs.any (wrong9 cal.length) = r1 at *
  generalize cal.any below9 = r2 at *
  rw [hW] at HC1
  clear hi hz b1 e1 e2 hW T1 T2
  go_enter Try.func17, Try.ntmps17
  go_wp2_with (first | (go_at_call 33; refine HC1.out.mono ?_; clear HC1; rintro e w4 ⟨rfl, c4, HZ4, HB4⟩) | (go_at_call 34; refine (HC2.out _ HZ4.out HB4.out).mono ?_; clear HC2 HB4; rintro e w5 ⟨rfl, HB4⟩) | fail)
  all_goals
    go_ret
    exact ⟨by simp_all, HB4.out⟩
end Go.Proofs.Ytodagpmcmjleaaa
