/- Layer 9: gasOf, Part. -/
import Derived.Test.YtodagpmcmjleaaaYG
namespace Go.Proofs.Ytodagpmcmjleaaa
open Go.RowKit
set_option maxRecDepth 100000 in
set_option maxHeartbeats 1000000 in
theorem gasOf_any (cs : List (Int × Int)) (cal : List Int) (ca la : Option Addr) (cc lc : Nat) (hg : goodS cs = true) (hr : rightN cs cal) (hn : cs.length ≤ 9000000000000) (w : World) (hi : IsAt w.cell? ca cs) (hz : NsAt w.cell? la cal) :
    Calls Try.prog 18 #[.slice ca cs.length cc, .slice la cal.length lc] w fun e w' => e = .returned (.int .i64 (gasS cal cs : Nat)) ∧ Below w.heap.size w w' := by
  have hsf : ∀ (W : World) (a : Addr) (q : Go.Fn) (x y : Array Value), (store a (.func q x y)).run Try.prog W = stored Try.prog W a (.func q x y) _ := fun W a q x y => run_store Try.prog W a _ _ rfl
  have eF : ∀ args w, (callFunc 35 args).run Try.prog w = .ok (.enter 35 args) w := enters_of Try.func35 (by kernel_rfl) rfl
  have HC : Hid (Calls Try.prog 35 #[.int .i64 0, .pointer (some ⟨w.heap.size, 0, none⟩), .pointer (some ⟨w.heap.size + 1, 0, none⟩), .pointer (some ⟨w.heap.size + 1 + 1, 0, none⟩)] (((w.alloc (.cells #[.slice ca cs.length cc] 22)).alloc (.cells #[.slice la cal.length lc] 23)).alloc (.cells #[.func (.func 35) #[] #[.pointer (some ⟨w.heap.size, 0, none⟩), .pointer (some ⟨w.heap.size + 1, 0, none⟩), .pointer (some ⟨w.heap.size + 1 + 1, 0, none⟩)]] 67)) fun e w' => ∃ m : Nat, e = .returned (.tuple #[.int .i64 (gasS cal cs : Nat), .int .i64 (m : Nat)]) ∧ Hid (Below w.heap.size w w')) := hid9 (by
    obtain ⟨w1, e1⟩ : ∃ w1, w1 = w.alloc (.cells #[.slice ca cs.length cc] 22) := ⟨_, rfl⟩
    obtain ⟨w2, e2⟩ : ∃ w2, w2 = w1.alloc (.cells #[.slice la cal.length lc] 23) := ⟨_, rfl⟩
    obtain ⟨fv, ef⟩ : ∃ fv : Value, fv = .func (.func 35) #[] #[.pointer (some ⟨w.heap.size, 0, none⟩), .pointer (some ⟨w.heap.size + 1, 0, none⟩), .pointer (some ⟨w.heap.size + 1 + 1, 0, none⟩)] := ⟨_, rfl⟩
    obtain ⟨W, e3⟩ : ∃ W, W = w2.alloc (.cells #[fv] 67) := ⟨_, rfl⟩
    rw [← e1, ← e2, ← ef, ← e3]
    have z1 : w1.heap.size = w.heap.size + 1 := by rw [e1]; simp
    have z2 : w2.heap.size = w.heap.size + 1 + 1 := by rw [e2]; simp [z1]
    have b1 : Below w.heap.size w w1 := by rw [e1]; exact (Below.refl _ w).alloc (Nat.le_refl _) _
    have b2 : Below w1.heap.size w1 w2 := by rw [e2]; exact (Below.refl _ w1).alloc (Nat.le_refl _) _
    have b3 : Below w2.heap.size w2 W := by rw [e3]; exact (Below.refl _ w2).alloc (Nat.le_refl _) _
    have c1 : w1.cell? ⟨w.heap.size, 0, none⟩ = some (.slice ca cs.length cc) := by rw [e1]; exact Lib.cell_of_heap (heap_alloc_new w _) 0
    have c2 : w2.cell? ⟨w.heap.size + 1, 0, none⟩ = some (.slice la cal.length lc) := by rw [e2, ← z1]; exact Lib.cell_of_heap (heap_alloc_new w1 _) 0
    have c3 : W.cell? ⟨w.heap.size + 1 + 1, 0, none⟩ = some fv := by rw [e3, ← z2]; exact Lib.cell_of_heap (heap_alloc_new w2 _) 0
    have k2 : Below w1.heap.size w1 W := b2.trans (b3.mono b2.size)
    have k1 : Below w.heap.size w W := b1.trans (k2.mono b1.size)
    have hst : GSt ⟨w.heap.size, w.heap.size + 1, w.heap.size + 1 + 1, cc, lc, ca, la⟩ cs cal W := ⟨below_keep k2 _ _ c1, below_keep b3 _ _ c2, by rw [ef] at c3; exact c3, hi.keep (below_keep k1), hz.keep (below_keep k1)⟩
    refine Calls.mono (parts_any ⟨w.heap.size, w.heap.size + 1, w.heap.size + 1 + 1, cc, lc, ca, la⟩ cs cal hg hr hn cs.length 0 [] W (by omega) (by omega) rfl hst) fun e w' ⟨m, g, g0, q1, q2, q3, q4, q5, q6⟩ => ⟨m, ?_, hid9 (k1.trans (q6.mono k1.size))⟩
    have hm : m = cs.length := by
      rcases Nat.lt_or_ge m cs.length with q | q
      · exfalso
        have := (good_stand hg q q2.ar).1
        rcases (q5 q).1 with h | h
        · rw [h] at this; simp [astand] at this
        · rw [h] at this; simp [astand] at this
      · exact Nat.le_antisymm q2.kn q
    have hgg := q4 hm
    rw [hm] at q2
    rw [pi_gas q2, ← hgg]
    exact q1)
  generalize gasS cal cs = gv at *
  clear hi hz hg hr
  go_enter Try.func18, Try.ntmps18
  go_wp2_with (first | (go_at_fn 35; refine HC.out.mono ?_; clear HC; rintro e w' ⟨m, rfl, HW⟩) | fail)
  go_ret
  exact ⟨rfl, HW.out⟩
/-- What Part answers. -/
def partS (cs : List (Int × Int)) (cal : List Int) : Nat × Int := if goodS cs = true then (if rightB cs cal = true then (gasS cal cs, 0) else (0, 1)) else (0, 31)
set_option maxRecDepth 100000 in
set_option maxHeartbeats 1000000 in
theorem part9_any (cs : List (Int × Int)) (cal : List Int) (ca la : Option Addr) (cc lc : Nat) (hn : cs.length ≤ 9000000000000) (hl : cal.length ≤ 18000000000000) (w : World) (hi : IsAt w.cell? ca cs) (hz : NsAt w.cell? la cal) :
    Calls Try.prog 10 #[.slice ca cs.length cc, .slice la cal.length lc] w fun e w' => e = .returned (.tuple #[.int .i64 ((partS cs cal).1 : Nat), .int .i64 (partS cs cal).2]) ∧ Below w.heap.size w w' := by
  have HM : Hid (Calls Try.prog 16 #[.slice ca cs.length cc] w (MatchEnd cs w)) := hid9 (by
    rcases hi with h | ⟨cb, co, e, h⟩
    · exact match_any cs ca cc 0 0 (.inl h) hn w fun j hj => by rw [h] at hj; cases hj
    · exact match_any cs ca cc cb co (.inr e) hn w h)
  have HR : Hid (∀ W, Below w.heap.size w W → Calls Try.prog 17 #[.slice ca cs.length cc, .slice la cal.length lc] W fun e w' => e = .returned (.bool (rightB cs cal)) ∧ Hid (Below w.heap.size w w')) := hid9 fun W hb => (right9_any cs cal ca la cc lc hn hl W (hi.keep (below_keep hb)) (hz.keep (below_keep hb))).mono fun e w' ⟨h1, h2⟩ => ⟨h1, hid9 (hb.trans (h2.mono hb.size))⟩
  by_cases hg : goodS cs = true
  · replace HM : Hid (Calls Try.prog 16 #[.slice ca cs.length cc] w fun e w' => ∃ g : Nat, e = .returned (.tuple #[.slice (some ⟨g, 0, none⟩) cs.length cs.length, .int .i64 0]) ∧ Hid (Below w.heap.size w w')) := hid9 (HM.out.mono fun e w' ⟨h1, h2⟩ => by
      rw [if_pos hg] at h1
      obtain ⟨g, _, h1, _⟩ := h1
      exact ⟨g, h1, hid9 h2⟩)
    by_cases hr : rightB cs cal = true
    · rw [show partS cs cal = (gasS cal cs, 0) from by unfold partS; rw [if_pos hg, if_pos hr]]
      rw [hr] at HR
      have HG : Hid (∀ W, Below w.heap.size w W → Calls Try.prog 18 #[.slice ca cs.length cc, .slice la cal.length lc] W fun e w' => e = .returned (.int .i64 (gasS cal cs : Nat)) ∧ Hid (Below w.heap.size w w')) := hid9 fun W hb => (gasOf_any cs cal ca la cc lc hg (right_of hr) hn W (hi.keep (below_keep hb)) (hz.keep (below_keep hb))).mono fun e w' ⟨h1, h2⟩ => ⟨h1, hid9 (hb.trans (h2.mono hb.size))⟩
      generalize gasS cal cs = gv at *
      clear hi hz hg hr
      go_enter Try.func10, Try.ntmps10
      go_wp2_with (first | (go_at_call 16; refine HM.out.mono ?_; clear HM; rintro e w1 ⟨g, rfl, HW⟩) | (go_at_call 17; refine (HR.out _ HW.out).mono ?_; clear HR HW; rintro e w2 ⟨rfl, HW⟩) | (go_at_call 18; refine (HG.out _ HW.out).mono ?_; clear HG HW; rintro e w3 ⟨rfl, HW⟩) | fail)
      go_ret2
      exact ⟨rfl, HW.out⟩
    · rw [show partS cs cal = (0, 1) from by unfold partS; rw [if_pos hg, if_neg hr]]
      rw [Bool.not_eq_true] at hr
      rw [hr] at HR
      clear hi hz hg hr
      go_enter Try.func10, Try.ntmps10
      go_wp2_with (first | (go_at_call 16; refine HM.out.mono ?_; clear HM; rintro e w1 ⟨g, rfl, HW⟩) | (go_at_call 17; refine (HR.out _ HW.out).mono ?_; clear HR HW; rintro e w2 ⟨rfl, HW⟩) | fail)
      go_ret2
      exact ⟨rfl, HW.out⟩
  · rw [show partS cs cal = (0, 31) from by unfold partS; rw [if_neg hg]]
    replace HM : Hid (Calls Try.prog 16 #[.slice ca cs.length cc] w fun e w' => e = .returned (.tuple #[.slice none 0 0, .int .i64 31]) ∧ Hid (Below w.heap.size w w')) := hid9 (HM.out.mono fun e w' ⟨h1, h2⟩ => by
      rw [if_neg hg] at h1
      exact ⟨h1, hid9 h2⟩)
    clear hi hz hg HR
    go_enter Try.func10, Try.ntmps10
    go_wp2_with (first | (go_at_call 16; refine HM.out.mono ?_; clear HM; rintro e w1 ⟨rfl, HW⟩) | fail)
    go_ret2
    exact ⟨rfl, HW.out⟩
end Go.Proofs.Ytodagpmcmjleaaa
