/- shape.Next and the document's; law06.Own. -/
import Derived.Test.YtnlcokcpcfbdaaaSK
namespace Go.Proofs.Ytnlcokcpcfbdaaa
open Go.RowKit
theorem place_any (x : Int) (n : Nat) (r : Bool) (hr : decide (0 ≤ x ∧ x < n) = r) (w : World) : Calls Try.prog 35 #[.int .i64 x, .int .i64 n] w fun e w' => e = .returned (.bool r) ∧ w' = w := by
  subst hr
  by_cases h0 : 0 ≤ x
  · by_cases h1 : x < n
    · have e : decide (0 ≤ x ∧ x < n) = true := decide_eq_true ⟨h0, h1⟩
      rw [e]
      go_enter Try.func35, Try.ntmps35
      go_wp2
      go_ret
      exact ⟨by simp, rfl⟩
    · have e : decide (0 ≤ x ∧ x < n) = false := decide_eq_false (fun h => h1 h.2)
      rw [e]
      go_enter Try.func35, Try.ntmps35
      go_wp2
      go_ret
      exact ⟨by simp, rfl⟩
  · have e : decide (0 ≤ x ∧ x < n) = false := decide_eq_false (fun h => h0 h.1)
    rw [e]
    have h2 : x < 0 := by omega
    go_enter Try.func35, Try.ntmps35
    go_wp2
    go_ret
    exact ⟨rfl, rfl⟩
/-- Is an operation followed by what stands behind its match? -/
def asksS (n : Int) (yes : Bool) : Bool := if n = 48 then !yes else if n = 49 then true else if n = 50 ∨ n = 52 then yes else false
theorem jumps_any (n : Int) (yes : Bool) (w : World) : Calls Try.prog 36 #[.int .i64 n, .bool yes] w fun e w' => e = .returned (.bool (asksS n yes)) ∧ w' = w := by
  by_cases n1 : n = 48
  · subst n1
    go_enter Try.func36, Try.ntmps36
    go_wp2
    go_ret
    exact ⟨by simp [asksS], rfl⟩
  by_cases n2 : n = 49
  · subst n2
    go_enter Try.func36, Try.ntmps36
    go_wp2
    go_ret
    exact ⟨by simp [asksS], rfl⟩
  by_cases n3 : n = 50
  · subst n3
    go_enter Try.func36, Try.ntmps36
    go_wp2
    go_ret
    exact ⟨by simp [asksS], rfl⟩
  by_cases n4 : n = 52
  · subst n4
    go_enter Try.func36, Try.ntmps36
    go_wp2
    go_ret
    exact ⟨by simp [asksS], rfl⟩
  · have e : asksS n yes = false := by simp [asksS, n1, n2, n3, n4]
    rw [e]
    go_enter Try.func36, Try.ntmps36
    go_wp2
    go_ret
    exact ⟨rfl, rfl⟩
/-- What is done behind the instruction at x. -/
def nextS (cs : List (Int × Int)) (ms : List Int) (x : Int) (yes : Bool) : Int :=
  if 0 ≤ x ∧ x < cs.length ∧ x < ms.length then
    if asksS ((opsI cs).getD x.toNat 0) yes = true then
      if 0 ≤ ms.getD x.toNat 0 ∧ ms.getD x.toNat 0 < cs.length then ms.getD x.toNat 0 + 1 else -1
    else x + 1
  else -1
theorem ns_at {w : World} {b off : Nat} {ms : List Int} (h : NsAt w.cell? (some ⟨b, off, none⟩) ms) (j : Nat) (hj : j < ms.length) : w.cell? ⟨b, off + j, none⟩ = some (.int .i64 (ms.getD j 0)) := by
  rcases h with rfl | ⟨b', off', e, hc⟩
  · simp at hj
  · cases e
    rw [hc j hj, List.getD_eq_getElem?_getD, List.getElem?_eq_getElem hj]
    rfl
theorem is_at {w : World} {b off : Nat} {cs : List (Int × Int)} (h : IsAt w.cell? (some ⟨b, off, none⟩) cs) (j : Nat) (hj : j < cs.length) : w.cell? ⟨b, off + j * 2, none⟩ = some (.int .i64 ((opsI cs).getD j 0)) := by
  rcases h with rfl | ⟨b', off', e, hc⟩
  · simp at hj
  · cases e
    rw [(hc j hj).1, ops_at hj]
theorem ns_some {w : World} {a : Option Addr} {ms : List Int} (h : NsAt w.cell? a ms) (h0 : 0 < ms.length) : ∃ b off, a = some ⟨b, off, none⟩ := by
  rcases h with rfl | ⟨b, off, e, _⟩
  · simp at h0
  · exact ⟨b, off, e⟩
theorem is_some {w : World} {a : Option Addr} {cs : List (Int × Int)} (h : IsAt w.cell? a cs) (h0 : 0 < cs.length) : ∃ b off, a = some ⟨b, off, none⟩ := by
  rcases h with rfl | ⟨b, off, e, _⟩
  · simp at h0
  · exact ⟨b, off, e⟩
set_option maxRecDepth 100000 in
set_option maxHeartbeats 1000000 in
theorem next6_any (cs : List (Int × Int)) (ms : List Int) (ca ma : Option Addr) (cc mc : Nat) (n m : Nat) (hn : cs.length = n) (hm : ms.length = m) (x : Int) (yes : Bool) (w : World) (hc : IsAt w.cell? ca cs) (hk : NsAt w.cell? ma ms) (bn : n ≤ 17592186044416) :
    Calls Try.prog 19 #[.slice ca n cc, .slice ma m mc, .int .i64 x, .bool yes] w fun e w' => e = .returned (.int .i64 (nextS cs ms x yes)) ∧ w' = w := by
  by_cases h0 : 0 ≤ x ∧ x < n
  · have hP := place_any x n true (decide_eq_true h0) w
    by_cases h1 : x < m
    · have hP2 := place_any x m true (decide_eq_true ⟨h0.1, h1⟩) w
      obtain ⟨k, rfl⟩ : ∃ k : Nat, x = k := ⟨x.toNat, by omega⟩
      obtain ⟨b, off, rfl⟩ := is_some hc (by omega)
      obtain ⟨b2, off2, rfl⟩ := ns_some hk (by omega)
      have c0 := is_at hc k (by omega)
      have m0 := ns_at hk k (by omega)
      have hJ := jumps_any ((opsI cs).getD k 0) yes w
      have hE : nextS cs ms k yes = if asksS ((opsI cs).getD k 0) yes = true then (if 0 ≤ ms.getD k 0 ∧ ms.getD k 0 < n then ms.getD k 0 + 1 else -1) else (k : Int) + 1 := by
        unfold nextS
        rw [if_pos (by omega), Int.toNat_natCast, hn]
      have HE := hid6 hE
      generalize (opsI cs).getD k 0 = nn at c0 hJ HE
      generalize ms.getD k 0 = y at m0 HE
      clear hE hc hk
      cases ha : asksS nn yes with
      | false =>
        rw [ha] at hJ HE
        go_enter Try.func19, Try.ntmps19
        go_wp2_with (first | (go_at_call 35; first | (refine hP.mono ?_; clear hP; rintro e w2 ⟨rfl, rfl⟩) | (refine hP2.mono ?_; clear hP2; rintro e w2 ⟨rfl, rfl⟩)) | (go_at_call 36; refine hJ.mono ?_; rintro e w2 ⟨rfl, rfl⟩) | fail)
        go_ret
        exact ⟨by rw [HE.out, if_neg (by decide)]; rfl, rfl⟩
      | true =>
        rw [ha] at hJ HE
        by_cases h2 : 0 ≤ y ∧ y < n
        · have hP3 := place_any y n true (decide_eq_true h2) w
          go_enter Try.func19, Try.ntmps19
          go_wp2_with (first | (go_at_call 35; first | (refine hP.mono ?_; clear hP; rintro e w2 ⟨rfl, rfl⟩) | (refine hP2.mono ?_; clear hP2; rintro e w2 ⟨rfl, rfl⟩) | (refine hP3.mono ?_; clear hP3; rintro e w2 ⟨rfl, rfl⟩)) | (go_at_call 36; refine hJ.mono ?_; rintro e w2 ⟨rfl, rfl⟩) | fail)
          go_ret
          exact ⟨by rw [HE.out, if_pos trivial, if_pos h2]; rfl, rfl⟩
        · have hP3 := place_any y n false (decide_eq_false h2) w
          go_enter Try.func19, Try.ntmps19
          go_wp2_with (first | (go_at_call 35; first | (refine hP.mono ?_; clear hP; rintro e w2 ⟨rfl, rfl⟩) | (refine hP2.mono ?_; clear hP2; rintro e w2 ⟨rfl, rfl⟩) | (refine hP3.mono ?_; clear hP3; rintro e w2 ⟨rfl, rfl⟩)) | (go_at_call 36; refine hJ.mono ?_; rintro e w2 ⟨rfl, rfl⟩) | fail)
          go_ret
          exact ⟨by rw [HE.out, if_pos trivial, if_neg h2]; rfl, rfl⟩
    · have hP2 := place_any x m false (decide_eq_false (fun h => h1 h.2)) w
      have HE := hid6 (show nextS cs ms x yes = -1 by unfold nextS; rw [if_neg (by omega)])
      clear hc hk
      go_enter Try.func19, Try.ntmps19
      go_wp2_with (first | (go_at_call 35; first | (refine hP.mono ?_; clear hP; rintro e w2 ⟨rfl, rfl⟩) | (refine hP2.mono ?_; clear hP2; rintro e w2 ⟨rfl, rfl⟩)) | fail)
      go_ret
      exact ⟨by rw [HE.out]; rfl, rfl⟩
  · have hP := place_any x n false (decide_eq_false h0) w
    have HE := hid6 (show nextS cs ms x yes = -1 by unfold nextS; rw [if_neg (by omega)])
    clear hc hk
    go_enter Try.func19, Try.ntmps19
    go_wp2_with (first | (go_at_call 35; refine hP.mono ?_; clear hP; rintro e w2 ⟨rfl, rfl⟩) | fail)
    go_ret
    exact ⟨by rw [HE.out]; rfl, rfl⟩
set_option maxRecDepth 100000 in
set_option maxHeartbeats 1000000 in
theorem rnext6_any (cs : List (Int × Int)) (ms : List Int) (ca ma : Option Addr) (cc mc : Nat) (n m : Nat) (hn : cs.length = n) (hm : ms.length = m) (x : Int) (yes : Bool) (w : World) (hc : IsAt w.cell? ca cs) (hk : NsAt w.cell? ma ms) (bn : n ≤ 17592186044416) :
    Calls Try.prog 20 #[.slice ca n cc, .slice ma m mc, .int .i64 x, .bool yes] w fun e w' => e = .returned (.int .i64 (nextS cs ms x yes)) ∧ w' = w := by
  by_cases hx : x < 0
  · have HE := hid6 (show nextS cs ms x yes = -1 by unfold nextS; rw [if_neg (by omega)])
    clear hc hk
    go_enter Try.func20, Try.ntmps20
    go_wp2_with fail
    go_ret
    exact ⟨by rw [HE.out]; rfl, rfl⟩
  obtain ⟨k, rfl⟩ : ∃ k : Nat, x = k := ⟨x.toNat, by omega⟩
  by_cases h0 : k < n
  · by_cases h1 : k < m
    · obtain ⟨b, off, rfl⟩ := is_some hc (by omega)
      obtain ⟨b2, off2, rfl⟩ := ns_some hk (by omega)
      have c0 := is_at hc k (by omega)
      have m0 := ns_at hk k (by omega)
      have hE : nextS cs ms k yes = if asksS ((opsI cs).getD k 0) yes = true then (if 0 ≤ ms.getD k 0 ∧ ms.getD k 0 < n then ms.getD k 0 + 1 else -1) else (k : Int) + 1 := by
        unfold nextS
        rw [if_pos (by omega), Int.toNat_natCast, hn]
      have HE := hid6 hE
      generalize (opsI cs).getD k 0 = nn at c0 HE
      generalize ms.getD k 0 = y at m0 HE
      clear hE hc hk
      have hcase : (∃ r, r = asksS nn yes) := ⟨_, rfl⟩
      obtain ⟨r, hr⟩ := hcase
      rw [← hr] at HE
      have HR : Hid ((nn = 48 ∧ r = !yes) ∨ (nn = 49 ∧ r = true) ∨ (nn = 50 ∧ r = yes) ∨ (nn = 52 ∧ r = yes) ∨ (nn ≠ 48 ∧ nn ≠ 49 ∧ nn ≠ 50 ∧ nn ≠ 52 ∧ r = false)) := hid6 (by
        rw [hr]
        by_cases n1 : nn = 48
        · exact .inl ⟨n1, by simp [asksS, n1]⟩
        by_cases n2 : nn = 49
        · exact .inr (.inl ⟨n2, by simp [asksS, n2]⟩)
        by_cases n3 : nn = 50
        · exact .inr (.inr (.inl ⟨n3, by simp [asksS, n3]⟩))
        by_cases n4 : nn = 52
        · exact .inr (.inr (.inr (.inl ⟨n4, by simp [asksS, n4]⟩)))
        · exact .inr (.inr (.inr (.inr ⟨n1, n2, n3, n4, by simp [asksS, n1, n2, n3, n4]⟩))))
      clear hr
      by_cases h2 : y < 0
      · have HE := hid6 (HE.out.trans (by rw [if_neg (show ¬ (0 ≤ y ∧ y < n) by omega)]))
        cases yes
        all_goals
          rcases HR.out with ⟨rfl, hr⟩ | ⟨rfl, hr⟩ | ⟨rfl, hr⟩ | ⟨rfl, hr⟩ | ⟨n1, n2, n3, n4, hr⟩
          all_goals
            subst hr
            clear HR
            go_enter Try.func20, Try.ntmps20
            go_wp2_with fail
            go_ret
            exact ⟨by rw [HE.out]; rfl, rfl⟩
      · by_cases h3 : y < n
        · have HE := hid6 (HE.out.trans (by rw [if_pos (show 0 ≤ y ∧ y < n by omega)]))
          cases yes
          all_goals
            rcases HR.out with ⟨rfl, hr⟩ | ⟨rfl, hr⟩ | ⟨rfl, hr⟩ | ⟨rfl, hr⟩ | ⟨n1, n2, n3, n4, hr⟩
            all_goals
              subst hr
              clear HR
              go_enter Try.func20, Try.ntmps20
              go_wp2_with fail
              go_ret
              exact ⟨by rw [HE.out]; rfl, rfl⟩
        · have HE := hid6 (HE.out.trans (by rw [if_neg (show ¬ (0 ≤ y ∧ y < n) by omega)]))
          cases yes
          all_goals
            rcases HR.out with ⟨rfl, hr⟩ | ⟨rfl, hr⟩ | ⟨rfl, hr⟩ | ⟨rfl, hr⟩ | ⟨n1, n2, n3, n4, hr⟩
            all_goals
              subst hr
              clear HR
              go_enter Try.func20, Try.ntmps20
              go_wp2_with fail
              go_ret
              exact ⟨by rw [HE.out]; rfl, rfl⟩
    · have HE := hid6 (show nextS cs ms k yes = -1 by unfold nextS; rw [if_neg (by omega)])
      clear hc hk
      go_enter Try.func20, Try.ntmps20
      go_wp2_with fail
      go_ret
      exact ⟨by rw [HE.out]; rfl, rfl⟩
  · have HE := hid6 (show nextS cs ms k yes = -1 by unfold nextS; rw [if_neg (by omega)])
    clear hc hk
    go_enter Try.func20, Try.ntmps20
    go_wp2_with fail
    go_ret
    exact ⟨by rw [HE.out]; rfl, rfl⟩
end Go.Proofs.Ytnlcokcpcfbdaaa
