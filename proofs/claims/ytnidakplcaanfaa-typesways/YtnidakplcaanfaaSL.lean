/- shape.Next and the document's; law06.Own. What slices.Backward hands on of a row of numbers. -/
import Derived.Test.YtnidakplcaanfaaSJ
import Derived.RangeFuncNested
import Derived.RangeFuncBound
import Derived.RangeFuncCalls
import Derived.RangeFuncLeaves
import Derived.RangeFuncBox
import Derived.Shelf.Abstract
import Derived.WalkKit
import Derived.OwnWalkIn
import Derived.TacticsInMore
import Derived.LoopNIn
import Derived.LoopIn
import Derived.Test.YtnidakplcaanfaaFeeds
import Derived.Test.YtnidakplcaanfaaRJ
import Derived.Test.YtnidakplcaanfaaCC
namespace Go.Proofs.Ytnidakplcaanfaa
open Go.RowKit
theorem place_any (x : Int) (n : Nat) (r : Bool) (hr : decide (0 ≤ x ∧ x < n) = r) (w : World) : Calls Try.prog 44 #[.int .i64 x, .int .i64 n] w fun e w' => e = .returned (.bool r) ∧ w' = w := by
  subst hr
  by_cases h0 : 0 ≤ x
  · by_cases h1 : x < n
    · have e : decide (0 ≤ x ∧ x < n) = true := decide_eq_true ⟨h0, h1⟩
      rw [e]
      go_enter Try.func44, Try.ntmps44
      go_wp2
      go_ret
      exact ⟨by simp, rfl⟩
    · have e : decide (0 ≤ x ∧ x < n) = false := decide_eq_false (fun h => h1 h.2)
      rw [e]
      go_enter Try.func44, Try.ntmps44
      go_wp2
      go_ret
      exact ⟨by simp, rfl⟩
  · have e : decide (0 ≤ x ∧ x < n) = false := decide_eq_false (fun h => h0 h.1)
    rw [e]
    have h2 : x < 0 := by omega
    go_enter Try.func44, Try.ntmps44
    go_wp2
    go_ret
    exact ⟨rfl, rfl⟩
/-- Is an operation followed by what stands behind its match? -/
def asksS (n : Int) (yes : Bool) : Bool := if n = 48 then !yes else if n = 49 then true else if n = 50 ∨ n = 52 then yes else false
theorem jumps_any (n : Int) (yes : Bool) (w : World) : Calls Try.prog 45 #[.int .i64 n, .bool yes] w fun e w' => e = .returned (.bool (asksS n yes)) ∧ w' = w := by
  by_cases n1 : n = 48
  · subst n1
    go_enter Try.func45, Try.ntmps45
    go_wp2
    go_ret
    exact ⟨by simp [asksS], rfl⟩
  by_cases n2 : n = 49
  · subst n2
    go_enter Try.func45, Try.ntmps45
    go_wp2
    go_ret
    exact ⟨by simp [asksS], rfl⟩
  by_cases n3 : n = 50
  · subst n3
    go_enter Try.func45, Try.ntmps45
    go_wp2
    go_ret
    exact ⟨by simp [asksS], rfl⟩
  by_cases n4 : n = 52
  · subst n4
    go_enter Try.func45, Try.ntmps45
    go_wp2
    go_ret
    exact ⟨by simp [asksS], rfl⟩
  · have e : asksS n yes = false := by simp [asksS, n1, n2, n3, n4]
    rw [e]
    go_enter Try.func45, Try.ntmps45
    go_wp2
    go_ret
    exact ⟨rfl, rfl⟩
/-- What is done behind the instruction at x. -/
def nextS (cs : List (Int × Int)) (ms : List Int) (x : Int) (yes : Bool) : Int :=
  if 0 ≤ x ∧ x < cs.length ∧ x < ms.length then
    if asksS ((opsI cs).getD x.toNat 0) yes = true then
      if 0 ≤ ms.getD x.toNat 0 ∧ ms.getD x.toNat 0 < cs.length then ms.getD x.toNat 0 + 1 else -1
    else x + 1
  else -1
theorem ns_at {w : World} {b off : Nat} {ms : List Int} (h : NsAt w.cell? (some ⟨b, off, none⟩) ms) (j : Nat) (hj : j < ms.length) : w.cell? ⟨b, off + j, none⟩ = some (.int .i64 (ms.getD j 0)) := by
  rcases h with rfl | ⟨b', off', e, hc⟩
  · simp at hj
  · cases e
    rw [hc j hj, List.getD_eq_getElem?_getD, List.getElem?_eq_getElem hj]
    rfl
theorem is_at {w : World} {b off : Nat} {cs : List (Int × Int)} (h : IsAt w.cell? (some ⟨b, off, none⟩) cs) (j : Nat) (hj : j < cs.length) : w.cell? ⟨b, off + j * 2, none⟩ = some (.int .i64 ((opsI cs).getD j 0)) := by
  rcases h with rfl | ⟨b', off', e, hc⟩
  · simp at hj
  · cases e
    rw [(hc j hj).1, ops_at hj]
theorem ns_some {w : World} {a : Option Addr} {ms : List Int} (h : NsAt w.cell? a ms) (h0 : 0 < ms.length) : ∃ b off, a = some ⟨b, off, none⟩ := by
  rcases h with rfl | ⟨b, off, e, _⟩
  · simp at h0
  · exact ⟨b, off, e⟩
theorem is_some {w : World} {a : Option Addr} {cs : List (Int × Int)} (h : IsAt w.cell? a cs) (h0 : 0 < cs.length) : ∃ b off, a = some ⟨b, off, none⟩ := by
  rcases h with rfl | ⟨b, off, e, _⟩
  · simp at h0
  · exact ⟨b, off, e⟩
set_option maxRecDepth 100000 in
set_option maxHeartbeats 1000000 in
theorem next6_any (cs : List (Int × Int)) (ms : List Int) (ca ma : Option Addr) (cc mc : Nat) (n m : Nat) (hn : cs.length = n) (hm : ms.length = m) (x : Int) (yes : Bool) (w : World) (hc : IsAt w.cell? ca cs) (hk : NsAt w.cell? ma ms) (bn : n ≤ 17592186044416) :
    Calls Try.prog 23 #[.slice ca n cc, .slice ma m mc, .int .i64 x, .bool yes] w fun e w' => e = .returned (.int .i64 (nextS cs ms x yes)) ∧ w' = w := by
  by_cases h0 : 0 ≤ x ∧ x < n
  · have hP := place_any x n true (decide_eq_true h0) w
    by_cases h1 : x < m
    · have hP2 := place_any x m true (decide_eq_true ⟨h0.1, h1⟩) w
      obtain ⟨k, rfl⟩ : ∃ k : Nat, x = k := ⟨x.toNat, by omega⟩
      obtain ⟨b, off, rfl⟩ := is_some hc (by omega)
      obtain ⟨b2, off2, rfl⟩ := ns_some hk (by omega)
      have c0 := is_at hc k (by omega)
      have m0 := ns_at hk k (by omega)
      have hJ := jumps_any ((opsI cs).getD k 0) yes w
      have hE : nextS cs ms k yes = if asksS ((opsI cs).getD k 0) yes = true then (if 0 ≤ ms.getD k 0 ∧ ms.getD k 0 < n then ms.getD k 0 + 1 else -1) else (k : Int) + 1 := by
        unfold nextS
        rw [if_pos (by omega), Int.toNat_natCast, hn]
      have HE := hid6 hE
      generalize (opsI cs).getD k 0 = nn at c0 hJ HE
      generalize ms.getD k 0 = y at m0 HE
      clear hE hc hk
      cases ha : asksS nn yes with
      | false =>
        rw [ha] at hJ HE
        go_enter Try.func23, Try.ntmps23
        go_wp2_with (first | (go_at_call 44; first | (refine hP.mono ?_; clear hP; rintro e w2 ⟨rfl, rfl⟩) | (refine hP2.mono ?_; clear hP2; rintro e w2 ⟨rfl, rfl⟩)) | (go_at_call 45; refine hJ.mono ?_; rintro e w2 ⟨rfl, rfl⟩) | fail)
        go_ret
        exact ⟨by rw [HE.out, if_neg (by decide)]; rfl, rfl⟩
      | true =>
        rw [ha] at hJ HE
        by_cases h2 : 0 ≤ y ∧ y < n
        · have hP3 := place_any y n true (decide_eq_true h2) w
          go_enter Try.func23, Try.ntmps23
          go_wp2_with (first | (go_at_call 44; first | (refine hP.mono ?_; clear hP; rintro e w2 ⟨rfl, rfl⟩) | (refine hP2.mono ?_; clear hP2; rintro e w2 ⟨rfl, rfl⟩) | (refine hP3.mono ?_; clear hP3; rintro e w2 ⟨rfl, rfl⟩)) | (go_at_call 45; refine hJ.mono ?_; rintro e w2 ⟨rfl, rfl⟩) | fail)
          go_ret
          exact ⟨by rw [HE.out, if_pos trivial, if_pos h2]; rfl, rfl⟩
        · have hP3 := place_any y n false (decide_eq_false h2) w
          go_enter Try.func23, Try.ntmps23
          go_wp2_with (first | (go_at_call 44; first | (refine hP.mono ?_; clear hP; rintro e w2 ⟨rfl, rfl⟩) | (refine hP2.mono ?_; clear hP2; rintro e w2 ⟨rfl, rfl⟩) | (refine hP3.mono ?_; clear hP3; rintro e w2 ⟨rfl, rfl⟩)) | (go_at_call 45; refine hJ.mono ?_; rintro e w2 ⟨rfl, rfl⟩) | fail)
          go_ret
          exact ⟨by rw [HE.out, if_pos trivial, if_neg h2]; rfl, rfl⟩
    · have hP2 := place_any x m false (decide_eq_false (fun h => h1 h.2)) w
      have HE := hid6 (show nextS cs ms x yes = -1 by unfold nextS; rw [if_neg (by omega)])
      clear hc hk
      go_enter Try.func23, Try.ntmps23
      go_wp2_with (first | (go_at_call 44; first | (refine hP.mono ?_; clear hP; rintro e w2 ⟨rfl, rfl⟩) | (refine hP2.mono ?_; clear hP2; rintro e w2 ⟨rfl, rfl⟩)) | fail)
      go_ret
      exact ⟨by rw [HE.out]; rfl, rfl⟩
  · have hP := place_any x n false (decide_eq_false h0) w
    have HE := hid6 (show nextS cs ms x yes = -1 by unfold nextS; rw [if_neg (by omega)])
    clear hc hk
    go_enter Try.func23, Try.ntmps23
    go_wp2_with (first | (go_at_call 44; refine hP.mono ?_; clear hP; rintro e w2 ⟨rfl, rfl⟩) | fail)
    go_ret
    exact ⟨by rw [HE.out]; rfl, rfl⟩
end Go.Proofs.Ytnidakplcaanfaa
namespace Go.Proofs.Ytnidakplcaanfaa
open Go.RowKit Go.Shelf
attribute [local go_sem] Oper.semAt_some
/-- The last one first. -/
def bw (ts : List Int) : Nat → List (Nat × Int)
  | 0 => []
  | k + 1 => (k, ts.getD k 0) :: bw ts k
/-- Block b, and those below B, lie as they lay. -/
def KpB (b B : Nat) (W W' : World) : Prop := ∀ k, k = b ∨ k < B → W'.heap[k]? = W.heap[k]?
theorem KpB.trans {b B : Nat} {X Y Z : World} (h : KpB b B X Y) (k : KpB b B Y Z) : KpB b B X Z := fun j hj => (k j hj).trans (h j hj)
theorem KpB.refl (b B : Nat) (W : World) : KpB b B W W := fun _ _ => rfl
theorem cell_same7 {w W : World} {a : Addr} (h : W.heap[a.block]? = w.heap[a.block]?) : W.cell? a = w.cell? a := by
  unfold World.cell?
  rw [h]
theorem cell_heap7 {W W' : World} {b o : Nat} (h : W'.heap[b]? = W.heap[b]?) : W'.cell? ⟨b, o, none⟩ = W.cell? ⟨b, o, none⟩ := by simp [World.cell?, h]
set_option maxRecDepth 100000 in
set_option maxHeartbeats 2000000 in
theorem back_feeds (n : Nat) (hn1 : 1 ≤ n) (b bS B : Nat) (ta : Option Addr) (tc m : Nat) (ts : List Int) (hm : ts.length = m) (bm : m ≤ 1000000) (W : World) (c : W.cell? ⟨bS, 0, none⟩ = some (.slice ta m tc)) (hT : ∀ W', KpB bS B W W' → NsAt W'.cell? ta ts) :
    Feeds Fence.wide n Try.prog 98 #[.pointer (some ⟨bS, 0, none⟩)] (fun x : Nat × Int => #[.int .i64 x.1, .int .i64 x.2]) b (KpB bS B) (bw ts m) W := by
  intro l J Jx _ _ hY h0
  refine callsIn_of_wp Try.func98 rfl trivial ?_ rfl
  simp only [Try.ntmps98, List.size_toArray, List.length_cons, List.length_nil, Nat.reduceAdd, Nat.reduceSub, Array.replicate_succ, Array.replicate_zero, List.push_toArray, List.append_toArray, List.nil_append, List.cons_append]
  have HT := hid7 hT
  have HC := hid7 c
  clear hT
  gi_wp2
  clear c
  gi_loopw [3] (fun iv wr => ∃ (k : Nat) (pre : List (Nat × Int)), iv = .int .i64 ((k : Int) - 1) ∧ k ≤ m ∧ Hid (bw ts m = pre ++ bw ts k) ∧ Hid (KpB bS B W wr) ∧ J pre wr) (fun iv _ => (intOf iv + 1).toNat)
  case atStart => exact ⟨m, [], by go_num, Nat.le_refl _, hid7 (by simp), hid7 (KpB.refl _ _ _), h0⟩
  case round =>
    obtain ⟨k, pre, rfl, hk, hp, hK, hj⟩ := hrel
    cases k with
    | zero =>
      have hE : Hid (J (bw ts m) wr) := hid7 (by rw [hp.out]; simpa [bw] using hj)
      gi_wp2
      go_end0
      exact ⟨⟨_, rfl⟩, .inl hE.out⟩
    | succ k =>
      have c0 : wr.cell? ⟨bS, 0, none⟩ = some (.slice ta m tc) := (cell_heap7 (hK.out bS (.inl rfl))).trans HC.out
      have hn := HT.out wr hK.out
      obtain ⟨tb, tf, rfl⟩ := ns_some hn (by omega)
      have c1 := ns_at hn k (by omega)
      have hp2 : bw ts m = pre ++ [(k, ts.getD k 0)] ++ bw ts k := by rw [hp.out]; simp [bw]
      obtain ⟨fn, tmps, assign, body, hy, hR⟩ := hY pre (k, ts.getD k 0) wr hj (by rw [hp2]; exact List.prefix_append _ _)
      have HP := hid7 hp2
      clear hp hp2 hn
      have e1 : ((k + 1 : Nat) : Int) - 1 = k := by omega
      rw [e1]
      generalize ts.getD k 0 = y at c1 hy hR HP
      gi_wp2
      refine hR.mono ?_
      rintro e W3 (⟨rfl, hJ3, hK3⟩ | ⟨rfl, hx3⟩)
      · have K4 := hid7 (hK.out.trans hK3)
        clear hK3 hR hy hj hK c0 c1
        gi_wp2
        exact ⟨⟨k, _, by go_num, by omega, HP, K4, hJ3⟩, by simp [intOf]⟩
      · gi_wp2
        refine bodyPost_ret (results_none rfl _ _ _) rfl ?_
        exact ⟨⟨_, rfl⟩, .inr ⟨_, hx3⟩⟩
end Go.Proofs.Ytnidakplcaanfaa
