/- value.guess. -/
import Derived.Test.YtkmfopdklohgnaaDoorVU
import Derived.Test.YtkmfopdklohgnaaDoorVV
import Derived.Test.YtkmfopdklohgnaaDoorVL
import Derived.Test.YtkmfopdklohgnaaDoorVSplit
import Derived.Lib.AtoiAllCases
namespace Go.Proofs.YtkmfopdklohgnaaDoor
open Go.RowKit Go.Shelf
attribute [local go_sem high] eq_val eq_val0
def wTrue : List UInt8 := [116, 114, 117, 101]
def wFalse : List UInt8 := [102, 97, 108, 115, 101]
/-- What guess reads. -/
def guessOf (s : List UInt8) : Option Val :=
  if s = wTrue then some (Val.truth true) else if s = wFalse then some (Val.truth false) else if Lib.hasPrefix s [120, 39] then readB (s.drop 2) else match Lib.atoiAll s with
    | .ok v => some ⟨1, v, []⟩
    | _ => none
/-- How guess ends: with the value, or with any and false. -/
def GuessEnd (r : Option Val) (w : World) (e : Ending) (w' : World) : Prop := ∃ x : Val, e = .returned (.tuple #[x.v, .bool r.isSome]) ∧ (∀ y, r = some y → x = y) ∧ Below w.heap.size w w'
theorem Boxed3.facts {w : World} {b : Nat} (h : Boxed3 w b) : (w.cell? ⟨b, 0, none⟩ = some (.int .i64 0) ∧ w.cell? ⟨b, 1, none⟩ = some (.int .i64 0) ∧ w.cell? ⟨b, 2, none⟩ = some (.string ⟨#[]⟩)) ∧ ∀ j, w.frozen? ⟨b, j, none⟩ = false :=
  ⟨⟨by rw [Lib.cell_of_heap h]; rfl, by rw [Lib.cell_of_heap h]; rfl, by rw [Lib.cell_of_heap h]; rfl⟩, fun j => Lib.frozen_of_heap h j⟩
theorem boxed_new {w w1 : World} (h : Below (w.alloc (Val.box ⟨0, 0, []⟩)).heap.size (w.alloc (Val.box ⟨0, 0, []⟩)) w1) : Boxed3 w1 w.heap.size := (h.block _ (by simp)).trans (World.alloc_heap_new w _)
theorem below_set3 {n b : Nat} {w W : World} {u v x : Value} (h : Below n w W) (hb : n ≤ b) : Below n w (((W.setCell ⟨b, 0, none⟩ u).setCell ⟨b, 1, none⟩ v).setCell ⟨b, 2, none⟩ x) :=
  ((h.setCell (p := ⟨b, 0, none⟩) hb _).setCell (p := ⟨b, 1, none⟩) hb _).setCell (p := ⟨b, 2, none⟩) hb _
set_option maxRecDepth 100000 in
set_option maxHeartbeats 1000000 in
theorem guess_any (s : List UInt8) (hs : s.length ≤ 1048576) (w : World) (hL : Laid w) : Calls Tryd.prog 25 #[.string ⟨s.toArray⟩] w (GuessEnd (guessOf s) w) := by
  unfold guessOf
  by_cases h1 : s = wTrue
  · rw [if_pos h1]
    have q1 : (s == [116, 114, 117, 101]) = true := by simp [h1, wTrue]
    go_enter Tryd.func25, Tryd.ntmps25
    go_wp2_with (go_at_call 22; refine (truth_any' true _).mono ?_; rintro e w' ⟨rfl, rfl⟩; simp only [Val.box, Val.v, Val.truth])
    refine ret_read (x := Val.truth true) rfl rfl rfl rfl (((val_new w (Val.truth true)).keep (keep_alloc _ _)).keep (keep_alloc _ _)) ⟨_, rfl, fun y hy => by cases hy; rfl, ?_⟩
    exact (((Below.refl _ w).alloc (Nat.le_refl _) _).alloc (by simp) _).alloc (by simp; omega) _
  rw [if_neg h1]
  have q1 : (s == [116, 114, 117, 101]) = false := by simpa [wTrue] using h1
  by_cases h2 : s = wFalse
  · rw [if_pos h2]
    have q2 : (s == [102, 97, 108, 115, 101]) = true := by simp [h2, wFalse]
    go_enter Tryd.func25, Tryd.ntmps25
    go_wp2_with (go_at_call 22; refine (truth_any' false _).mono ?_; rintro e w' ⟨rfl, rfl⟩; simp only [Val.box, Val.v, Val.truth])
    refine ret_read (x := Val.truth false) rfl rfl rfl rfl (((val_new w (Val.truth false)).keep (keep_alloc _ _)).keep (keep_alloc _ _)) ⟨_, rfl, fun y hy => by cases hy; rfl, ?_⟩
    exact (((Below.refl _ w).alloc (Nat.le_refl _) _).alloc (by simp) _).alloc (by simp; omega) _
  rw [if_neg h2]
  have q2 : (s == [102, 97, 108, 115, 101]) = false := by simpa [wFalse] using h2
  have hP : ∀ W, Calls Tryd.prog 40 #[.string ⟨s.toArray⟩, .string ⟨#[120, 39]⟩] W fun e w' => e = .returned (.bool (Lib.hasPrefix s [120, 39])) ∧ w' = W := fun W => Tryd.strings_HasPrefix ⟨s.toArray⟩ ⟨#[120, 39]⟩ W
  clear h1 h2
  cases h3 : Lib.hasPrefix s [120, 39] with
  | true =>
    rw [h3] at hP
    simp only [if_true]
    have hlen : 2 ≤ s.length := by
      have := Lib.hasPrefix_of_take s [120, 39]
      rw [h3] at this
      simp at this
      omega
    have hR := fun W => readBytes_any (s.drop 2) (by simp; omega) W
    generalize readB (s.drop 2) = r at hR ⊢
    have hcut : (⟨s.toArray⟩ : ByteArray).extract 2 s.length = ⟨(s.drop 2).toArray⟩ := cut_back s 2
    go_enter Tryd.func25, Tryd.ntmps25
    generalize hx : r.getD ⟨0, 0, []⟩ = x at hR
    go_wp2_with (first | (go_at_call 40; refine (hP _).mono ?_; rintro e w' ⟨rfl, rfl⟩) | (go_at_call 41; refine (hR _).mono ?_; rintro e w1 ⟨rfl, hb1⟩; have hB := boxed_new hb1; obtain ⟨⟨c0, c1, c2⟩, hf⟩ := hB.facts; have f0 := hf 0; have f1 := hf 1; have f2 := hf 2; simp only [Val.v]))
    refine ret_read rfl rfl rfl rfl (set_box hB x) ⟨x, rfl, fun y hy => by rw [hy] at hx; exact hx.symm, ?_⟩
    exact below_set3 (((Below.refl _ w).alloc (Nat.le_refl _) _).trans (hb1.mono (by simp))) (Nat.le_refl _)
  | false =>
    rw [h3] at hP
    simp only [Bool.false_eq_true, if_false]
    obtain ⟨tp1, p1, hv1⟩ := hL.syn
    obtain ⟨tp2, p2, hv2⟩ := hL.ran
    have hA : ∀ W, Laid W → Calls Tryd.prog 42 #[.string ⟨s.toArray⟩] W fun e w' => ∃ (n : Int) (ev : Value), e = .returned (.tuple #[.int .i64 n, ev]) ∧ (∀ v, Lib.atoiAll s = .ok v → n = v ∧ ev = .nilIface) ∧ ((∀ v, Lib.atoiAll s ≠ .ok v) → ∃ t p, ev = .iface t p) ∧ Below W.heap.size W w' := by
      intro W hW
      cases hat : Lib.atoiAll s with
      | ok v =>
        refine (Tryd.strconv_Atoi_ok ⟨s.toArray⟩ (by show s.toArray.size ≤ _; simp; omega) v hat W).mono ?_
        rintro e w' ⟨rfl, hw⟩
        refine ⟨v, .nilIface, rfl, fun u hu => by cases hu; exact ⟨rfl, rfl⟩, fun h => absurd rfl (h v), ?_⟩
        rcases hw with rfl | ⟨t, rfl⟩
        · exact Below.refl _ _
        · exact Lib.bytesWorld_below _ _ _
      | «syntax» =>
        obtain ⟨tp, p, hv⟩ := hW.syn
        refine (Tryd.strconv_Atoi_syntax_var ⟨s.toArray⟩ (by show s.toArray.size ≤ _; simp; omega) hat tp p W hv).mono ?_
        rintro e w' ⟨N, rfl, _, _, hb⟩
        exact ⟨_, _, rfl, fun u hu => by (cases hu), fun _ => ⟨_, _, rfl⟩, hb⟩
      | range =>
        obtain ⟨tp, p, hv⟩ := hW.ran
        refine (Tryd.strconv_Atoi_range_var ⟨s.toArray⟩ (by show s.toArray.size ≤ _; simp; omega) hat tp p W hv).mono ?_
        rintro e w' ⟨N, rfl, _, _, hb⟩
        exact ⟨_, _, rfl, fun u hu => by (cases hu), fun _ => ⟨_, _, rfl⟩, hb⟩
    have hL2 : Laid (w.alloc (Val.box ⟨0, 0, []⟩)) := hL.keep ((Below.refl _ w).alloc (Nat.le_refl _) _)
    have fin : ∀ (n : Int) (w1 : World), Below (w.alloc (Val.box ⟨0, 0, []⟩)).heap.size (w.alloc (Val.box ⟨0, 0, []⟩)) w1 → ∀ u v x, Below w.heap.size w ((((w1.setCell ⟨w.heap.size, 0, none⟩ u).setCell ⟨w.heap.size, 1, none⟩ v).setCell ⟨w.heap.size, 2, none⟩ x).alloc (Val.box ⟨1, n, []⟩)) := fun n w1 hb1 u v x => by
      have h := hb1.size
      simp at h
      exact (below_set3 (((Below.refl _ w).alloc (Nat.le_refl _) _).trans (hb1.mono (by simp))) (Nat.le_refl _)).alloc (by simp [World.setCell]; omega) _
    by_cases hex : ∃ v, Lib.atoiAll s = .ok v
    · obtain ⟨v, hv⟩ := hex
      rw [hv]
      have hA' : ∀ W, Laid W → Calls Tryd.prog 42 #[.string ⟨s.toArray⟩] W fun e w' => e = .returned (.tuple #[.int .i64 v, .nilIface]) ∧ Below W.heap.size W w' := fun W hW => (hA W hW).mono fun e w' ⟨n, ev, he, hok, _, hb⟩ => ⟨by rw [he, (hok v hv).1, (hok v hv).2], hb⟩
      clear hv1 hv2 hA
      go_enter Tryd.func25, Tryd.ntmps25
      go_wp2_with (first | (go_at_call 40; refine (hP _).mono ?_; rintro e w' ⟨rfl, rfl⟩) | (go_at_call 42; refine (hA' _ hL2).mono ?_; rintro e w1 ⟨rfl, hb1⟩; have hB := boxed_new hb1; obtain ⟨⟨c0, c1, c2⟩, hf⟩ := hB.facts; have f0 := hf 0; have f1 := hf 1; have f2 := hf 2; have hlt := (Array.getElem?_eq_some_iff.1 hB).1))
      go_region_with (first | (go_at_call 20; refine (number_any' _ _).mono ?_; rintro e w' ⟨rfl, rfl⟩; simp only [Val.box, Val.v]))
      all_goals go_wp2
      all_goals exact ret_read (x := ⟨1, v, []⟩) rfl rfl rfl rfl ((set_box hB ⟨1, v, []⟩).keep (keep_alloc _ _)) ⟨_, rfl, fun y hy => by cases hy; rfl, (fin v w1 hb1 _ _ _).drew⟩
    · have hA' : ∀ W, Laid W → Calls Tryd.prog 42 #[.string ⟨s.toArray⟩] W fun e w' => ∃ n t p, e = .returned (.tuple #[.int .i64 n, .iface t p]) ∧ Below W.heap.size W w' := fun W hW => (hA W hW).mono fun e w' ⟨n, ev, he, _, hbad, hb⟩ => by
        obtain ⟨t, p, rfl⟩ := hbad fun v hv => hex ⟨v, hv⟩
        exact ⟨n, t, p, he, hb⟩
      have hr : (match Lib.atoiAll s with | .ok v => some (Val.mk 1 v []) | _ => none) = none := by
        split
        · rename_i v hv
          exact absurd ⟨v, hv⟩ hex
        · rfl
      rw [hr]
      clear hv1 hv2 hA
      go_enter Tryd.func25, Tryd.ntmps25
      go_wp2_with (first | (go_at_call 40; refine (hP _).mono ?_; rintro e w' ⟨rfl, rfl⟩) | (go_at_call 42; refine (hA' _ hL2).mono ?_; rintro e w1 ⟨n, t, p, rfl, hb1⟩; have hB := boxed_new hb1; obtain ⟨⟨c0, c1, c2⟩, hf⟩ := hB.facts; have f0 := hf 0; have f1 := hf 1; have f2 := hf 2; have hlt := (Array.getElem?_eq_some_iff.1 hB).1))
      go_region_with (first | (go_at_call 20; refine (number_any' _ _).mono ?_; rintro e w' ⟨rfl, rfl⟩; simp only [Val.box, Val.v]))
      all_goals go_wp2
      all_goals exact ret_read (x := ⟨1, n, []⟩) rfl rfl rfl rfl ((set_box hB ⟨1, n, []⟩).keep (keep_alloc _ _)) ⟨_, rfl, (fun y hy => by cases hy), (fin n w1 hb1 _ _ _).drew⟩
end Go.Proofs.YtkmfopdklohgnaaDoor
