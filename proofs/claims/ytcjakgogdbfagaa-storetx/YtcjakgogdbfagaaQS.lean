/- Layer 11: a store's calls: New, Put, Get, Delete, Next, Len. -/
import Derived.Test.YtcjakgogdbfagaaQO
namespace Go.Proofs.Ytcjakgogdbfagaa
open Go.RowKit
/-- The store at sb holds these pairs. -/
structure StAt (sb tb g : Nat) (L : Kvs) (w : World) : Prop where
  box : w.heap[sb]? = some (.cells #[.pointer (some ⟨tb, 0, none⟩)] 62 (0, 0))
  t : TreeAt tb g L w
  n1 : sb ≠ tb
  n2 : sb ≠ g
section
variable {sb tb g : Nat} {L : Kvs} {w : World}
theorem StAt.c (h : StAt sb tb g L w) : w.cell? ⟨sb, 0, none⟩ = some (.pointer (some ⟨tb, 0, none⟩)) := Lib.cell_of_heap h.box 0
theorem StAt.keep {w' : World} (h : StAt sb tb g L w) (e0 : w'.heap[sb]? = w.heap[sb]?) (e1 : w'.heap[tb]? = w.heap[tb]?) (e2 : w'.heap[g]? = w.heap[g]?) : StAt sb tb g L w' := ⟨e0.trans h.box, h.t.keep e1 e2, h.n1, h.n2⟩
theorem StAt.lts (h : StAt sb tb g L w) : sb < w.heap.size ∧ tb < w.heap.size ∧ g < w.heap.size := ⟨heap_ltb h.box, h.t.lts.1, h.t.lts.2.1⟩
theorem StAt.kt {w' : World} {S : Nat → Prop} (h : StAt sb tb g L w) (k : Kt S w w') (s0 : ¬ S sb) (s1 : ¬ S tb) (s2 : ¬ S g) : StAt sb tb g L w' := h.keep (k.block _ h.lts.1 s0) (k.block _ h.lts.2.1 s1) (k.block _ h.lts.2.2 s2)
theorem StAt.drewN (h : StAt sb tb g L w) (M : Nat) : StAt sb tb g L (w.drewN M) := h.keep rfl rfl rfl
theorem StAt.below {w' : World} (h : StAt sb tb g L w) (k : Below w.heap.size w w') : StAt sb tb g L w' := h.keep (k.block _ h.lts.1) (k.block _ h.lts.2.1) (k.block _ h.lts.2.2)
end
theorem stmade_any (sb : Nat) (w : World) (t : Nat) (c : w.cell? ⟨sb, 0, none⟩ = some (.pointer (some ⟨t, 0, none⟩))) : Calls Try.prog 26 #[.pointer (some ⟨sb, 0, none⟩)] w fun e w' => e = .returned (.bool true) ∧ w' = w := by
  go_enter Try.func26, Try.ntmps26
  go_wp2_with fail
  go_ret
  exact ⟨rfl, rfl⟩
def longB (k v : Bt) : Bool := decide (32 < k.length) || decide (256 < v.length)
theorem long_small {k v : Bt} (h : longB k v = false) : k.length ≤ 281474976710656 ∧ v.length ≤ 281474976710656 := by
  unfold longB at h
  simp at h
  omega
theorem isLong_any (k v : Bt) (w : World) (hk : k.length ≤ 9223372036854775807) (hv : v.length ≤ 9223372036854775807) : Calls Try.prog 33 #[sv k, sv v] w fun e w' => e = .returned (.bool (longB k v)) ∧ w' = w := by
  unfold longB
  by_cases h : 32 < k.length
  · go_enter Try.func33, Try.ntmps33
    go_wp2_with fail
    go_ret
    exact ⟨by simp, rfl⟩
  · have hd : decide ((32 : Int) < k.length) = false := by simp; omega
    by_cases h2 : 256 < v.length
    · have hd2 : decide ((256 : Int) < v.length) = true := by simp; omega
      go_enter Try.func33, Try.ntmps33
      go_wp2_with fail
      go_ret
      exact ⟨by simp [h, h2], rfl⟩
    · have hd2 : decide ((256 : Int) < v.length) = false := by simp; omega
      go_enter Try.func33, Try.ntmps33
      go_wp2_with fail
      go_ret
      exact ⟨by simp [h, h2], rfl⟩
theorem new_any (w : World) : Calls Try.prog 24 #[] w fun e w' => ∃ sb, e = .returned (.pointer (some ⟨sb, 0, none⟩)) ∧ Hid (∃ tb g, StAt sb tb g [] w' ∧ w.heap.size ≤ sb ∧ w.heap.size ≤ tb ∧ w.heap.size ≤ g ∧ Below w.heap.size w w') := by
  have HN := hidb (newTree_any w)
  go_enter Try.func24, Try.ntmps24
  go_wp2_with (go_at_call 53; refine HN.out.mono ?_; clear HN; rintro e w1 ⟨tb, rfl, K1⟩)
  go_ret
  obtain ⟨g, t, h1, h2, h3⟩ := K1.out
  have hb := (Below.refl w1.heap.size w1).alloc (Nat.le_refl _) (.cells #[.pointer (some ⟨tb, 0, none⟩)] 62)
  have := h3.size
  exact ⟨_, rfl, hidb ⟨tb, g, ⟨heap_alloc_new w1 _, t.below hb, by have := t.lts; omega, by have := t.lts; omega⟩, by omega, h1, h2, h3.alloc (by omega) _⟩⟩
/-- What a call of a store that may change it leaves. -/
def SEnd (sb tb g : Nat) (L' : Kvs) (v : Value) (w : World) (e : Ending) (w' : World) : Prop := e = .returned v ∧ Hid (∃ g', StAt sb tb g' L' w' ∧ (g' = g ∨ w.heap.size ≤ g') ∧ Kt (fun i => i = tb ∨ i = g) w w')
/-- What Put answers, and what is there then. -/
def putE (L : Kvs) (k v : Bt) : Int := if longB k v then 41 else if getL L k = none ∧ 512 ≤ L.length then 45 else 0
def putS (L : Kvs) (k v : Bt) : Kvs := if longB k v then L else if getL L k = none ∧ 512 ≤ L.length then L else putL L k v
theorem StAt.same {sb tb g : Nat} {L : Kvs} {w w' : World} (h : StAt sb tb g L w) (m : ∃ m, w' = w.drewN m) (v : Value) : SEnd sb tb g L v w (.returned v) w' := by
  obtain ⟨m, rfl⟩ := m
  exact ⟨rfl, hidb ⟨g, h.drewN m, .inl rfl, (Kt.refl _ w).drewN m⟩⟩
set_option maxRecDepth 100000 in
set_option maxHeartbeats 1000000 in
theorem sput_any (sb tb g : Nat) (L : Kvs) (w : World) (k v : Bt) (h : StAt sb tb g L w) (hk : k.length ≤ 9223372036854775807) (hv : v.length ≤ 9223372036854775807) (hL : L.length ≤ 512) :
    Calls Try.prog 25 #[.pointer (some ⟨sb, 0, none⟩), sv k, sv v] w (SEnd sb tb g (putS L k v) (.int .i64 (putE L k v)) w) := by
  have c := h.c
  have HM := hidb (stmade_any sb w tb c)
  have HI := hidb (isLong_any k v w hk hv)
  unfold putE putS
  cases hl : longB k v with
  | true =>
    have HE : Hid (SEnd sb tb g L (.int .i64 41) w (.returned (.int .i64 41)) w) := hidb (h.same ⟨0, rfl⟩ _)
    rw [hl] at HI
    simp only [if_true]
    clear h
    go_enter Try.func25, Try.ntmps25
    go_wp2_with (first
      | (go_at_call 26; refine HM.out.mono ?_; clear HM; rintro e w1 ⟨rfl, rfl⟩)
      | (go_at_call 33; refine HI.out.mono ?_; clear HI; rintro e w1 ⟨rfl, rfl⟩)
      | fail)
    go_ret
    exact HE.out
  | false =>
    rw [hl] at HI
    simp only [Bool.false_eq_true, if_false]
    have HH := hidb (has_t tb g L w k h.t)
    have HC := hidb fun M => count_t tb g L (w.drewN M) (h.t.drewN M)
    have HP : Hid (∀ M, Calls Try.prog 36 #[.pointer (some ⟨tb, 0, none⟩), sv k, sv v] (w.drewN M) fun e w' => e = .returned (.tuple #[]) ∧ Hid (SEnd sb tb g (putL L k v) (.int .i64 0) w (.returned (.int .i64 0)) w')) := hidb fun M =>
      (put_any tb g L (w.drewN M) k v (h.t.drewN M) (long_small hl).1 (long_small hl).2 (by omega)).mono fun e w' ⟨e1, H⟩ => ⟨e1, by
        obtain ⟨g', t, x, y⟩ := H.out
        refine hidb ⟨rfl, hidb ⟨g', ⟨(y.block sb h.lts.1 (by rintro (e | e); exact h.n1 e; exact h.n2 e)).trans h.box, t, h.n1, ?_⟩, x, ((Kt.refl _ w).drewN M).trans y fun _ _ z => z⟩⟩
        rcases x with x | x
        · rw [x]; exact h.n2
        · have := h.lts.1
          have : w.heap.size ≤ g' := x
          omega⟩
    have HE : Hid (∀ M, SEnd sb tb g L (.int .i64 45) w (.returned (.int .i64 45)) (w.drewN M)) := hidb fun M => h.same ⟨M, rfl⟩ _
    clear h
    by_cases hg : getL L k = none ∧ 512 ≤ L.length
    · rw [if_pos hg, if_pos hg]
      have hlen : L.length = 512 := by omega
      rw [hg.1] at HH
      rw [hlen] at HC
      clear hg hL HP
      go_enter Try.func25, Try.ntmps25
      go_wp2_with (first
        | (go_at_call 26; refine HM.out.mono ?_; clear HM; rintro e w1 ⟨rfl, rfl⟩)
        | (go_at_call 33; refine HI.out.mono ?_; clear HI; rintro e w1 ⟨rfl, rfl⟩)
        | (go_at_call 39; refine HH.out.mono ?_; clear HH; rintro e w2 ⟨rfl, m2, rfl⟩)
        | (go_at_call 34; refine (HC.out _).mono ?_; clear HC; rintro e w3 ⟨rfl, rfl⟩)
        | fail)
      go_ret
      exact HE.out _
    · rw [if_neg hg, if_neg hg]
      clear HE
      cases hs : getL L k with
      | some u =>
        rw [hs] at HH
        clear hg HC
        go_enter Try.func25, Try.ntmps25
        go_wp2_with (first
          | (go_at_call 26; refine HM.out.mono ?_; clear HM; rintro e w1 ⟨rfl, rfl⟩)
          | (go_at_call 33; refine HI.out.mono ?_; clear HI; rintro e w1 ⟨rfl, rfl⟩)
          | (go_at_call 39; refine HH.out.mono ?_; clear HH; rintro e w2 ⟨rfl, m2, rfl⟩)
          | (go_at_call 36; refine (HP.out _).mono ?_; clear HP; rintro e w3 ⟨rfl, K3⟩)
          | fail)
        go_ret
        exact K3.out
      | none =>
        rw [hs] at HH
        have hlen : L.length < 512 := by
          rcases Nat.lt_or_ge L.length 512 with x | x
          · exact x
          · exact absurd ⟨hs, x⟩ hg
        have hd : decide ((512 : Int) ≤ (L.length : Int)) = false := by simp; omega
        clear hg hL hs
        generalize L.length = ln at *
        go_enter Try.func25, Try.ntmps25
        go_wp2_with (first
          | (go_at_call 26; refine HM.out.mono ?_; clear HM; rintro e w1 ⟨rfl, rfl⟩)
          | (go_at_call 33; refine HI.out.mono ?_; clear HI; rintro e w1 ⟨rfl, rfl⟩)
          | (go_at_call 39; refine HH.out.mono ?_; clear HH; rintro e w2 ⟨rfl, m2, rfl⟩)
          | (go_at_call 34; refine (HC.out _).mono ?_; clear HC; rintro e w4 ⟨rfl, rfl⟩)
          | (go_at_call 36; refine (HP.out _).mono ?_; clear HP; rintro e w3 ⟨rfl, K3⟩)
          | fail)
        go_ret
        exact K3.out
theorem sget_any (sb tb g : Nat) (L : Kvs) (w : World) (k : Bt) (h : StAt sb tb g L w) : Calls Try.prog 29 #[.pointer (some ⟨sb, 0, none⟩), sv k] w fun e w' => e = .returned (.tuple #[sv ((getL L k).getD []), .bool (getL L k).isSome]) ∧ ∃ m, w' = w.drewN m := by
  have c := h.c
  have HM := hidb (stmade_any sb w tb c)
  have HG := hidb (get_t tb g L w k h.t)
  clear h
  generalize (getL L k).getD [] = v at *
  generalize (getL L k).isSome = b at *
  go_enter Try.func29, Try.ntmps29
  go_wp2_with (first
    | (go_at_call 26; refine HM.out.mono ?_; clear HM; rintro e w1 ⟨rfl, rfl⟩)
    | (go_at_call 40; refine HG.out.mono ?_; clear HG; rintro e w2 ⟨rfl, m2, rfl⟩)
    | fail)
  go_ret2
  exact ⟨rfl, m2, rfl⟩
theorem snext_any (sb tb g : Nat) (L : Kvs) (w : World) (k : Bt) (h : StAt sb tb g L w) : Calls Try.prog 28 #[.pointer (some ⟨sb, 0, none⟩), sv k] w fun e w' => e = .returned (.tuple #[sv ((nextL L k).getD []), .bool (nextL L k).isSome]) ∧ ∃ m, w' = w.drewN m := by
  have c := h.c
  have HM := hidb (stmade_any sb w tb c)
  have HG := hidb (next_t tb g L w k h.t)
  clear h
  generalize (nextL L k).getD [] = v at *
  generalize (nextL L k).isSome = b at *
  go_enter Try.func28, Try.ntmps28
  go_wp2_with (first
    | (go_at_call 26; refine HM.out.mono ?_; clear HM; rintro e w1 ⟨rfl, rfl⟩)
    | (go_at_call 41; refine HG.out.mono ?_; clear HG; rintro e w2 ⟨rfl, m2, rfl⟩)
    | fail)
  go_ret2
  exact ⟨rfl, m2, rfl⟩
theorem slen_any (sb tb g : Nat) (L : Kvs) (w : World) (h : StAt sb tb g L w) : Calls Try.prog 30 #[.pointer (some ⟨sb, 0, none⟩)] w fun e w' => e = .returned (.int .i64 (L.length : Nat)) ∧ w' = w := by
  have c := h.c
  have HM := hidb (stmade_any sb w tb c)
  have HG := hidb (count_t tb g L w h.t)
  clear h
  generalize L.length = v at *
  go_enter Try.func30, Try.ntmps30
  go_wp2_with (first
    | (go_at_call 26; refine HM.out.mono ?_; clear HM; rintro e w1 ⟨rfl, rfl⟩)
    | (go_at_call 34; refine HG.out.mono ?_; clear HG; rintro e w2 ⟨rfl, rfl⟩)
    | fail)
  go_ret
  exact ⟨rfl, rfl⟩
end Go.Proofs.Ytcjakgogdbfagaa
