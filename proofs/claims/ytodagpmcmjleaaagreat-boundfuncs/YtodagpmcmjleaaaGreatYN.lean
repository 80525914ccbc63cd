/- Layer 9, plain: the document's levels, as they lie in a row. What the document's table of costs comes to. -/
import Derived.Test.YtodagpmcmjleaaaGreatYA
import Derived.WalkKit
import Derived.WalkSpells
import Derived.WalkLawsBesides
import Derived.BigQuiet
import Derived.Deep.QuietTactic
import Derived.Deep.RegionWith
import Derived.Maps.AppendAt
import Derived.OwnWalk
namespace Go.Proofs.YtodagpmcmjleaaaGreat
open Go.RowKit
/-- A level of the document: its kind, how often, the sum so far, what stood ahead of its else, and whether there was one. -/
structure DL where
  (op t : Int) (s th : Nat) (o : Bool)
def dclosed (b : DL) : Nat :=
  if b.op = 51 then cut (costN 51 + cut (min b.t.toNat TM * cut (b.s + costN 50)))
  else if b.o = true then cut (costN b.op + max b.th (cut (b.s + costN 50)))
  else cut (costN b.op + cut (b.s + costN 50))
def dstep (cal : List Int) (x : Int × Int) : List DL → List DL
  | [] => []
  | b :: r =>
    if x.1 = 48 ∨ x.1 = 51 then ⟨x.1, x.2, 0, 0, false⟩ :: b :: r
    else if x.1 = 49 then { b with th := cut (b.s + costN 49), s := 0, o := true } :: r
    else if x.1 = 50 then (match r with | p :: q => { p with s := cut (p.s + dclosed b) } :: q | [] => [b])
    else if x.1 = 53 then { b with s := cut (b.s + costN 53 + cut (cal.getD x.2.toNat 0).toNat) } :: r
    else { b with s := cut (b.s + costN x.1) } :: r
def LvR (d : DL) (b : Lev) : Prop := d.s = b.s ∧ d.s ≤ TM ∧ d.th ≤ TM ∧ (b.l = true → d.op = 51 ∧ d.t = b.t) ∧ (b.l = false → d.op = 48) ∧ b.e = (if d.o = true then some d.th else none)
def LvB (d : DL) (b : Lev) : Prop := d.s = b.s ∧ d.s ≤ TM ∧ d.th ≤ TM
def StR : List DL → List Lev → Prop
  | d :: ds, b :: bs => (if ds = [] then LvB d b ∧ bs = [] else LvR d b ∧ StR ds bs)
  | _, _ => False
theorem dclosed_eq {d : DL} {b : Lev} (h : LvR d b) : dclosed d = closed9 b := by
  obtain ⟨h1, _, _, h2, h3, h4⟩ := h
  unfold dclosed closed9
  cases hl : b.l with
  | true =>
    obtain ⟨e1, e2⟩ := h2 hl
    rw [if_pos e1, if_pos rfl, e2, h1]
  | false =>
    have e1 := h3 hl
    rw [if_neg (by omega), e1, h4, h1]
    cases d.o <;> rfl
theorem dclosed_le (d : DL) : dclosed d ≤ TM := by
  unfold dclosed
  split
  · exact cut_le _
  · split <;> exact cut_le _
theorem str_len {S : List DL} : ∀ {T : List Lev}, StR S T → S.length = T.length := by
  induction S with
  | nil => intro T h; cases T <;> cases h
  | cons d ds ih =>
    intro T h
    cases T with
    | nil => cases h
    | cons b bs =>
      unfold StR at h
      split at h
      · rename_i e; rw [e, h.2]; simp
      · rw [List.length_cons, List.length_cons, ih h.2]
theorem str_cons {d : DL} {ds : List DL} {T : List Lev} (h : StR (d :: ds) T) : ∃ b bs, T = b :: bs ∧ LvB d b ∧ (ds = [] → bs = []) ∧ (ds ≠ [] → LvR d b ∧ StR ds bs) := by
  cases T with
  | nil => cases h
  | cons b bs =>
    unfold StR at h
    split at h
    · rename_i e; exact ⟨b, bs, rfl, h.1, fun _ => h.2, fun q => absurd e q⟩
    · rename_i e; exact ⟨b, bs, rfl, ⟨h.1.1, h.1.2.1, h.1.2.2.1⟩, fun q => absurd q e, fun _ => h⟩
theorem str_mk {d : DL} {ds : List DL} {b : Lev} {bs : List Lev} (hB : LvB d b) (h1 : ds = [] → bs = []) (h2 : ds ≠ [] → LvR d b ∧ StR ds bs) : StR (d :: ds) (b :: bs) := by
  unfold StR
  split
  · rename_i e; exact ⟨hB, h1 e⟩
  · rename_i e; exact h2 e
/-- One instruction: the two go together. -/
theorem dstep_rel {cal : List Int} {x : Int × Int} {S : List DL} {T : List Lev} (h : StR S T) (hx : x.1 = 50 → 2 ≤ S.length) : StR (dstep cal x S) (lstep cal x T) := by
  cases S with
  | nil => cases T <;> cases h
  | cons d r =>
    have hS := h
    obtain ⟨b, bs, rfl, hB, hn, hr⟩ := str_cons h
    by_cases c1 : x.1 = 48 ∨ x.1 = 51
    · rw [lstep_open c1]; simp only [dstep]; rw [if_pos c1]
      refine str_mk ⟨rfl, Nat.zero_le _, Nat.zero_le _⟩ (fun q => by cases q) fun _ => ⟨⟨rfl, Nat.zero_le _, Nat.zero_le _, fun q => ⟨by simpa using q, rfl⟩, fun q => ?_, rfl⟩, hS⟩
      have : x.1 ≠ 51 := by simpa using q
      show x.1 = 48
      omega
    by_cases c2 : x.1 = 49
    · rw [lstep_else c2]; simp only [dstep]; rw [if_neg c1, if_pos c2]
      refine str_mk ⟨rfl, Nat.zero_le _, cut_le _⟩ hn fun q => ⟨⟨rfl, Nat.zero_le _, cut_le _, (hr q).1.2.2.2.1, (hr q).1.2.2.2.2.1, ?_⟩, (hr q).2⟩
      simp [hB.1]
    by_cases c3 : x.1 = 50
    · have h2 := hx c3
      cases r with
      | nil => simp at h2
      | cons p q =>
        obtain ⟨l1, l2⟩ := hr (by simp)
        obtain ⟨b2, bs2, rfl, hB2, hn2, hr2⟩ := str_cons l2
        rw [lstep_end c3]; simp only [dstep]; rw [if_neg c1, if_neg c2, if_pos c3]
        have e : cut (p.s + dclosed d) = cut (b2.s + closed9 b) := by rw [dclosed_eq l1, hB2.1]
        exact str_mk ⟨e, cut_le _, hB2.2.2⟩ hn2 fun q => ⟨⟨e, cut_le _, hB2.2.2, (hr2 q).1.2.2.2.1, (hr2 q).1.2.2.2.2.1, (hr2 q).1.2.2.2.2.2⟩, (hr2 q).2⟩
    by_cases c4 : x.1 = 53
    · rw [lstep_call c4]; simp only [dstep]; rw [if_neg c1, if_neg c2, if_neg c3, if_pos c4]
      have e : cut (d.s + costN 53 + cut (cal.getD x.2.toNat 0).toNat) = cut (b.s + costN 53 + (cal.getD x.2.toNat 0).toNat) := by rw [cut_add, hB.1]
      exact str_mk ⟨e, cut_le _, hB.2.2⟩ hn fun q => ⟨⟨e, cut_le _, hB.2.2, (hr q).1.2.2.2.1, (hr q).1.2.2.2.2.1, (hr q).1.2.2.2.2.2⟩, (hr q).2⟩
    · rw [lstep_plain (fun e => c1 (.inl e)) c2 c3 (fun e => c1 (.inr e)) c4]; simp only [dstep]; rw [if_neg c1, if_neg c2, if_neg c3, if_neg c4]
      have e : cut (d.s + costN x.1) = cut (b.s + costN x.1) := by rw [hB.1]
      exact str_mk ⟨e, cut_le _, hB.2.2⟩ hn fun q => ⟨⟨e, cut_le _, hB.2.2, (hr q).1.2.2.2.1, (hr q).1.2.2.2.2.1, (hr q).1.2.2.2.2.2⟩, (hr q).2⟩
/-- Where the document's loop stands, behind i instructions. -/
def AtD (cal : List Int) (cs : List (Int × Int)) (i : Nat) (S : List DL) : Prop := StR S (lrun cal (cs.take i) [base0]) ∧ ∃ L, arun (cs.take i) [] = some L ∧ S.length = L.length + 1
def dbase : DL := ⟨0, 0, 0, 0, false⟩
theorem atD_start (cal : List Int) (cs : List (Int × Int)) : AtD cal cs 0 [dbase] := by
  rw [AtD, List.take_zero]
  exact ⟨str_mk ⟨rfl, Nat.zero_le _, Nat.zero_le _⟩ (fun _ => rfl) (fun q => absurd rfl q), [], rfl, rfl⟩
theorem atD_pos {cal : List Int} {cs : List (Int × Int)} {i : Nat} {S : List DL} (h : AtD cal cs i S) : ∃ b r, S = b :: r := by
  obtain ⟨_, L, _, hl⟩ := h
  cases S with
  | nil => simp at hl
  | cons b r => exact ⟨b, r, rfl⟩
theorem atD_end {cal : List Int} {cs : List (Int × Int)} (hg : goodS cs = true) {i : Nat} {S : List DL} (h : AtD cal cs i S) (hi : i < cs.length) (hx : cs[i].1 = 50) : ∃ b p r, S = b :: p :: r := by
  obtain ⟨_, L, ar, hl⟩ := h
  have := (good_stand hg hi ar).1
  unfold astand at this
  rw [if_neg (by omega), if_neg (by omega), if_pos hx] at this
  have : 0 < L.length := by simpa using this
  match S, hl with
  | [], hl => simp at hl
  | [_], hl => rw [List.length_singleton] at hl; exfalso; omega
  | b :: p :: r, _ => exact ⟨b, p, r, rfl⟩
theorem atD_step {cal : List Int} {cs : List (Int × Int)} (hg : goodS cs = true) {i : Nat} {S : List DL} (h : AtD cal cs i S) (hi : i < cs.length) : AtD cal cs (i + 1) (dstep cal cs[i] S) := by
  have h0 := h
  obtain ⟨h1, L, ar, hl⟩ := h
  have hx : cs[i].1 = 50 → 2 ≤ S.length := fun e => by
    obtain ⟨b, p, r, rfl⟩ := atD_end hg h0 hi e
    simp
  obtain ⟨s1, s2⟩ := good_stand hg hi ar
  refine ⟨?_, _, s2, ?_⟩
  · rw [List.take_succ_eq_append_getElem hi, lrun_append, lrun_one]
    exact dstep_rel h1 hx
  · obtain ⟨b, r, rfl⟩ := atD_pos h0
    simp only [dstep]
    unfold astep
    split
    · simp only [List.length_cons] at *; omega
    · split
      · rename_i c1 c2
        unfold astand at s1
        rw [if_neg c1, if_pos c2] at s1
        cases L with
        | nil => cases s1
        | cons y z => simp only [List.length_cons] at *; omega
      · split
        · rename_i c1 c2 c3
          obtain ⟨b', p, q, e⟩ := atD_end hg h0 hi c3
          cases e
          simp only [List.length_cons, List.length_tail] at *; omega
        · split <;> simp only [List.length_cons] at * <;> omega
theorem arun_len : ∀ (a : List (Int × Int)) (L M : List (Bool × Bool)), arun a L = some M → M.length ≤ L.length + a.length
  | [], L, M, h => by cases h; simp
  | x :: a, L, M, h => by
    rw [arun] at h
    split at h
    · have ih := arun_len a _ M h
      have : (astep x.1 L).length ≤ L.length + 1 := by
        unfold astep
        split
        · simp
        · split
          · cases L <;> simp
          · split <;> simp; omega
      rw [List.length_cons]
      omega
    · cases h
theorem atD_len {cal : List Int} {cs : List (Int × Int)} {i : Nat} {S : List DL} (h : AtD cal cs i S) (hi : i ≤ cs.length) : S.length ≤ i + 1 := by
  obtain ⟨_, L, ar, hl⟩ := h
  have := arun_len _ _ _ ar
  simp at this
  omega
theorem atD_done {cal : List Int} {cs : List (Int × Int)} (hg : goodS cs = true) {S : List DL} (h : AtD cal cs cs.length S) : ∃ b, S = [b] ∧ b.s = gasS cal cs := by
  obtain ⟨h1, L, ar, hl⟩ := h
  rw [List.take_length] at h1 ar
  rw [(good_abs cs).1 hg] at ar
  cases ar
  obtain ⟨b, e⟩ := List.length_eq_one_iff.1 hl
  subst e
  obtain ⟨c, cs2, e2, hB, hn, _⟩ := str_cons h1
  refine ⟨b, rfl, ?_⟩
  rw [gasS, e2, hn rfl]
  exact hB.1
end Go.Proofs.YtodagpmcmjleaaaGreat
namespace Go.Proofs.YtodagpmcmjleaaaGreat
open Go.RowKit
theorem cell_cost9 (w : World) (k : Nat) (hk : k < 54) : (w.alloc (.cells #[.int .i64 0, .int .i64 1, .int .i64 1, .int .i64 1, .int .i64 1, .int .i64 1, .int .i64 1, .int .i64 1, .int .i64 1, .int .i64 1, .int .i64 1, .int .i64 1, .int .i64 1, .int .i64 2, .int .i64 4, .int .i64 4, .int .i64 1, .int .i64 1, .int .i64 1, .int .i64 1, .int .i64 1, .int .i64 1, .int .i64 1, .int .i64 1, .int .i64 1, .int .i64 1, .int .i64 1, .int .i64 1, .int .i64 1, .int .i64 1, .int .i64 1, .int .i64 1, .int .i64 1, .int .i64 6, .int .i64 6, .int .i64 2, .int .i64 4, .int .i64 4, .int .i64 3, .int .i64 3, .int .i64 2, .int .i64 20, .int .i64 15, .int .i64 30, .int .i64 25, .int .i64 20, .int .i64 10, .int .i64 1, .int .i64 1, .int .i64 1, .int .i64 1, .int .i64 2, .int .i64 1, .int .i64 5] 3)).cell? ⟨w.heap.size, k, none⟩ = some (.int .i64 (costTab.getD k 0)) := by
  rw [cell_of_row _ _ k _ _ (0, 0) (heap_alloc_new w _)]
  have e : (#[.int .i64 0, .int .i64 1, .int .i64 1, .int .i64 1, .int .i64 1, .int .i64 1, .int .i64 1, .int .i64 1, .int .i64 1, .int .i64 1, .int .i64 1, .int .i64 1, .int .i64 1, .int .i64 2, .int .i64 4, .int .i64 4, .int .i64 1, .int .i64 1, .int .i64 1, .int .i64 1, .int .i64 1, .int .i64 1, .int .i64 1, .int .i64 1, .int .i64 1, .int .i64 1, .int .i64 1, .int .i64 1, .int .i64 1, .int .i64 1, .int .i64 1, .int .i64 1, .int .i64 1, .int .i64 6, .int .i64 6, .int .i64 2, .int .i64 4, .int .i64 4, .int .i64 3, .int .i64 3, .int .i64 2, .int .i64 20, .int .i64 15, .int .i64 30, .int .i64 25, .int .i64 20, .int .i64 10, .int .i64 1, .int .i64 1, .int .i64 1, .int .i64 1, .int .i64 2, .int .i64 1, .int .i64 5] : Array Value) = (costTab.map fun x => .int .i64 x).toArray := rfl
  rw [e]
  have hl : k < costTab.length := hk
  simp [List.getD, hl]
set_option maxHeartbeats 1000000 in
theorem rcost9_any (n : Int) (w : World) : Calls Tryz.prog 29 #[.int .i64 n] w fun e w' => e = .returned (.int .i64 (costT n)) ∧ Below w.heap.size w w' := by
  by_cases h1 : n < 1
  · rw [show costT n = 0 from rowOf_none _ _ n (.inl h1)]
    go_enter Tryz.func29, Tryz.ntmps29
    go_wp2
    go_ret
    exact ⟨rfl, (Below.refl _ w).alloc (Nat.le_refl _) _⟩
  by_cases h2 : 53 < n
  · rw [show costT n = 0 from rowOf_none _ _ n (.inr h2)]
    go_enter Tryz.func29, Tryz.ntmps29
    go_wp2
    go_ret
    exact ⟨rfl, (Below.refl _ w).alloc (Nat.le_refl _) _⟩
  obtain ⟨k, rfl⟩ : ∃ k : Nat, n = k := ⟨n.toNat, by omega⟩
  have hk : k < 54 := by omega
  have hc := cell_cost9 w k hk
  rw [show costT k = costTab.getD k 0 from by unfold costT rowOf; rw [if_pos (by omega)]; simp]
  generalize costTab.getD k 0 = r at *
  go_enter Tryz.func29, Tryz.ntmps29
  go_wp2
  go_ret
  exact ⟨rfl, (Below.refl _ w).alloc (Nat.le_refl _) _⟩
end Go.Proofs.YtodagpmcmjleaaaGreat
