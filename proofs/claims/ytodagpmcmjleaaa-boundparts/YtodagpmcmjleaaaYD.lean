/- Layer 9, plainly: what the closure of gasOf has added up, place by place. -/
import Derived.Test.YtodagpmcmjleaaaYB
namespace Go.Proofs.Ytodagpmcmjleaaa
def seg9 (cs : List (Int × Int)) (a m : Nat) : List (Int × Int) := (cs.take m).drop a
theorem seg9_same (cs : List (Int × Int)) (a : Nat) : seg9 cs a a = [] := by
  unfold seg9
  rw [List.drop_eq_nil_iff]
  simp
  omega
theorem seg9_snoc {cs : List (Int × Int)} {a k : Nat} (h : a ≤ k) (hk : k < cs.length) : seg9 cs a (k + 1) = seg9 cs a k ++ [cs[k]] := by
  unfold seg9
  rw [List.take_succ_eq_append_getElem hk, List.drop_append_of_le_length (by simp; omega)]
theorem seg9_cat {cs : List (Int × Int)} {a k m : Nat} (h : a ≤ k) (h2 : k ≤ m) (hk : k ≤ cs.length) : seg9 cs a m = seg9 cs a k ++ seg9 cs k m := by
  unfold seg9
  have e1 : (cs.take m).take k = cs.take k := by rw [List.take_take, Nat.min_eq_left h2]
  have h3 : (cs.take m) = (cs.take m).take k ++ (cs.take m).drop k := (List.take_append_drop _ _).symm
  conv => lhs; rw [h3, e1]
  rw [List.drop_append_of_le_length (by rw [List.length_take]; omega)]
theorem lstep_open {cal : List Int} {x : Int × Int} (h : x.1 = 48 ∨ x.1 = 51) (b : Lev) (R : List Lev) : lstep cal x (b :: R) = ⟨decide (x.1 = 51), x.2, 0, none⟩ :: b :: R := by
  simp only [lstep]; rw [if_pos h]
theorem lstep_else {cal : List Int} {x : Int × Int} (h : x.1 = 49) (b : Lev) (R : List Lev) : lstep cal x (b :: R) = { b with e := some (cut (b.s + costN 49)), s := 0 } :: R := by
  simp only [lstep]; rw [if_neg (by omega), if_pos h]
theorem lstep_end {cal : List Int} {x : Int × Int} (h : x.1 = 50) (b p : Lev) (R : List Lev) : lstep cal x (b :: p :: R) = { p with s := cut (p.s + closed9 b) } :: R := by
  simp only [lstep]; rw [if_neg (by omega), if_neg (by omega), if_pos h]
theorem lstep_call {cal : List Int} {x : Int × Int} (h : x.1 = 53) (b : Lev) (R : List Lev) : lstep cal x (b :: R) = { b with s := cut (b.s + costN 53 + (cal.getD x.2.toNat 0).toNat) } :: R := by
  simp only [lstep]; rw [if_neg (by omega), if_neg (by omega), if_neg (by omega), if_pos h]
theorem lstep_plain {cal : List Int} {x : Int × Int} (h1 : x.1 ≠ 48) (h2 : x.1 ≠ 49) (h3 : x.1 ≠ 50) (h4 : x.1 ≠ 51) (h5 : x.1 ≠ 53) (b : Lev) (R : List Lev) : lstep cal x (b :: R) = { b with s := cut (b.s + costN x.1) } :: R := by
  simp only [lstep]; rw [if_neg (by omega), if_neg h2, if_neg h3, if_neg h5]
theorem astep_open {n : Int} (h : n = 48 ∨ n = 51) (L : List (Bool × Bool)) : astep n L = (decide (n = 51), false) :: L := by
  unfold astep; rw [if_pos h]
theorem astep_plain {n : Int} (h1 : n ≠ 48) (h2 : n ≠ 49) (h3 : n ≠ 50) (h4 : n ≠ 51) (L : List (Bool × Bool)) : astep n L = L := by
  unfold astep; rw [if_neg (by omega), if_neg h2, if_neg h3]
/-- From place a on, at k: g is added up, and the open blocks are those of a. -/
structure PI (cal : List Int) (cs : List (Int × Int)) (a k g : Nat) (L : List (Bool × Bool)) : Prop where
  le : a ≤ k
  kn : k ≤ cs.length
  ar : arun (cs.take k) [] = some L
  lr : ∀ l t s e R, s ≤ TM → lrun cal (seg9 cs a k) (⟨l, t, s, e⟩ :: R) = ⟨l, t, cut (s + g), e⟩ :: R
  gl : g ≤ TM
theorem PI.lr0 {cal : List Int} {cs : List (Int × Int)} {a k g : Nat} {L : List (Bool × Bool)} (h : PI cal cs a k g L) (l t e R) : lrun cal (seg9 cs a k) (⟨l, t, 0, e⟩ :: R) = ⟨l, t, g, e⟩ :: R := by
  rw [h.lr l t 0 e R (Nat.zero_le _), Nat.zero_add, cut_id h.gl]
theorem pi_start {cal : List Int} {cs : List (Int × Int)} {a : Nat} {L : List (Bool × Bool)} (h : a ≤ cs.length) (ar : arun (cs.take a) [] = some L) : PI cal cs a a 0 L :=
  ⟨Nat.le_refl _, h, ar, fun l t s e R hs => by rw [seg9_same, Nat.add_zero, cut_id hs]; rfl, Nat.zero_le _⟩
theorem good_stand {cs : List (Int × Int)} (hg : goodS cs = true) {k : Nat} (hk : k < cs.length) {L : List (Bool × Bool)} (ar : arun (cs.take k) [] = some L) : astand cs[k].1 L = true ∧ arun (cs.take (k + 1)) [] = some (astep cs[k].1 L) := by
  have h := (good_abs cs).1 hg
  have e : cs = cs.take k ++ (cs[k] :: cs.drop (k + 1)) := by rw [List.getElem_cons_drop, List.take_append_drop]
  have h2 : arun (cs.take k ++ (cs[k] :: cs.drop (k + 1))) [] = some [] := by rw [← e]; exact h
  rw [arun_append, ar, Option.bind_some, arun] at h2
  have hs : astand cs[k].1 L = true := by
    by_cases q : astand cs[k].1 L = true
    · exact q
    · rw [if_neg q] at h2; cases h2
  refine ⟨hs, ?_⟩
  rw [List.take_succ_eq_append_getElem hk, arun_append, ar, Option.bind_some, arun, if_pos hs]
  rfl
theorem good_end {cs : List (Int × Int)} (hg : goodS cs = true) {L : List (Bool × Bool)} (ar : arun (cs.take cs.length) [] = some L) : L = [] := by
  have h := (good_abs cs).1 hg
  rw [List.take_length, h] at ar
  cases ar
  rfl
theorem lrun_one (cal : List Int) (x : Int × Int) (S : List Lev) : lrun cal [x] S = lstep cal x S := rfl
theorem pi_plain {cal : List Int} {cs : List (Int × Int)} (hg : goodS cs = true) {a k g : Nat} {L : List (Bool × Bool)} (h : PI cal cs a k g L) (hk : k < cs.length) (h1 : cs[k].1 ≠ 48) (h2 : cs[k].1 ≠ 49) (h3 : cs[k].1 ≠ 50) (h4 : cs[k].1 ≠ 51) (h5 : cs[k].1 ≠ 53) : PI cal cs a (k + 1) (cut (g + costN cs[k].1)) L := by
  have h0 := h.le
  refine ⟨by omega, hk, ?_, fun l t s e R hs => ?_, cut_le _⟩
  · rw [(good_stand hg hk h.ar).2, astep_plain h1 h2 h3 h4]
  · rw [seg9_snoc h.le hk, lrun_append, h.lr _ _ _ _ _ hs, lrun_one, lstep_plain h1 h2 h3 h4 h5, cut_add', cut_add, Nat.add_assoc]
theorem pi_call {cal : List Int} {cs : List (Int × Int)} (hg : goodS cs = true) {a k g v : Nat} {L : List (Bool × Bool)} (h : PI cal cs a k g L) (hk : k < cs.length) (h1 : cs[k].1 = 53) (hv : (cal.getD cs[k].2.toNat 0).toNat = v) : PI cal cs a (k + 1) (cut (cut (g + costN 53) + v)) L := by
  have h0 := h.le
  refine ⟨by omega, hk, ?_, fun l t s e R hs => ?_, cut_le _⟩
  · rw [(good_stand hg hk h.ar).2, astep_plain (by omega) (by omega) (by omega) (by omega)]
  · rw [seg9_snoc h.le hk, lrun_append, h.lr _ _ _ _ _ hs, lrun_one, lstep_call h1, hv]
    simp only [cut_add, cut_add', Nat.add_assoc]
/-- At an opener: what stands behind it. -/
theorem pi_open {cs : List (Int × Int)} (hg : goodS cs = true) {k : Nat} {L : List (Bool × Bool)} (ar : arun (cs.take k) [] = some L) (hk : k < cs.length) (h1 : cs[k].1 = 48 ∨ cs[k].1 = 51) : arun (cs.take (k + 1)) [] = some ((decide (cs[k].1 = 51), false) :: L) := by
  rw [(good_stand hg hk ar).2, astep_open h1]
theorem pi_else {cs : List (Int × Int)} (hg : goodS cs = true) {k : Nat} {L : List (Bool × Bool)} {b : Bool × Bool} (ar : arun (cs.take k) [] = some (b :: L)) (hk : k < cs.length) (h1 : cs[k].1 = 49) : b = (false, false) ∧ arun (cs.take (k + 1)) [] = some ((false, true) :: L) := by
  obtain ⟨s1, s2⟩ := good_stand hg hk ar
  rw [h1] at s1 s2
  have e : b = (false, false) := by
    obtain ⟨b1, b2⟩ := b
    cases b1 <;> cases b2 <;> first | rfl | (exact absurd s1 (by simp [astand]))
  refine ⟨e, ?_⟩
  rw [s2, e]
  rfl
theorem pi_shut {cs : List (Int × Int)} (hg : goodS cs = true) {k : Nat} {L : List (Bool × Bool)} {b : Bool × Bool} (ar : arun (cs.take k) [] = some (b :: L)) (hk : k < cs.length) (h1 : cs[k].1 = 50) : arun (cs.take (k + 1)) [] = some L := by
  rw [(good_stand hg hk ar).2, h1]
  rfl
theorem seg9_block {cs : List (Int × Int)} {a k m : Nat} (h1 : a ≤ k) (hk : k < cs.length) (h2 : k + 1 ≤ m) (hm : m < cs.length) : seg9 cs a (m + 1) = seg9 cs a k ++ ([cs[k]] ++ (seg9 cs (k + 1) m ++ [cs[m]])) := by
  rw [seg9_snoc (by omega) hm, seg9_cat (k := k + 1) (by omega) h2 hk, seg9_snoc h1 hk]
  simp
theorem pi_loop {cal : List Int} {cs : List (Int × Int)} (hg : goodS cs = true) {a k g m y : Nat} {L : List (Bool × Bool)} (h : PI cal cs a k g L) (hk : k < cs.length) (h1 : cs[k].1 = 51) (hy : PI cal cs (k + 1) m y ((true, false) :: L)) (hm : m < cs.length) (h2 : cs[m].1 = 50) : PI cal cs a (m + 1) (cut (cut (g + costN 51) + cut (min cs[k].2.toNat TM * cut (y + costN 50)))) L := by
  have h0 := h.le
  have h3 := hy.le
  refine ⟨by omega, hm, pi_shut hg hy.ar hm h2, fun l t s e R hs => ?_, cut_le _⟩
  rw [seg9_block h.le hk hy.le hm, lrun_append, h.lr _ _ _ _ _ hs, lrun_append, lrun_one, lstep_open (.inr h1), lrun_append, hy.lr0, lrun_one, lstep_end h2]
  simp only [closed9, h1, decide_true, if_true, cut_add, cut_add', Nat.add_assoc]
theorem pi_if {cal : List Int} {cs : List (Int × Int)} (hg : goodS cs = true) {a k g m y : Nat} {L : List (Bool × Bool)} (h : PI cal cs a k g L) (hk : k < cs.length) (h1 : cs[k].1 = 48) (hy : PI cal cs (k + 1) m y ((false, false) :: L)) (hm : m < cs.length) (h2 : cs[m].1 = 50) : PI cal cs a (m + 1) (cut (cut (g + costN 48) + cut (y + costN 50))) L := by
  have h0 := h.le
  have h3 := hy.le
  refine ⟨by omega, hm, pi_shut hg hy.ar hm h2, fun l t s e R hs => ?_, cut_le _⟩
  rw [seg9_block h.le hk hy.le hm, lrun_append, h.lr _ _ _ _ _ hs, lrun_append, lrun_one, lstep_open (.inl h1), lrun_append, hy.lr0, lrun_one, lstep_end h2]
  have e51 : ¬ (48 : Int) = 51 := by omega
  simp only [closed9, h1, e51, decide_false, Bool.false_eq_true, if_false, cut_add, cut_add', Nat.add_assoc]
theorem pi_ifelse {cal : List Int} {cs : List (Int × Int)} (hg : goodS cs = true) {a k g m y m2 z : Nat} {L : List (Bool × Bool)} (h : PI cal cs a k g L) (hk : k < cs.length) (h1 : cs[k].1 = 48) (hy : PI cal cs (k + 1) m y ((false, false) :: L)) (hm : m < cs.length) (h2 : cs[m].1 = 49) (hz : PI cal cs (m + 1) m2 z ((false, true) :: L)) (hm2 : m2 < cs.length) (h3 : cs[m2].1 = 50) : PI cal cs a (m2 + 1) (cut (cut (g + costN 48) + max (cut (y + costN 49)) (cut (z + costN 50)))) L := by
  have h0 := h.le
  have h4 := hy.le
  have h5 := hz.le
  refine ⟨by omega, hm2, pi_shut hg hz.ar hm2 h3, fun l t s e R hs => ?_, cut_le _⟩
  have es : seg9 cs a (m2 + 1) = seg9 cs a k ++ ([cs[k]] ++ (seg9 cs (k + 1) m ++ ([cs[m]] ++ (seg9 cs (m + 1) m2 ++ [cs[m2]])))) := by
    rw [seg9_snoc (by omega) hm2, seg9_cat (k := m + 1) (by omega) hz.le hm, seg9_block h.le hk hy.le hm]
    simp
  rw [es, lrun_append, h.lr _ _ _ _ _ hs, lrun_append, lrun_one, lstep_open (.inl h1), lrun_append, hy.lr0, lrun_append, lrun_one, lstep_else h2, lrun_append, hz.lr0, lrun_one, lstep_end h3]
  have e51 : ¬ (48 : Int) = 51 := by omega
  simp only [closed9, h1, e51, decide_false, Bool.false_eq_true, if_false, cut_add, cut_add', Nat.add_assoc]
/-- The whole of it. -/
theorem pi_gas {cal : List Int} {cs : List (Int × Int)} {g : Nat} (h : PI cal cs 0 cs.length g []) : gasS cal cs = g := by
  have := h.lr0 false 0 none []
  unfold seg9 at this
  rw [List.take_length, List.drop_zero] at this
  unfold gasS base0
  rw [this]
theorem pi_ex {cal : List Int} {cs : List (Int × Int)} (hg : goodS cs = true) : ∀ (u a k g : Nat) (L : List (Bool × Bool)), cs.length - k ≤ u → PI cal cs a k g L → ∃ m g', k ≤ m ∧ PI cal cs a m g' L ∧ (m = cs.length ∨ ∃ h : m < cs.length, cs[m].1 = 49 ∨ cs[m].1 = 50) := by
  intro u
  induction u with
  | zero => intro a k g L hu h; exact ⟨k, g, Nat.le_refl _, h, .inl (by have := h.kn; omega)⟩
  | succ u ih =>
    intro a k g L hu h
    rcases Nat.lt_or_ge k cs.length with hk | hk
    · have fin : ∀ k' g', k < k' → PI cal cs a k' g' L → ∃ m g', k ≤ m ∧ PI cal cs a m g' L ∧ (m = cs.length ∨ ∃ h : m < cs.length, cs[m].1 = 49 ∨ cs[m].1 = 50) := fun k' g' h1 h2 => by
        obtain ⟨m, g2, q1, q2, q3⟩ := ih a k' g' L (by omega) h2
        exact ⟨m, g2, by omega, q2, q3⟩
      have inn : ∀ k' L', k < k' → k' ≤ cs.length → arun (cs.take k') [] = some L' → L' ≠ [] → ∃ m y, k' ≤ m ∧ PI cal cs k' m y L' ∧ ∃ h : m < cs.length, cs[m].1 = 49 ∨ cs[m].1 = 50 := fun k' L' h1 h2 h3 h4 => by
        obtain ⟨m, y, q1, q2, q3⟩ := ih k' k' 0 L' (by omega) (pi_start h2 h3)
        refine ⟨m, y, q1, q2, ?_⟩
        rcases q3 with q3 | q3
        · have q8 := q2.ar
          rw [q3] at q8
          exact absurd (good_end hg q8) h4
        · exact q3
      rcases (show cs[k].1 = 49 ∨ cs[k].1 = 50 ∨ cs[k].1 = 53 ∨ cs[k].1 = 48 ∨ cs[k].1 = 51 ∨ (cs[k].1 ≠ 49 ∧ cs[k].1 ≠ 50 ∧ cs[k].1 ≠ 53 ∧ cs[k].1 ≠ 48 ∧ cs[k].1 ≠ 51) by omega) with hx | hx | hx | hx | hx | ⟨x1, x2, x3, x4, x5⟩
      · exact ⟨k, g, Nat.le_refl _, h, .inr ⟨hk, .inl hx⟩⟩
      · exact ⟨k, g, Nat.le_refl _, h, .inr ⟨hk, .inr hx⟩⟩
      · exact fin _ _ (Nat.lt_succ_self k) (pi_call hg h hk hx rfl)
      · have ho := pi_open hg h.ar hk (.inl hx)
        rw [hx] at ho
        obtain ⟨m, y, q1, q2, q3, q4⟩ := inn (k + 1) _ (Nat.lt_succ_self k) hk ho (by simp)
        rcases q4 with q4 | q4
        · have he := (pi_else hg q2.ar q3 q4).2
          obtain ⟨m2, z, r1, r2, r3, r4⟩ := inn (m + 1) _ (by omega) q3 he (by simp)
          rcases r4 with r4 | r4
          · have := (pi_else hg r2.ar r3 r4).1
            simp at this
          · exact fin _ _ (by omega) (pi_ifelse hg h hk hx q2 q3 q4 r2 r3 r4)
        · exact fin _ _ (by omega) (pi_if hg h hk hx q2 q3 q4)
      · have ho := pi_open hg h.ar hk (.inr hx)
        rw [hx] at ho
        obtain ⟨m, y, q1, q2, q3, q4⟩ := inn (k + 1) _ (Nat.lt_succ_self k) hk ho (by simp)
        rcases q4 with q4 | q4
        · have := (pi_else hg q2.ar q3 q4).1
          simp at this
        · exact fin _ _ (by omega) (pi_loop hg h hk hx q2 q3 q4)
      · exact fin _ _ (Nat.lt_succ_self k) (pi_plain hg h hk x4 x1 x2 x5 x3)
    · exact ⟨k, g, Nat.le_refl _, h, .inl (Nat.le_antisymm h.kn hk)⟩
theorem pi_whole {cal : List Int} {cs : List (Int × Int)} (hg : goodS cs = true) : PI cal cs 0 cs.length (gasS cal cs) [] := by
  obtain ⟨m, g, _, h, hm⟩ := pi_ex (cal := cal) hg cs.length 0 0 0 [] (by omega) (pi_start (Nat.zero_le _) rfl)
  have e : m = cs.length := by
    rcases hm with hm | ⟨h1, h2⟩
    · exact hm
    · have := (good_stand hg h1 h.ar).1
      rcases h2 with h2 | h2 <;> rw [h2] at this <;> simp [astand] at this
  rw [e] at h
  rw [pi_gas h]
  exact h
/-- A run of instructions of good shape adds its gas to the level that it stands on. -/
theorem run_good {cal : List Int} {cs : List (Int × Int)} (hg : goodS cs = true) (l t s e R) (hs : s ≤ TM) : lrun cal cs (⟨l, t, s, e⟩ :: R) = ⟨l, t, cut (s + gasS cal cs), e⟩ :: R := by
  have := (pi_whole (cal := cal) hg).lr l t s e R hs
  unfold seg9 at this
  rw [List.take_length, List.drop_zero] at this
  exact this
theorem gas_le {cal : List Int} {cs : List (Int × Int)} (hg : goodS cs = true) : gasS cal cs ≤ TM := (pi_whole (cal := cal) hg).gl
theorem good_cat {c d : List (Int × Int)} (hc : goodS c = true) (hd : goodS d = true) : goodS (c ++ d) = true := by
  rw [good_abs] at *
  rw [arun_append, hc, Option.bind_some, hd]
theorem gas_cat {cal : List Int} {c d : List (Int × Int)} (hc : goodS c = true) (hd : goodS d = true) : gasS cal (c ++ d) = cut (gasS cal c + gasS cal d) := by
  rw [gasS, lrun_append, base0, run_good hc _ _ _ _ _ (Nat.zero_le _), Nat.zero_add, cut_id (gas_le hc), run_good hd _ _ _ _ _ (gas_le hc)]
end Go.Proofs.Ytodagpmcmjleaaa
