/- Plain: what is read of a line is printed as that line, and a script's lines are read as it was. -/
import Derived.Test.YtbjipcpoiiegkaaGreatDoorBP
namespace Go.Proofs.YtbjipcpoiiegkaaGreatDoor
open Go.RowKit Go.Shelf
/-- What was read of a head, as words. -/
def wordsH (h : HS) : List (List UInt8) :=
  (if 1 ≤ h.m then [102, 117, 110, 99] :: h.p.map kindW else []) ++ ((if 2 ≤ h.m then [45, 62] :: h.r.map kindW else []) ++ (if 3 ≤ h.m then [59] :: h.l.map kindW else []))
structure HInv (h : HS) : Prop where
  m : h.m ≤ 3
  p : h.m < 1 → h.p = []
  r : h.m < 2 → h.r = []
  l : h.m < 3 → h.l = []
  kp : ∀ k ∈ h.p, kindW k ≠ []
  kr : ∀ k ∈ h.r, kindW k ≠ []
  kl : ∀ k ∈ h.l, kindW k ≠ []
theorem kindW_of {x : List UInt8} (h : kindOf x ≠ 0) : kindW (kindOf x) = x := by
  unfold kindOf at h ⊢
  by_cases h1 : x = [105, 110, 116]
  · rw [if_pos h1, h1]; rfl
  rw [if_neg h1] at h ⊢
  by_cases h2 : x = [98, 121, 116, 101, 115]
  · rw [if_pos h2, h2]; rfl
  rw [if_neg h2] at h ⊢
  by_cases h3 : x = [98, 111, 111, 108]
  · rw [if_pos h3, h3]; rfl
  rw [if_neg h3] at h
  exact absurd rfl h
theorem kindOf_ne {x : List UInt8} (h : kindOf x ≠ 0) : x ≠ [] := fun e => by
  subst e
  exact h (by decide)
theorem wordsH_step {h g : HS} {x : List UInt8} (hi : HInv h) (e : hStep h x = some g) : HInv g ∧ wordsH g = wordsH h ++ [x] := by
  unfold hStep at e
  have hm := hi.m
  by_cases hk : h.m < 3 ∧ x = markW h.m
  · rw [if_pos hk] at e
    cases e
    obtain ⟨h3, hx⟩ := hk
    have c : h.m = 0 ∨ h.m = 1 ∨ h.m = 2 := by omega
    rcases c with c | c | c
    · have := hi.p (by omega)
      refine ⟨⟨by simp only; omega, fun q => by simp only at q; omega, fun q => hi.r (by omega), fun q => hi.l (by omega), hi.kp, hi.kr, hi.kl⟩, ?_⟩
      rw [hx]
      simp [wordsH, c, this, markW]
    · have := hi.r (by omega)
      refine ⟨⟨by simp only; omega, fun q => by simp only at q; omega, fun q => by simp only at q; omega, fun q => hi.l (by omega), hi.kp, hi.kr, hi.kl⟩, ?_⟩
      rw [hx]
      simp [wordsH, c, this, markW]
    · have := hi.l (by omega)
      refine ⟨⟨by simp only; omega, fun q => by simp only at q; omega, fun q => by simp only at q; omega, fun q => by simp only at q; omega, hi.kp, hi.kr, hi.kl⟩, ?_⟩
      rw [hx]
      simp [wordsH, c, this, markW]
  · rw [if_neg hk] at e
    by_cases hz : kindOf x = 0 ∨ h.m = 0 ∨ h.n = 64
    · rw [if_pos hz] at e; cases e
    · rw [if_neg hz] at e
      cases e
      have h0 : kindOf x ≠ 0 := fun q => hz (.inl q)
      have hx := kindW_of h0
      have hne : kindW (kindOf x) ≠ [] := by rw [hx]; exact kindOf_ne h0
      have c : h.m = 1 ∨ h.m = 2 ∨ h.m = 3 := by omega
      have add : ∀ {l : List Int}, (∀ k ∈ l, kindW k ≠ []) → ∀ k ∈ l ++ [kindOf x], kindW k ≠ [] := fun hl k hk => by
        rcases List.mem_append.1 hk with hk | hk
        · exact hl k hk
        · obtain rfl : k = kindOf x := by simpa using hk
          exact hne
      rcases c with c | c | c
      · have hr := hi.r (by omega)
        have hl := hi.l (by omega)
        refine ⟨?_, ?_⟩
        · simp only [HS.push, c, if_pos]
          exact ⟨by simp only; omega, fun q => by simp only at q; omega, fun _ => hr, fun _ => hl, add hi.kp, hi.kr, hi.kl⟩
        · simp [wordsH, HS.push, c, hr, hl, hx]
      · have hl := hi.l (by omega)
        refine ⟨?_, ?_⟩
        · simp only [HS.push, c, if_neg (show ¬ (2 = 1) by omega), if_pos]
          exact ⟨by simp only; omega, fun q => by simp only at q; omega, fun q => by simp only at q; omega, fun _ => hl, hi.kp, add hi.kr, hi.kl⟩
        · simp [wordsH, HS.push, c, hl, hx]
      · refine ⟨?_, ?_⟩
        · simp only [HS.push, c, if_neg (show ¬ (3 = 1) by omega), if_neg (show ¬ (3 = 2) by omega)]
          exact ⟨by simp only; omega, fun q => by simp only at q; omega, fun q => by simp only at q; omega, fun q => by simp only at q; omega, hi.kp, hi.kr, add hi.kl⟩
        · simp [wordsH, HS.push, c, hx]
theorem wordsH_run : ∀ {xs : List (List UInt8)} {h g : HS}, HInv h → hRun h xs = some g → HInv g ∧ wordsH g = wordsH h ++ xs
  | [], h, g, hi, e => by cases e; exact ⟨hi, by simp⟩
  | x :: xs, h, g, hi, e => by
    simp only [hRun] at e
    cases hs : hStep h x with
    | none => rw [hs] at e; cases e
    | some k =>
      rw [hs] at e
      obtain ⟨i1, e1⟩ := wordsH_step hi hs
      obtain ⟨i2, e2⟩ := wordsH_run i1 e
      exact ⟨i2, by rw [e2, e1]; simp⟩
theorem hInv_beg : HInv hBeg := ⟨by decide, fun _ => rfl, fun _ => rfl, fun _ => rfl, fun k hk => (by cases hk), fun k hk => (by cases hk), fun k hk => (by cases hk)⟩
/-- What is read of a head is printed as that head. -/
theorem head_back {s : List UInt8} {f : Fn} (h : headOf (pieces s) = some f) : headS f = s := by
  unfold headOf at h
  cases hr : hRun hBeg (pieces s) with
  | none => rw [hr] at h; cases h
  | some g =>
    rw [hr] at h
    simp only [Option.bind_some] at h
    by_cases h3 : g.m = 3
    · rw [if_pos h3] at h
      cases h
      obtain ⟨i, e⟩ := wordsH_run hInv_beg hr
      have e0 : wordsH hBeg = [] := rfl
      rw [e0, List.nil_append] at e
      have e1 : wordsF ⟨g.p, g.r, g.l, []⟩ = pieces s := by rw [← e]; simp [wordsH, wordsF, h3]
      have ok : headOk ⟨g.p, g.r, g.l, []⟩ = true := by
        simp only [headOk, rowOk, Bool.and_eq_true, List.all_eq_true, decide_eq_true_eq]
        exact ⟨⟨i.kp, i.kr⟩, i.kl⟩
      unfold headS
      rw [if_pos ok, ← join_words, e1, join_pieces _ s (Nat.le_refl _)]
    · rw [if_neg h3] at h; cases h
theorem kind_back {k : Int} (h : kindOk k = true) : kindOf (kindW k) = k ∧ kindW k ≠ [] := by
  simp only [kindOk, Bool.and_eq_true, decide_eq_true_eq] at h
  have c : k = 1 ∨ k = 2 ∨ k = 3 := by omega
  rcases c with rfl | rfl | rfl <;> decide
theorem kind_mark (m : Nat) {k : Int} (h : kindOk k = true) : kindW k ≠ markW m := by
  simp only [kindOk, Bool.and_eq_true, decide_eq_true_eq] at h
  have c : k = 1 ∨ k = 2 ∨ k = 3 := by omega
  match m with
  | 0 => rcases c with rfl | rfl | rfl <;> decide
  | 1 => rcases c with rfl | rfl | rfl <;> decide
  | _ + 2 => rcases c with rfl | rfl | rfl <;> (show _ ≠ [59]; decide)
/-- A row of types, read behind its mark. -/
theorem run_row : ∀ (ns : List Int) (h : HS) (rest : List (List UInt8)), 1 ≤ h.m → h.m ≤ 3 → h.n + ns.length ≤ 64 → (∀ k ∈ ns, kindOk k = true) →
    hRun h (ns.map kindW ++ rest) = hRun (ns.foldl HS.push h) rest
  | [], h, rest, _, _, _, _ => rfl
  | k :: ns, h, rest, h1, h3, hn, hk => by
    have kk := hk k (by simp)
    obtain ⟨e1, _⟩ := kind_back kk
    have hs : hStep h (kindW k) = some (h.push k) := by
      unfold hStep
      rw [if_neg (fun q => kind_mark h.m kk q.2), if_neg, e1]
      rw [e1]
      simp only [kindOk, Bool.and_eq_true, decide_eq_true_eq] at kk
      simp at hn
      omega
    have pm := push_m h k
    simp only [List.map_cons, List.cons_append, hRun, hs, Option.bind_some, List.foldl_cons]
    refine run_row ns (h.push k) rest (by omega) (by omega) ?_ (fun x hx => hk x (List.mem_cons_of_mem _ hx))
    simp at hn
    omega
theorem push1 : ∀ (ns : List Int) (h : HS), h.m = 1 → ns.foldl HS.push h = { h with n := h.n + ns.length, p := h.p ++ ns }
  | [], h, _ => by simp
  | k :: ns, h, e => by
    rw [List.foldl_cons, push1 ns (h.push k) (by rw [(push_m h k).1, e])]
    simp [HS.push, e]
    omega
theorem push2 : ∀ (ns : List Int) (h : HS), h.m = 2 → ns.foldl HS.push h = { h with n := h.n + ns.length, r := h.r ++ ns }
  | [], h, _ => by simp
  | k :: ns, h, e => by
    rw [List.foldl_cons, push2 ns (h.push k) (by rw [(push_m h k).1, e])]
    simp [HS.push, e]
    omega
theorem push3 : ∀ (ns : List Int) (h : HS), h.m = 3 → ns.foldl HS.push h = { h with n := h.n + ns.length, l := h.l ++ ns }
  | [], h, _ => by simp
  | k :: ns, h, e => by
    rw [List.foldl_cons, push3 ns (h.push k) (by rw [(push_m h k).1, e])]
    simp [HS.push, e]
    omega
theorem kindW_no32 (k : Int) : No 32 (kindW k) ∧ No 10 (kindW k) := by
  unfold kindW
  split
  · constructor <;> (intro x hx; revert x; decide)
  split
  · constructor <;> (intro x hx; revert x; decide)
  split
  · constructor <;> (intro x hx; revert x; decide)
  · constructor <;> (intro x hx; cases hx)
theorem headOf_words {f : Fn} (hl : f.lists = true) : headOf (wordsF f) = some ⟨f.p, f.r, f.l, []⟩ := by
  simp only [Fn.lists, Bool.and_eq_true, decide_eq_true_eq, List.all_eq_true] at hl
  obtain ⟨⟨⟨⟨a1, a2⟩, a3⟩, a4⟩, ⟨⟨k1, k2⟩, k3⟩⟩ := hl
  have e : hRun hBeg (wordsF f) = some ⟨3, f.p.length + f.r.length + f.l.length, f.p, f.r, f.l⟩ := by
    unfold wordsF
    rw [List.cons_append, hRun]
    have s0 : hStep hBeg [102, 117, 110, 99] = some hFun := if_pos ⟨by decide, rfl⟩
    rw [s0]
    simp only [Option.bind_some]
    rw [run_row f.p hFun _ (by decide) (by decide) (by show 0 + _ ≤ 64; omega) k1, push1 _ _ rfl]
    rw [List.cons_append, hRun]
    have s1 : ∀ n p, hStep ⟨1, n, p, [], []⟩ [45, 62] = some ⟨2, n, p, [], []⟩ := fun n p => if_pos ⟨by show 1 < 3; decide, rfl⟩
    show (hStep ⟨1, 0 + f.p.length, [] ++ f.p, [], []⟩ [45, 62]).bind _ = _
    rw [s1]
    simp only [Option.bind_some]
    rw [run_row f.r _ _ (by show 1 ≤ 2; decide) (by show 2 ≤ 3; decide) (by simp only; omega) k2, push2 _ _ rfl]
    rw [hRun]
    have s2 : ∀ n p r, hStep ⟨2, n, p, r, []⟩ [59] = some ⟨3, n, p, r, []⟩ := fun n p r => if_pos ⟨by show 2 < 3; decide, rfl⟩
    simp only
    rw [s2]
    simp only [Option.bind_some]
    have h3 := run_row f.l ⟨3, 0 + f.p.length + f.r.length, [] ++ f.p, [] ++ f.r, []⟩ [] (by show 1 ≤ 3; decide) (by show 3 ≤ 3; decide) (by simp only; omega) k3
    rw [List.append_nil] at h3
    rw [h3, push3 _ _ rfl]
    simp [hRun]
  unfold headOf
  rw [e]
  simp
theorem headOk_of {f : Fn} (hl : f.lists = true) : headOk f = true := by
  simp only [Fn.lists, Bool.and_eq_true, decide_eq_true_eq, List.all_eq_true] at hl
  obtain ⟨_, ⟨⟨k1, k2⟩, k3⟩⟩ := hl
  simp only [headOk, rowOk, Bool.and_eq_true, List.all_eq_true, decide_eq_true_eq]
  exact ⟨⟨fun k hk => (kind_back (k1 k hk)).2, fun k hk => (kind_back (k2 k hk)).2⟩, fun k hk => (kind_back (k3 k hk)).2⟩
theorem pieces_head {f : Fn} (hl : f.lists = true) : pieces (headS f) = wordsF f := by
  unfold headS
  rw [if_pos (headOk_of hl), ← join_words]
  refine pieces_join _ (by simp [wordsF]) fun x hx c hc => ?_
  simp only [wordsF, List.mem_append, List.mem_cons, List.mem_map] at hx
  rcases hx with (rfl | ⟨k, _, rfl⟩) | (rfl | ⟨k, _, rfl⟩) | (rfl | ⟨k, _, rfl⟩)
  · revert c; decide
  · exact (kindW_no32 k).1 c hc
  · revert c; decide
  · exact (kindW_no32 k).1 c hc
  · revert c; decide
  · exact (kindW_no32 k).1 c hc
end Go.Proofs.YtbjipcpoiiegkaaGreatDoor
