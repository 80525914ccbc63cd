/- types.Check of any script. types.All of any script. -/
import Derived.Test.YtnidakplcaanfaaTS
import Derived.Test.YtnidakplcaanfaaCRc
namespace Go.Proofs.Ytnidakplcaanfaa
open Go.RowKit Go.Shelf
structure FnR (fs : List Fn) (g : Fn) : Prop where
  p : g.p.length ≤ 8
  r : g.r.length ≤ 8
  s : g.p.length + g.l.length ≤ 16
  c : g.code.length ≤ 256
  i : ∀ x ∈ g.code, InsR fs (g.p ++ g.l) x
theorem right_facts {s : Scr} (h : s.right = true) : s.funcs.length ≤ 16 ∧ 1 ≤ s.funcs.length ∧ ∀ g ∈ s.funcs, FnR s.funcs g := by
  simp only [Scr.right, Bool.and_eq_true, decide_eq_true_eq, List.all_eq_true] at h
  obtain ⟨⟨⟨⟨_, h1⟩, h2⟩, _⟩, h3⟩ := h
  refine ⟨h2, h1, fun g hg => ?_⟩
  have hg := h3 g hg
  simp only [Fn.right, Fn.lists, Bool.and_eq_true, decide_eq_true_eq, List.all_eq_true] at hg
  obtain ⟨⟨⟨⟨⟨g1, g2⟩, g3⟩, g4⟩, _⟩, g5⟩ := hg
  refine ⟨g1, g2, g3, g4, fun x hx => ?_⟩
  have := g5 x hx
  simp only [insOk, Bool.and_eq_true, decide_eq_true_eq] at this
  obtain ⟨⟨⟨_, _⟩, i3⟩, i4⟩ := this
  rw [InsR, List.length_append]
  refine ⟨fun hn => ?_, fun hn => ?_⟩
  · have e : takesN x.1 = 3 := by rcases hn with hn | hn <;> rw [hn] <;> rfl
    rw [e] at i3 i4
    simp [boundsN] at i3 i4
    omega
  · have e : takesN x.1 = 5 := by rw [hn]; rfl
    rw [e] at i3 i4
    simp [boundsN] at i3 i4
    omega
/-- What Check answers. -/
def checkS (s : Scr) (f : Int) : Int × List (List Int) :=
  if s.right = true then (if 0 ≤ f ∧ f < s.funcs.length then stacksS s.funcs (fnAt s.funcs f) else (1, [])) else (30, [])
theorem fnAt_get {fs : List Fn} {k : Nat} (hk : k < fs.length) : fs[k] = fnAt fs k := by rw [fnAt, Int.toNat_natCast, List.getD_eq_getElem?_getD, List.getElem?_eq_getElem hk]; rfl
theorem right_heads {s : Scr} (h : s.right = true) : HeadsR s.funcs := fun f hf => ⟨((right_facts h).2.2 f hf).p, ((right_facts h).2.2 f hf).r⟩
theorem stacks_right {s : Scr} (h : s.right = true) (k : Nat) (hk : k < s.funcs.length) (fa : Option Addr) (fc : Nat) (w : World) (hF : FsAt w.cell? fa s.funcs) : Calls Try.prog 25 #[.slice fa s.funcs.length fc, .int .i64 k] w (StacksEnd (stacksS s.funcs (fnAt s.funcs k)) w) := by
  obtain ⟨h1, _, h3⟩ := right_facts h
  have hg := h3 (fnAt s.funcs k) (by rw [← fnAt_get hk]; exact List.getElem_mem _)
  exact stacks_any s.funcs fa fc k hk (right_heads h) h1 (fnAt s.funcs k) (fnAt_get hk) hg.s hg.c hg.i w hF
set_option maxRecDepth 100000 in
set_option maxHeartbeats 2000000 in
theorem check7_any (s : Scr) (V0 V1 : Value) (f : Int) (w : World) (hs : ScIs w.cell? s V0 V1) (hsf : s.fits) : Calls Try.prog 9 #[.agg #[V0, V1], .int .i64 f] w (StacksEnd (checkS s f) w) := by
  obtain ⟨⟨a0, c0, rfl, n0⟩, ⟨a1, c1, rfl, n1⟩⟩ := hs
  have b1 := (Below.refl _ w).alloc (Nat.le_refl _) (.cells #[.slice a0 s.consts.length c0, .slice a1 s.funcs.length c1] 25)
  have hk1 : ∀ x v, w.cell? x = some v → (w.alloc (.cells #[.slice a0 s.consts.length c0, .slice a1 s.funcs.length c1] 25)).cell? x = some v := fun x v h => (b1.cell (World.block_lt_of_cell? w x h)).trans h
  have hRt := right4_any s _ _ (w.alloc (.cells #[.slice a0 s.consts.length c0, .slice a1 s.funcs.length c1] 25)) ⟨⟨a0, c0, rfl, n0.keep hk1⟩, ⟨a1, c1, rfl, n1.keep hk1⟩⟩ hsf
  have HR : Hid (Calls Try.prog 24 #[.agg #[.slice a0 s.consts.length c0, .slice a1 s.funcs.length c1]] (w.alloc (.cells #[.slice a0 s.consts.length c0, .slice a1 s.funcs.length c1] 25)) fun e w1 => e = .returned (.bool s.right) ∧ w1.cell? ⟨w.heap.size, 1, none⟩ = some (.slice a1 s.funcs.length c1) ∧ Hid (Below w.heap.size w w1)) := hid7 (hRt.mono fun e w1 ⟨h1, h2⟩ => by
    have e2 : (w.alloc (.cells #[.slice a0 s.consts.length c0, .slice a1 s.funcs.length c1] 25)).heap[w.heap.size]? = some (.cells #[.slice a0 s.consts.length c0, .slice a1 s.funcs.length c1] 25 (0, 0)) := heap_alloc_new w _
    have e3 := (h2.block _ (blk_lt e2)).trans e2
    exact ⟨h1, by simp [World.cell?, e3], hid7 (b1.trans (h2.mono b1.size))⟩)
  have hfl := hsf.2.1
  by_cases hr : s.right = true
  · by_cases hf : 0 ≤ f ∧ f < s.funcs.length
    · obtain ⟨k, rfl⟩ : ∃ k : Nat, f = k := ⟨f.toNat, by omega⟩
      have e1 : checkS s k = stacksS s.funcs (fnAt s.funcs k) := by rw [checkS, if_pos hr, if_pos hf]
      rw [e1]
      have HS : Hid (∀ w1, Below w.heap.size w w1 → Calls Try.prog 25 #[.slice a1 s.funcs.length c1, .int .i64 k] w1 fun e w2 => ∃ v n, e = .returned (.tuple #[v, .int .i64 n]) ∧ Hid (StacksEnd (stacksS s.funcs (fnAt s.funcs k)) w e w2)) := hid7 fun w1 hb => (stacks_right hr k (by omega) a1 c1 w1 (n1.keep fun x v h => (hb.cell (World.block_lt_of_cell? w x h)).trans h)).mono fun e w2 ⟨a, c, h1, h2, h3⟩ => ⟨_, _, h1, hid7 ⟨a, c, h1, h2.low hb.size, hb.trans (h3.mono hb.size)⟩⟩
      have t1 : ¬ ((s.funcs.length : Int) ≤ k) := by omega
      rw [hr] at HR
      clear hRt hk1 n0 n1 b1 hr hf e1
      generalize stacksS s.funcs (fnAt s.funcs k) = RR at HS ⊢
      generalize s.funcs.length = fl at HR HS hfl t1 ⊢
      generalize s.consts.length = cl at HR ⊢
      go_enter Try.func9, Try.ntmps9
      go_wp2_with (first | (go_at_call 24; refine HR.out.mono ?_; clear HR; rintro e w1 ⟨rfl, d1, B1⟩) | (go_at_call 25; refine (HS.out w1 B1.out).mono ?_; clear HS; rintro e w2 ⟨v2, n2, rfl, K2⟩) | fail)
      go_ret2
      exact K2.out
    · have e1 : checkS s f = (1, []) := by rw [checkS, if_pos hr, if_neg hf]
      rw [e1]
      rw [hr] at HR
      have HE : Hid (∀ w1 e, Below w.heap.size w w1 → e = .returned (.tuple #[.slice none 0 0, .int .i64 1]) → StacksEnd (1, []) w e w1) := hid7 fun w1 e hb he => ⟨none, 0, he, .inl rfl, hb⟩
      clear hRt hk1 n0 n1 b1 hr e1
      by_cases h0 : f < 0
      · generalize s.funcs.length = fl at HR hfl ⊢
        generalize s.consts.length = cl at HR ⊢
        go_enter Try.func9, Try.ntmps9
        go_wp2_with (first | (go_at_call 24; refine HR.out.mono ?_; clear HR; rintro e w1 ⟨rfl, d1, B1⟩) | fail)
        go_ret2
        exact HE.out _ _ B1.out rfl
      · have t1 : (s.funcs.length : Int) ≤ f := by omega
        generalize s.funcs.length = fl at HR hfl t1 ⊢
        generalize s.consts.length = cl at HR ⊢
        go_enter Try.func9, Try.ntmps9
        go_wp2_with (first | (go_at_call 24; refine HR.out.mono ?_; clear HR; rintro e w1 ⟨rfl, d1, B1⟩) | fail)
        go_ret2
        exact HE.out _ _ B1.out rfl
  · have hr' : s.right = false := by simpa using hr
    have e1 : checkS s f = (30, []) := by rw [checkS, if_neg hr]
    rw [e1]
    rw [hr'] at HR
    have HE : Hid (∀ w1 e, Below w.heap.size w w1 → e = .returned (.tuple #[.slice none 0 0, .int .i64 30]) → StacksEnd (30, []) w e w1) := hid7 fun w1 e hb he => ⟨none, 0, he, .inl rfl, hb⟩
    clear hRt hk1 n0 n1 b1 hr hr' e1
    generalize s.funcs.length = fl at HR hfl ⊢
    generalize s.consts.length = cl at HR ⊢
    go_enter Try.func9, Try.ntmps9
    go_wp2_with (first | (go_at_call 24; refine HR.out.mono ?_; clear HR; rintro e w1 ⟨rfl, d1, B1⟩) | fail)
    go_ret2
    exact HE.out _ _ B1.out rfl
/-- The longest one. -/
def longS : List (List Int) → Nat → Nat
  | _, 0 => 0
  | R, k + 1 => max (longS R k) (R.getD k []).length
theorem longS_le {R : List (List Int)} {m : Nat} (h : ∀ r ∈ R, r.length ≤ m) : ∀ k, longS R k ≤ m
  | 0 => Nat.zero_le _
  | k + 1 => by
    have := longS_le h k
    rw [longS]
    rw [List.getD_eq_getElem?_getD]
    cases hk : R[k]? with
    | none => simp; omega
    | some r => have := h r (List.mem_of_getElem? hk); simp; omega
set_option maxRecDepth 100000 in
set_option maxHeartbeats 1000000 in
theorem greatest_any (R : List (List Int)) (a : Option Addr) (c n : Nat) (hn : R.length = n) (bn : n ≤ 1000) (bR : ∀ r ∈ R, r.length ≤ 1000) {B : Nat} (w : World) (h : SlAt B w a R) : Calls Try.prog 31 #[.slice a n c] w fun e w' => e = .returned (.int .i64 (longS R n : Nat)) ∧ w' = w := by
  go_enter Try.func31, Try.ntmps31
  go_wp2
  go_loopw [3, 8] (fun mv iv wr => ∃ k : Nat, mv = .int .i64 (longS R k : Nat) ∧ iv = .int .i64 k ∧ k ≤ n ∧ wr = w) (fun _ iv _ => n - (intOf iv).toNat)
  case atStart => exact ⟨0, rfl, rfl, Nat.zero_le _, rfl⟩
  case round =>
    obtain ⟨k, rfl, rfl, hk, rfl⟩ := hrel
    by_cases hkn : k < n
    · have hle := longS_le bR k
      have HN : Hid (longS R (k + 1) = max (longS R k) (R.getD k []).length) := hid7 rfl
      rcases h with h0 | ⟨b, rfl, hc⟩
      · rw [h0] at hn; simp at hn; omega
      obtain ⟨aj, cj, h1, _⟩ := hc k (by omega)
      have e1 : R[k].length = (R.getD k []).length := by rw [List.getD_eq_getElem?_getD, List.getElem?_eq_getElem (by omega)]; rfl
      have hr : (R.getD k []).length ≤ 1000 := by rw [← e1]; exact bR _ (List.getElem_mem _)
      rw [e1] at h1
      clear hc e1
      generalize (R.getD k []).length = r at h1 HN hr
      generalize longS R k = d at HN hle ⊢
      go_wp2
      refine ⟨⟨k + 1, ?_, by go_num, by omega, by trivial⟩, by simp [intOf]; omega⟩
      rw [HN.out]
      congr 1
      omega
    · have hkn : k = n := by omega
      subst hkn
      clear h
      go_wp2
      go_ret
      exact ⟨rfl, rfl⟩
end Go.Proofs.Ytnidakplcaanfaa
namespace Go.Proofs.Ytnidakplcaanfaa
open Go.RowKit Go.Shelf
theorem pass_le {fs : List Fn} {sl : List Int} {x : Int × Int} {p : List Int} {L : List OB} (h0 : (passW fs sl x p L).1 = 0) : (passW fs sl x p L).2.1.length ≤ 32 := by
  unfold passW at h0 ⊢
  split at h0
  · exact absurd h0 (by assumption)
  rename_i g1
  rw [if_neg g1]
  split at h0
  · exact absurd h0 (by assumption)
  rename_i g2
  rw [if_neg g2]
  split at h0
  · simp at h0
  rename_i g3
  rw [if_neg g3]
  show (turnW x.1 (stepW fs sl x p).2 L).2.1.length ≤ 32
  omega
theorem chk_rows {fs : List Fn} {sl res : List Int} : ∀ (cs : List (Int × Int)) (p : List Int) (L : List OB) (R : List (List Int)), p.length ≤ 32 → (∀ r ∈ R, r.length ≤ 32) → (∀ r ∈ (chkFrom fs sl res cs p L R).2, r.length ≤ 32) ∧ (chkFrom fs sl res cs p L R).2.length ≤ R.length + cs.length + 1
  | [], p, L, R, hp, hR => by
    rw [chkFrom]
    split
    · refine ⟨fun r hr => ?_, by simp⟩
      rcases List.mem_append.1 hr with hr | hr
      · exact hR r hr
      · rw [List.mem_singleton] at hr; rw [hr]; exact hp
    · exact ⟨fun r hr => (by cases hr), by simp⟩
  | x :: r, p, L, R, hp, hR => by
    rw [chkFrom]
    split
    · rename_i h0
      have := chk_rows (fs := fs) (sl := sl) (res := res) r (passW fs sl x p L).2.1 (passW fs sl x p L).2.2 (R ++ [p]) (pass_le h0) (fun q hq => by
        rcases List.mem_append.1 hq with hq | hq
        · exact hR q hq
        · rw [List.mem_singleton] at hq; rw [hq]; exact hp)
      refine ⟨this.1, ?_⟩
      have h2 := this.2
      rw [List.length_append, List.length_singleton] at h2
      simp only [List.length_cons]
      omega
    · exact ⟨fun r hr => (by cases hr), by simp⟩
theorem stacks_rows (fs : List Fn) (g : Fn) : (∀ r ∈ (stacksS fs g).2, r.length ≤ 32) ∧ (stacksS fs g).2.length ≤ g.code.length + 1 := by
  unfold stacksS
  split
  · have := chk_rows (fs := fs) (sl := g.p ++ g.l) (res := g.r) g.code [] [] [] (Nat.zero_le _) (fun r hr => by cases hr)
    simpa using this
  · exact ⟨fun r hr => (by cases hr), by simp⟩
/-- From function k on, m being left. -/
def allFrom (fs : List Fn) : Nat → Nat → List Int → Int × List Int
  | 0, _, acc => (0, acc)
  | m + 1, k, acc => if (stacksS fs (fnAt fs k)).1 = 0 then allFrom fs m (k + 1) (acc ++ [((longS (stacksS fs (fnAt fs k)).2 (stacksS fs (fnAt fs k)).2.length : Nat) : Int)]) else ((stacksS fs (fnAt fs k)).1, [])
def allS (s : Scr) : Int × List Int := if s.right = true then allFrom s.funcs s.funcs.length 0 [] else (30, [])
def AllEnd (R : Int × List Int) (w : World) (e : Ending) (w' : World) : Prop := ∃ a c, e = .returned (.tuple #[.slice a R.2.length c, .int .i64 R.1]) ∧ NsAt w'.cell? a R.2 ∧ Below w.heap.size w w'
theorem row_keep7 {W W' : World} {base n size : Nat} {e : TypeId} {v : Value} {xs : List Value} (h : W.ownsRow base e size v n xs) (hb : Below W.heap.size W W') : W'.ownsRow base e size v n xs := by
  refine ⟨h.1, ?_⟩
  rcases h.2 with h2 | ⟨g, cap, cur, e', hg, hh, r⟩
  · exact .inl h2
  · exact .inr ⟨g, cap, cur, e', hg, (hb.block g (blk_lt hh)).trans hh, r⟩
set_option maxRecDepth 100000 in
set_option maxHeartbeats 2000000 in
theorem all7_any (s : Scr) (V0 V1 : Value) (w : World) (hs : ScIs w.cell? s V0 V1) (hsf : s.fits) : Calls Try.prog 15 #[.agg #[V0, V1]] w (AllEnd (allS s) w) := by
  obtain ⟨⟨a0, c0, rfl, n0⟩, ⟨a1, c1, rfl, n1⟩⟩ := hs
  have b1 := (Below.refl _ w).alloc (Nat.le_refl _) (.cells #[.slice a0 s.consts.length c0, .slice a1 s.funcs.length c1] 25)
  have hk1 : ∀ x v, w.cell? x = some v → (w.alloc (.cells #[.slice a0 s.consts.length c0, .slice a1 s.funcs.length c1] 25)).cell? x = some v := fun x v h => (b1.cell (World.block_lt_of_cell? w x h)).trans h
  have hRt := right4_any s _ _ (w.alloc (.cells #[.slice a0 s.consts.length c0, .slice a1 s.funcs.length c1] 25)) ⟨⟨a0, c0, rfl, n0.keep hk1⟩, ⟨a1, c1, rfl, n1.keep hk1⟩⟩ hsf
  have HR : Hid (Calls Try.prog 24 #[.agg #[.slice a0 s.consts.length c0, .slice a1 s.funcs.length c1]] (w.alloc (.cells #[.slice a0 s.consts.length c0, .slice a1 s.funcs.length c1] 25)) fun e w1 => e = .returned (.bool s.right) ∧ w1.cell? ⟨w.heap.size, 1, none⟩ = some (.slice a1 s.funcs.length c1) ∧ Hid (Below w.heap.size w w1) ∧ Hid (w.heap.size < w1.heap.size)) := hid7 (hRt.mono fun e w1 ⟨h1, h2⟩ => by
    have e2 : (w.alloc (.cells #[.slice a0 s.consts.length c0, .slice a1 s.funcs.length c1] 25)).heap[w.heap.size]? = some (.cells #[.slice a0 s.consts.length c0, .slice a1 s.funcs.length c1] 25 (0, 0)) := heap_alloc_new w _
    have e3 := (h2.block _ (blk_lt e2)).trans e2
    exact ⟨h1, by simp [World.cell?, e3], hid7 (b1.trans (h2.mono b1.size)), hid7 (blk_lt e3)⟩)
  have hfl := hsf.2.1
  by_cases hr : s.right = true
  · obtain ⟨A0, hA0⟩ : ∃ A0, A0 = allS s := ⟨_, rfl⟩
    rw [← hA0]
    have HA : Hid (A0 = allFrom s.funcs s.funcs.length 0 []) := hid7 (by rw [hA0, allS, if_pos hr])
    obtain ⟨f1, f2, f3⟩ := right_facts hr
    have HS : Hid (∀ w1 k, k < s.funcs.length → Below w.heap.size w w1 → Calls Try.prog 25 #[.slice a1 s.funcs.length c1, .int .i64 k] w1 fun e w2 => ∃ a c, e = .returned (.tuple #[.slice a (stacksS s.funcs (fnAt s.funcs k)).2.length c, .int .i64 (stacksS s.funcs (fnAt s.funcs k)).1]) ∧ Below w1.heap.size w1 w2 ∧ Hid (Calls Try.prog 31 #[.slice a (stacksS s.funcs (fnAt s.funcs k)).2.length c] w2 fun e w3 => e = .returned (.int .i64 (longS (stacksS s.funcs (fnAt s.funcs k)).2 (stacksS s.funcs (fnAt s.funcs k)).2.length : Nat)) ∧ w3 = w2)) := hid7 fun w1 k hk hb => (stacks_right hr k hk a1 c1 w1 (n1.keep fun x v h => (hb.cell (World.block_lt_of_cell? w x h)).trans h)).mono fun e w2 ⟨a, c, h1, h2, h3⟩ => ⟨a, c, h1, h3, hid7 (by
      obtain ⟨q1, q2⟩ := stacks_rows s.funcs (fnAt s.funcs k)
      have hc := (f3 (fnAt s.funcs k) (by rw [← fnAt_get hk]; exact List.getElem_mem _)).c
      exact greatest_any _ a c _ rfl (by omega) (fun r hr => by have := q1 r hr; omega) w2 h2)⟩
    rw [hr] at HR
    clear hRt hk1 n0 n1 b1 hr hA0 f3
    have hNext : Hid (∀ k m acc, k + (m + 1) = s.funcs.length → A0 = allFrom s.funcs (m + 1) k acc → A0 = if (stacksS s.funcs (fnAt s.funcs k)).1 = 0 then allFrom s.funcs m (k + 1) (acc ++ [((longS (stacksS s.funcs (fnAt s.funcs k)).2 (stacksS s.funcs (fnAt s.funcs k)).2.length : Nat) : Int)]) else ((stacksS s.funcs (fnAt s.funcs k)).1, [])) := hid7 fun k m acc _ h => h
    obtain ⟨fs, hfs⟩ : ∃ fs, fs = s.funcs := ⟨_, rfl⟩
    rw [← hfs] at HR HA HS hfl f1 f2 hNext ⊢
    obtain ⟨fl, hfll⟩ : ∃ fl, fl = fs.length := ⟨_, rfl⟩
    rw [← hfll] at HR HA HS hfl f1 f2 hNext ⊢
    clear hfs hfll hfl hsf
    generalize s.consts.length = cl at HR ⊢
    go_enter Try.func15, Try.ntmps15
    go_wp2_with (first | (go_at_call 24; refine HR.out.mono ?_; clear HR; rintro e w1 ⟨rfl, d1, B1, l1⟩) | fail)
    go_loopw [2, 13] (fun mv iv wr => ∃ (k : Nat) (acc : List Int), iv = .int .i64 k ∧ k ≤ fl ∧ Hid (acc.length = k) ∧ Hid (A0 = allFrom fs (fl - k) k acc) ∧ wr.ownsRow w1.heap.size 3 1 mv acc.length (cellsN acc) ∧ Below w1.heap.size w1 wr) (fun _ iv _ => fl - (intOf iv).toNat)
    case atStart => exact ⟨0, [], rfl, Nat.zero_le _, hid7 rfl, HA, World.ownsRow_nil _ _ _ _, Below.refl _ _⟩
    case round =>
      obtain ⟨k, acc, rfl, hk, hal, hrun, hrow, hb⟩ := hrel
      have hr := hid7 hrow
      obtain ⟨ra, rc, eav, hrc, _⟩ := row_form hrow
      subst eav
      clear hrow
      have bb := hid7 (B1.out.trans (hb.mono B1.out.size))
      have d2 := (hb.cell (World.block_lt_of_cell? w1 _ d1)).trans d1
      by_cases hkf : k < fl
      · have hS := hid7 (HS.out wr k hkf bb.out)
        have hrun2 := hid7 (hNext.out k (fl - (k + 1)) acc (by omega) (by rw [show fl - (k + 1) + 1 = fl - k by omega]; exact hrun.out))
        generalize stacksS fs (fnAt fs k) = Q at hS hrun2
        obtain ⟨er, RR⟩ := Q
        simp only at hS hrun2
        generalize hlg : longS RR RR.length = lg at hS hrun2
        generalize hlr : RR.length = lr at hS
        clear hlg hlr hrun
        have hal2 := hal.out
        generalize hac : acc.length = al at hr hrc hal2
        by_cases her : er = 0
        · subst her
          have HE2 := hid7 (hrun2.out.trans (if_pos rfl))
          have HQ : Hid (∀ w4, Below wr.heap.size wr w4 → (w4.alloc (.cells #[.int .i64 (lg : Int)] 3)).ownsRow w1.heap.size 3 1 (.slice ra al rc) al (cellsN acc) ∧ w1.heap.size ≤ w4.heap.size) := hid7 fun w4 hb4 => ⟨World.ownsRow.alloc (row_keep7 hr.out hb4) _, Nat.le_trans hb.size hb4.size⟩
          have hal3 : al ≤ 16 := by omega
          have HAL := hid7 (And.intro hal2 hac)
          clear hac hal2 hrun2
          go_wp2_with (first
            | (go_at_call 25; refine hS.out.mono ?_; clear hS; rintro e w4 ⟨a4, c4, rfl, b4, hG⟩; obtain ⟨R4, s4⟩ := HQ.out w4 b4; have R4 := hid7 R4)
            | (go_at_call 31; refine hG.out.mono ?_; clear hG; rintro e w5 ⟨rfl, w5e⟩; rw [w5e]; clear w5e)
            | (at_builtin; refine wpList_appN _ rfl _ _ 35 rfl elemN_int w1.heap.size _ al (cellsN acc) rfl R4.out _ rfl 1 [.int .i64 (lg : Int)] (.inr ⟨⟨_, 0, none⟩, 1, rfl, cells_new6 _ [.int .i64 (lg : Int)] 3 _ rfl⟩) rfl (by simp [Value.oneCell']) (by unfold maxLen; omega) (by omega) (by simp; omega) ?_; intro v' w6 hr6 hs6)
            | fail)
          have ball : Below w4.heap.size w4 (w4.alloc (.cells #[.int .i64 (lg : Int)] 3)) := (Below.refl _ _).alloc (Nat.le_refl _) _
          have b6 := hs6.below (B := w1.heap.size) (by simp; omega) (fun g e => (R4.out.lt g e).1)
          refine ⟨⟨k + 1, acc ++ [(lg : Int)], by go_num, by omega, hid7 (by rw [List.length_append, hal.out]; rfl), hid7 (by rw [show fl - (k + 1) = fl - (k + 1) from rfl]; exact HE2.out), ?_, ?_⟩, by simp [intOf]; omega⟩
          · rw [List.length_append, List.length_singleton, HAL.out.2, show cellsN (acc ++ [(lg : Int)]) = cellsN acc ++ [.int .i64 (lg : Int)] by simp [cellsN]]
            exact hr6
          · exact ((hb.trans (b4.mono hb.size)).trans (ball.mono s4)).trans b6
        · have hne : (er != 0) = true := by simpa using her
          have HE2 := hid7 (hrun2.out.trans (if_neg her))
          clear hac hal2 hal hrun2
          go_wp2_with (first | (go_at_call 25; refine hS.out.mono ?_; clear hS; rintro e w4 ⟨a4, c4, rfl, b4, hG⟩) | fail)
          go_ret2
          exact ⟨none, 0, by rw [HE2.out]; rfl, by rw [HE2.out]; exact .inl rfl, bb.out.trans (b4.mono bb.out.size)⟩
      · have hkf : k = fl := by omega
        have HE2 : Hid (A0 = (0, acc)) := hid7 (by have := hrun.out; rw [hkf, Nat.sub_self, allFrom] at this; exact this)
        clear hrun
        go_wp2
        go_ret2
        refine ⟨ra, rc, by rw [HE2.out]; rfl, ?_, bb.out⟩
        rw [HE2.out]
        exact (ns_in_row hr.out).at'
  · have hr' : s.right = false := by simpa using hr
    have e1 : allS s = (30, []) := by rw [allS, if_neg hr]
    rw [e1]
    rw [hr'] at HR
    have HE : Hid (∀ w1 e, Below w.heap.size w w1 → e = .returned (.tuple #[.slice none 0 0, .int .i64 30]) → AllEnd (30, []) w e w1) := hid7 fun w1 e hb he => ⟨none, 0, he, .inl rfl, hb⟩
    clear hRt hk1 n0 n1 b1 hr hr' e1
    generalize s.funcs.length = fl at HR hfl ⊢
    generalize s.consts.length = cl at HR ⊢
    go_enter Try.func15, Try.ntmps15
    go_wp2_with (first | (go_at_call 24; refine HR.out.mono ?_; clear HR; rintro e w1 ⟨rfl, d1, B1, l1⟩) | fail)
    go_ret2
    exact HE.out _ _ B1.out rfl
end Go.Proofs.Ytnidakplcaanfaa
