/- What an instruction takes and puts: taken, given. What an instruction puts: given. -/
import Derived.Test.YtnidakplcaanfaaTI
namespace Go.Proofs.Ytnidakplcaanfaa
open Go.RowKit Go.Shelf
def fnAt (fs : List Fn) (k : Int) : Fn := fs.getD k.toNat ⟨[], [], [], []⟩
def takenS (fs : List Fn) (sl : List Int) (x : Int × Int) : List Int :=
  if x.1 = 10 then [sl.getD x.2.toNat 0] else if x.1 = 53 then (fnAt fs x.2).p else inT x.1
def givenS (fs : List Fn) (sl : List Int) (x : Int × Int) (had : List Int) : List Int :=
  if x.1 = 6 then had ++ had else if x.1 = 7 then had.drop 1 ++ [had.getD 0 0] else if x.1 = 8 then had ++ [had.getD 0 0]
  else if x.1 = 9 then [sl.getD x.2.toNat 0] else if x.1 = 53 then (fnAt fs x.2).r else outT x.1
/-- An instruction that may be: of a function of fs with these slots. -/
def InsR (fs : List Fn) (sl : List Int) (x : Int × Int) : Prop := (x.1 = 9 ∨ x.1 = 10 → 0 ≤ x.2 ∧ x.2 < sl.length) ∧ (x.1 = 53 → 0 ≤ x.2 ∧ x.2 < fs.length)
/-- A row of numbers comes out. -/
def RowIs (ns : List Int) (w : World) (e : Ending) (w' : World) : Prop := ∃ a c, e = .returned (.slice a ns.length c) ∧ NsAt w'.cell? a ns ∧ Below w.heap.size w w'
theorem opT_row (n : Int) (F : Nat) (T : List Int) (w : World) (h : Calls Try.prog F #[.int .i64 n] w fun e w' => e = .returned (sliceOf T w) ∧ w' = worldOf T w) : Calls Try.prog F #[.int .i64 n] w (RowIs T w) := by
  refine h.mono ?_
  rintro e w' ⟨rfl, rfl⟩
  unfold sliceOf worldOf
  by_cases hT : T = []
  · rw [if_pos hT, if_pos hT]
    subst hT
    exact ⟨none, 0, rfl, .inl rfl, Below.refl _ _⟩
  · rw [if_neg hT, if_neg hT]
    refine ⟨_, _, rfl, .inr ⟨_, 0, rfl, fun j hj => ?_⟩, (Below.refl _ w).alloc (Nat.le_refl _) _⟩
    rw [Nat.zero_add, Lib.cell_of_heap (heap_alloc_new w _)]
    simp [hj]
/-- What a walk holds of its functions and slots. -/
structure FSl (wb : Nat) (fs : List Fn) (sl : List Int) (fa : Option Addr) (fc : Nat) (sa : Option Addr) (sc : Nat) (W : World) : Prop where
  f : W.cell? ⟨wb, 0, none⟩ = some (.slice fa fs.length fc)
  s : W.cell? ⟨wb, 1, none⟩ = some (.slice sa sl.length sc)
  fat : FsAt W.cell? fa fs
  sat : NsAt W.cell? sa sl
  scap : sl.length ≤ sc
theorem slot_row {C : Addr → Option Value} {b off : Nat} {sl : List Int} (h : NsAt C (some ⟨b, off, none⟩) sl) (k : Nat) (hk : k < sl.length) : NsAt C (some ⟨b, off + k, none⟩) [sl.getD k 0] := by
  rcases h with rfl | ⟨b', off', e, h⟩
  · cases hk
  · cases e
    refine .inr ⟨b, off + k, rfl, fun j hj => ?_⟩
    have hj0 : j = 0 := by simp at hj; omega
    subst hj0
    rw [Nat.add_zero, h k hk, List.getD_eq_getElem?_getD, List.getElem?_eq_getElem hk]
    rfl
theorem fn_cells {C : Addr → Option Value} {b off : Nat} {fs : List Fn} (h : FsAt C (some ⟨b, off, none⟩) fs) (k : Nat) (hk : k < fs.length) : ∃ a0 c0 a1 c1, C ⟨b, off + k * 4, none⟩ = some (.slice a0 (fnAt fs k).p.length c0) ∧ NsAt C a0 (fnAt fs k).p ∧ C ⟨b, off + k * 4 + 1, none⟩ = some (.slice a1 (fnAt fs k).r.length c1) ∧ NsAt C a1 (fnAt fs k).r := by
  rcases h with rfl | ⟨b', off', e, h⟩
  · cases hk
  · cases e
    obtain ⟨v0, v1, v2, v3, h0, h1, _, _, ⟨a0, c0, rfl, n0⟩, ⟨a1, c1, rfl, n1⟩, _⟩ := h k hk
    have e : fnAt fs k = fs[k] := by rw [fnAt, Int.toNat_natCast, List.getD_eq_getElem?_getD, List.getElem?_eq_getElem hk]; rfl
    rw [e]
    exact ⟨a0, c0, a1, c1, h0, n0, h1, n1⟩
theorem fs_some {C : Addr → Option Value} {a : Option Addr} {fs : List Fn} (h : FsAt C a fs) (h0 : 0 < fs.length) : ∃ b off, a = some ⟨b, off, none⟩ := by
  rcases h with rfl | ⟨b, off, e, _⟩
  · cases h0
  · exact ⟨b, off, e⟩
set_option maxRecDepth 100000 in
set_option maxHeartbeats 1000000 in
theorem taken_any {wb : Nat} {fs : List Fn} {sl : List Int} {fa : Option Addr} {fc : Nat} {sa : Option Addr} {sc : Nat} (x : Int × Int) (hx : InsR fs sl x) (bs : sl.length ≤ 1000) (bf : fs.length ≤ 1000) (W : World) (h : FSl wb fs sl fa fc sa sc W) :
    Calls Try.prog 86 #[.pointer (some ⟨wb, 0, none⟩), .agg #[.int .i64 x.1, .int .i64 x.2]] W (RowIs (takenS fs sl x) W) := by
  obtain ⟨n, A⟩ := x
  simp only
  have b1 := (Below.refl _ W).alloc (Nat.le_refl _) (.cells #[.int .i64 n, .int .i64 A] 53)
  have hk : ∀ x v, W.cell? x = some v → (W.alloc (.cells #[.int .i64 n, .int .i64 A] 53)).cell? x = some v := fun x v hh => (b1.cell (World.block_lt_of_cell? W x hh)).trans hh
  have hlt := World.block_lt_of_cell? W _ h.f
  by_cases h10 : n = 10
  · subst h10
    obtain ⟨g1, g2⟩ := hx.1 (.inr rfl)
    simp only at g1 g2
    obtain ⟨k, rfl⟩ : ∃ k : Nat, A = k := ⟨A.toNat, by omega⟩
    obtain ⟨sb, so, rfl⟩ := ns_some h.sat (by omega)
    have c1 := h.s
    have hcap : (k : Int) + 1 ≤ sc := by have := h.scap; omega
    have hkk : k < sl.length := by omega
    have HE : Hid (∀ e m c', e = .returned (.slice (some ⟨sb, so + k, none⟩) 1 c') → RowIs (takenS fs sl (10, k)) W e ((W.alloc (.cells #[.int .i64 10, .int .i64 k] 53)).drewN m)) := hid7 fun e m c' he => by
      have e1 : takenS fs sl (10, k) = [sl.getD k 0] := by simp [takenS]
      rw [e1]
      exact ⟨_, c', he, (slot_row h.sat k hkk).keep hk, below_draws2 b1 m⟩
    generalize sl.length = sn at c1 g2 bs hkk
    clear h hx hk b1
    go_enter Try.func86, Try.ntmps86
    go_wp2
    go_quiet (fail)
    go_wp2
    go_ret
    exact HE.out _ _ _ rfl
  by_cases h53 : n = 53
  · subst h53
    obtain ⟨g1, g2⟩ := hx.2 rfl
    simp only at g1 g2
    obtain ⟨k, rfl⟩ : ∃ k : Nat, A = k := ⟨A.toNat, by omega⟩
    obtain ⟨fb, fo, rfl⟩ := fs_some h.fat (by omega)
    obtain ⟨a0, c0, a1, c1', q0, q1, _, _⟩ := fn_cells h.fat k (by omega)
    have c0' := h.f
    have HE : Hid (∀ e m, e = .returned (.slice a0 (fnAt fs k).p.length c0) → RowIs (takenS fs sl (53, k)) W e ((W.alloc (.cells #[.int .i64 53, .int .i64 k] 53)).drewN m)) := hid7 fun e m he => by
      have e1 : takenS fs sl (53, k) = (fnAt fs k).p := by simp [takenS]
      rw [e1]
      exact ⟨_, _, he, q1.keep hk, below_draws2 b1 m⟩
    have hlt2 := World.block_lt_of_cell? W _ q0
    generalize (fnAt fs k).p.length = pl at q0 HE
    generalize fs.length = fn at c0' g2 bf
    clear h hx hk b1 q1
    go_enter Try.func86, Try.ntmps86
    go_wp2
    go_quiet (fail)
    go_wp2
    go_ret
    exact HE.out _ _ rfl
  · have hI := hid7 (opT_row n 41 (inT n) _ (in_any n (W.alloc (.cells #[.int .i64 n, .int .i64 A] 53))))
    have e1 : takenS fs sl (n, A) = inT n := by simp [takenS, h10, h53]
    rw [e1]
    have HE : Hid (∀ e w', RowIs (inT n) (W.alloc (.cells #[.int .i64 n, .int .i64 A] 53)) e w' → RowIs (inT n) W e w') := hid7 fun e w' ⟨a, c, q1, q2, q3⟩ => ⟨a, c, q1, q2, b1.trans (q3.mono b1.size)⟩
    generalize inT n = T at hI HE
    unfold RowIs at hI
    clear h hx hk b1 e1
    go_enter Try.func86, Try.ntmps86
    go_wp2_with (first | (go_at_call 41; refine hI.out.mono ?_; clear hI; rintro e w1 ⟨a1, c1, rfl, q2, q3⟩; have K1 := hid7 (And.intro q2 q3); clear q2 q3) | fail)
    go_ret
    exact HE.out _ _ ⟨a1, c1, rfl, K1.out.1, K1.out.2⟩
end Go.Proofs.Ytnidakplcaanfaa
namespace Go.Proofs.Ytnidakplcaanfaa
open Go.RowKit Go.Shelf
theorem IntEnd.row {ns : List Int} {w w0 : World} {e : Ending} {w' : World} (h : IntEnd ns w e w') (hb : Below w0.heap.size w0 w) : RowIs ns w0 e w' := by
  obtain ⟨a, c, he, _, hr, h2⟩ := h
  exact ⟨a, c, he, (ns_in_row hr).at', hb.trans (h2.mono hb.size)⟩
theorem ns_one_new (V : World) (y : Int) : NsAt (V.alloc (.cells #[.int .i64 y] 3)).cell? (some ⟨V.heap.size, 0, none⟩) [y] := .inr ⟨_, 0, rfl, fun j hj => by
  have hj0 : j = 0 := by simp at hj; omega
  subst hj0
  rw [Nat.zero_add, Lib.cell_of_heap (heap_alloc_new V _)]
  rfl⟩
theorem ns_tail {C : Addr → Option Value} {b off : Nat} {x y : Int} (h : NsAt C (some ⟨b, off, none⟩) [x, y]) : NsAt C (some ⟨b, off + 1, none⟩) [y] := by
  rcases h with h | ⟨b', off', e, h⟩
  · cases h
  · cases e
    refine .inr ⟨b, off + 1, rfl, fun j hj => ?_⟩
    have hj0 : j = 0 := by simp at hj; omega
    subst hj0
    exact h 1 (by simp)
set_option maxRecDepth 100000 in
set_option maxHeartbeats 1000000 in
theorem given_any {wb : Nat} {fs : List Fn} {sl : List Int} {fa : Option Addr} {fc : Nat} {sa : Option Addr} {sc : Nat} (x : Int × Int) (hx : InsR fs sl x) (bs : sl.length ≤ 1000) (bf : fs.length ≤ 1000) (W : World) (h : FSl wb fs sl fa fc sa sc W)
    (had : List Int) (ha : Option Addr) (hc hn : Nat) (hl : had.length = hn) (bh : hn ≤ 1000) (hcap : hn ≤ hc) (hN : NsAt W.cell? ha had) (h78 : x.1 = 7 ∨ x.1 = 8 → hn = 2) :
    Calls Try.prog 88 #[.pointer (some ⟨wb, 0, none⟩), .agg #[.int .i64 x.1, .int .i64 x.2], .slice ha hn hc] W (RowIs (givenS fs sl x had) W) := by
  obtain ⟨n, A⟩ := x
  simp only at h78 ⊢
  have b1 := (Below.refl _ W).alloc (Nat.le_refl _) (.cells #[.int .i64 n, .int .i64 A] 53)
  have hk : ∀ x v, W.cell? x = some v → (W.alloc (.cells #[.int .i64 n, .int .i64 A] 53)).cell? x = some v := fun x v hh => (b1.cell (World.block_lt_of_cell? W x hh)).trans hh
  have hlt := World.block_lt_of_cell? W _ h.f
  by_cases h6 : n = 6
  · subst h6
    have hP := hid7 (put_any ha ha hc hc hn hn had had hl hl (by omega) (by omega) (W.alloc (.cells #[.int .i64 6, .int .i64 A] 53)) (hN.keep hk) (hN.keep hk))
    have hPr : Hid (Calls Try.prog 87 #[.slice ha hn hc, .slice ha hn hc] (W.alloc (.cells #[.int .i64 6, .int .i64 A] 53)) fun e w' => ∃ a c, e = .returned (.slice a (hn + hn) c) ∧ Hid (RowIs (givenS fs sl (6, A) had) W e w')) := hid7 (hP.out.mono fun e w' q => by
      have e1 : givenS fs sl (6, A) had = had ++ had := by simp [givenS]
      obtain ⟨a, c, he, q2⟩ := q
      exact ⟨a, c, by rw [he, List.length_append, hl], hid7 (by rw [e1]; exact IntEnd.row ⟨a, c, he, q2⟩ b1)⟩)
    clear hP h hx hk b1 hN
    go_enter Try.func88, Try.ntmps88
    go_wp2_with (first | (go_at_call 87; refine hPr.out.mono ?_; clear hPr; rintro e w1 ⟨a1, c1, rfl, K1⟩) | fail)
    go_ret
    exact K1.out
  by_cases h7 : n = 7
  · subst h7
    have h2 := h78 (.inl rfl)
    subst h2
    obtain ⟨y, z, rfl⟩ : ∃ y z, had = [y, z] := by
      match had, hl with
      | [y, z], _ => exact ⟨y, z, rfl⟩
    obtain ⟨hb, ho, rfl⟩ := ns_some hN (by simp)
    have c0 := ns_at hN 0 (by simp)
    simp only [List.getD_eq_getElem?_getD, List.getElem?_cons_zero, Option.getD_some, Nat.add_zero] at c0
    have hcc : (2 : Int) ≤ hc := by omega
    have h1c : hc ≠ 1 := by omega
    have HP : Hid (Calls Try.prog 87 #[.slice (some ⟨hb, ho + 1, none⟩) 1 (hc - 1), .slice (some ⟨W.heap.size + 1, 0, none⟩) 1 1] ((W.alloc (.cells #[.int .i64 7, .int .i64 A] 53)).alloc (.cells #[.int .i64 y] 3)).drew fun e w' => ∃ a c, e = .returned (.slice a 2 c) ∧ Hid (RowIs (givenS fs sl (7, A) [y, z]) W e w')) := hid7 (by
      have bV := (b1.alloc b1.size (.cells #[.int .i64 y] 3)).drew
      have hone := ns_one_new (W.alloc (.cells #[.int .i64 7, .int .i64 A] 53)) y
      rw [World.size_alloc] at hone
      refine (put_any (some ⟨hb, ho + 1, none⟩) (some ⟨W.heap.size + 1, 0, none⟩) (hc - 1) 1 1 1 [z] [y] rfl rfl (by omega) (by omega) _ ((ns_tail hN).keep fun x v hh => (bV.cell (World.block_lt_of_cell? W x hh)).trans hh) hone).mono fun e w' q => ?_
      have e1 : givenS fs sl (7, A) [y, z] = [z] ++ [y] := by simp [givenS]
      obtain ⟨a, c, he, q2⟩ := q
      exact ⟨a, c, he, hid7 (by rw [e1]; exact IntEnd.row ⟨a, c, he, q2⟩ bV)⟩)
    have hltb := World.block_lt_of_cell? W _ c0
    clear h hx hk b1 hN
    go_enter Try.func88, Try.ntmps88
    go_wp2_with fail
    go_region_with (first | (go_at_call 87; refine HP.out.mono ?_; clear HP; rintro e w1 ⟨a1, c1, rfl, K1⟩) | fail)
    all_goals
      go_wp2
      go_ret
      exact K1.out
  by_cases h8 : n = 8
  · subst h8
    have h2 := h78 (.inr rfl)
    subst h2
    obtain ⟨y, z, rfl⟩ : ∃ y z, had = [y, z] := by
      match had, hl with
      | [y, z], _ => exact ⟨y, z, rfl⟩
    obtain ⟨hb, ho, rfl⟩ := ns_some hN (by simp)
    have c0 := ns_at hN 0 (by simp)
    simp only [List.getD_eq_getElem?_getD, List.getElem?_cons_zero, Option.getD_some, Nat.add_zero] at c0
    have HP : Hid (Calls Try.prog 87 #[.slice (some ⟨hb, ho, none⟩) 2 hc, .slice (some ⟨W.heap.size + 1, 0, none⟩) 1 1] ((W.alloc (.cells #[.int .i64 8, .int .i64 A] 53)).alloc (.cells #[.int .i64 y] 3)) fun e w' => ∃ a c, e = .returned (.slice a 3 c) ∧ Hid (RowIs (givenS fs sl (8, A) [y, z]) W e w')) := hid7 (by
      have bV := b1.alloc b1.size (.cells #[.int .i64 y] 3)
      have hone := ns_one_new (W.alloc (.cells #[.int .i64 8, .int .i64 A] 53)) y
      rw [World.size_alloc] at hone
      refine (put_any (some ⟨hb, ho, none⟩) (some ⟨W.heap.size + 1, 0, none⟩) hc 1 2 1 [y, z] [y] rfl rfl (by omega) (by omega) _ (hN.keep fun x v hh => (bV.cell (World.block_lt_of_cell? W x hh)).trans hh) hone).mono fun e w' q => ?_
      have e1 : givenS fs sl (8, A) [y, z] = [y, z] ++ [y] := by simp [givenS]
      obtain ⟨a, c, he, q2⟩ := q
      exact ⟨a, c, he, hid7 (by rw [e1]; exact IntEnd.row ⟨a, c, he, q2⟩ bV)⟩)
    have hltb := World.block_lt_of_cell? W _ c0
    clear h hx hk b1 hN
    go_enter Try.func88, Try.ntmps88
    go_wp2_with (first | (go_at_call 87; refine HP.out.mono ?_; clear HP; rintro e w1 ⟨a1, c1, rfl, K1⟩) | fail)
    go_ret
    exact K1.out
  by_cases h9 : n = 9
  · subst h9
    obtain ⟨g1, g2⟩ := hx.1 (.inl rfl)
    simp only at g1 g2
    obtain ⟨k, rfl⟩ : ∃ k : Nat, A = k := ⟨A.toNat, by omega⟩
    obtain ⟨sb, so, rfl⟩ := ns_some h.sat (by omega)
    have c1 := h.s
    have hcap' : (k : Int) + 1 ≤ sc := by have := h.scap; omega
    have hkk : k < sl.length := by omega
    have HE : Hid (∀ e m c', e = .returned (.slice (some ⟨sb, so + k, none⟩) 1 c') → RowIs (givenS fs sl (9, k) had) W e ((W.alloc (.cells #[.int .i64 9, .int .i64 k] 53)).drewN m)) := hid7 fun e m c' he => by
      have e1 : givenS fs sl (9, k) had = [sl.getD k 0] := by simp [givenS]
      rw [e1]
      exact ⟨_, c', he, (slot_row h.sat k hkk).keep hk, below_draws2 b1 m⟩
    generalize sl.length = sn at c1 g2 bs hkk
    clear h hx hk b1 hN
    go_enter Try.func88, Try.ntmps88
    go_wp2
    go_quiet (fail)
    go_wp2
    go_ret
    exact HE.out _ _ _ rfl
  by_cases h53 : n = 53
  · subst h53
    obtain ⟨g1, g2⟩ := hx.2 rfl
    simp only at g1 g2
    obtain ⟨k, rfl⟩ : ∃ k : Nat, A = k := ⟨A.toNat, by omega⟩
    obtain ⟨fb, fo, rfl⟩ := fs_some h.fat (by omega)
    obtain ⟨a0, c0, a1, c1', _, _, q0, q1⟩ := fn_cells h.fat k (by omega)
    have c0' := h.f
    have HE : Hid (∀ e m, e = .returned (.slice a1 (fnAt fs k).r.length c1') → RowIs (givenS fs sl (53, k) had) W e ((W.alloc (.cells #[.int .i64 53, .int .i64 k] 53)).drewN m)) := hid7 fun e m he => by
      have e1 : givenS fs sl (53, k) had = (fnAt fs k).r := by simp [givenS]
      rw [e1]
      exact ⟨_, _, he, q1.keep hk, below_draws2 b1 m⟩
    have hlt2 := World.block_lt_of_cell? W _ q0
    generalize (fnAt fs k).r.length = pl at q0 HE
    generalize fs.length = fn at c0' g2 bf
    clear h hx hk b1 q1 hN
    go_enter Try.func88, Try.ntmps88
    go_wp2
    go_quiet (fail)
    go_wp2
    go_ret
    exact HE.out _ _ rfl
  · have hI := hid7 (opT_row n 42 (outT n) _ (out_any n (W.alloc (.cells #[.int .i64 n, .int .i64 A] 53))))
    have e1 : givenS fs sl (n, A) had = outT n := by simp [givenS, h6, h7, h8, h9, h53]
    rw [e1]
    have HE : Hid (∀ e w', RowIs (outT n) (W.alloc (.cells #[.int .i64 n, .int .i64 A] 53)) e w' → RowIs (outT n) W e w') := hid7 fun e w' ⟨a, c, q1, q2, q3⟩ => ⟨a, c, q1, q2, b1.trans (q3.mono b1.size)⟩
    generalize outT n = T at hI HE
    unfold RowIs at hI
    clear h hx hk b1 e1 hN
    go_enter Try.func88, Try.ntmps88
    go_wp2_with (first | (go_at_call 42; refine hI.out.mono ?_; clear hI; rintro e w1 ⟨a1, c1, rfl, q2, q3⟩; have K1 := hid7 (And.intro q2 q3); clear q2 q3) | fail)
    go_ret
    exact HE.out _ _ ⟨a1, c1, rfl, K1.out.1, K1.out.2⟩
end Go.Proofs.Ytnidakplcaanfaa
