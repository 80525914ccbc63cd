/- Scripts in memory. The document's Clone: what its region of four copies leaves, in whatever order. -/
import Derived.Test.YtnidakplcaanfaaWG
import Derived.Test.YtnidakplcaanfaaAN
import Derived.Test.YtnidakplcaanfaaRI
namespace Go.Proofs.Ytnidakplcaanfaa
open Go.RowKit
/-- A function and a script, as lists. -/
structure Fn where
  p : List Int
  r : List Int
  l : List Int
  code : List (Int × Int)
  deriving DecidableEq
structure Scr where
  consts : List (List UInt8)
  funcs : List Fn
  deriving DecidableEq
/-- At ao there lie numbers, texts, instructions. -/
def NsAt (C : Addr → Option Value) (ao : Option Addr) (ns : List Int) : Prop := ns = [] ∨ ∃ b off, ao = some ⟨b, off, none⟩ ∧ ∀ j (h : j < ns.length), C ⟨b, off + j, none⟩ = some (.int .i64 ns[j])
def SsAt (C : Addr → Option Value) (ao : Option Addr) (ss : List (List UInt8)) : Prop := ss = [] ∨ ∃ b off, ao = some ⟨b, off, none⟩ ∧ ∀ j (h : j < ss.length), C ⟨b, off + j, none⟩ = some (.string ⟨ss[j].toArray⟩)
def IsAt (C : Addr → Option Value) (ao : Option Addr) (is : List (Int × Int)) : Prop := is = [] ∨ ∃ b off, ao = some ⟨b, off, none⟩ ∧ ∀ j (h : j < is.length), C ⟨b, off + j * 2, none⟩ = some (.int .i64 is[j].1) ∧ C ⟨b, off + j * 2 + 1, none⟩ = some (.int .i64 is[j].2)
/-- The four slices of a function. -/
def FnIs (C : Addr → Option Value) (f : Fn) (v0 v1 v2 v3 : Value) : Prop :=
  (∃ a c, v0 = .slice a f.p.length c ∧ NsAt C a f.p) ∧ (∃ a c, v1 = .slice a f.r.length c ∧ NsAt C a f.r) ∧ (∃ a c, v2 = .slice a f.l.length c ∧ NsAt C a f.l) ∧ (∃ a c, v3 = .slice a f.code.length c ∧ IsAt C a f.code)
def FsAt (C : Addr → Option Value) (ao : Option Addr) (fs : List Fn) : Prop := fs = [] ∨ ∃ b off, ao = some ⟨b, off, none⟩ ∧ ∀ j (h : j < fs.length), ∃ v0 v1 v2 v3, C ⟨b, off + j * 4, none⟩ = some v0 ∧ C ⟨b, off + j * 4 + 1, none⟩ = some v1 ∧ C ⟨b, off + j * 4 + 2, none⟩ = some v2 ∧ C ⟨b, off + j * 4 + 3, none⟩ = some v3 ∧ FnIs C fs[j] v0 v1 v2 v3
/-- A script's value. -/
def ScIs (C : Addr → Option Value) (s : Scr) (v0 v1 : Value) : Prop := (∃ a c, v0 = .slice a s.consts.length c ∧ SsAt C a s.consts) ∧ (∃ a c, v1 = .slice a s.funcs.length c ∧ FsAt C a s.funcs)
theorem NsAt.keep {C C' : Addr → Option Value} {ao : Option Addr} {ns : List Int} (h : NsAt C ao ns) (hk : ∀ a v, C a = some v → C' a = some v) : NsAt C' ao ns := by
  rcases h with h | ⟨b, off, h, hc⟩
  · exact .inl h
  · exact .inr ⟨b, off, h, fun j hj => hk _ _ (hc j hj)⟩
theorem SsAt.keep {C C' : Addr → Option Value} {ao : Option Addr} {ns : List (List UInt8)} (h : SsAt C ao ns) (hk : ∀ a v, C a = some v → C' a = some v) : SsAt C' ao ns := by
  rcases h with h | ⟨b, off, h, hc⟩
  · exact .inl h
  · exact .inr ⟨b, off, h, fun j hj => hk _ _ (hc j hj)⟩
theorem IsAt.keep {C C' : Addr → Option Value} {ao : Option Addr} {ns : List (Int × Int)} (h : IsAt C ao ns) (hk : ∀ a v, C a = some v → C' a = some v) : IsAt C' ao ns := by
  rcases h with h | ⟨b, off, h, hc⟩
  · exact .inl h
  · exact .inr ⟨b, off, h, fun j hj => ⟨hk _ _ (hc j hj).1, hk _ _ (hc j hj).2⟩⟩
theorem FnIs.keep {C C' : Addr → Option Value} {f : Fn} {v0 v1 v2 v3 : Value} (h : FnIs C f v0 v1 v2 v3) (hk : ∀ a v, C a = some v → C' a = some v) : FnIs C' f v0 v1 v2 v3 := by
  obtain ⟨⟨a0, c0, e0, h0⟩, ⟨a1, c1, e1, h1⟩, ⟨a2, c2, e2, h2⟩, ⟨a3, c3, e3, h3⟩⟩ := h
  exact ⟨⟨a0, c0, e0, h0.keep hk⟩, ⟨a1, c1, e1, h1.keep hk⟩, ⟨a2, c2, e2, h2.keep hk⟩, ⟨a3, c3, e3, h3.keep hk⟩⟩
theorem FsAt.keep {C C' : Addr → Option Value} {ao : Option Addr} {fs : List Fn} (h : FsAt C ao fs) (hk : ∀ a v, C a = some v → C' a = some v) : FsAt C' ao fs := by
  rcases h with h | ⟨b, off, h, hc⟩
  · exact .inl h
  · refine .inr ⟨b, off, h, fun j hj => ?_⟩
    obtain ⟨v0, v1, v2, v3, q0, q1, q2, q3, hf⟩ := hc j hj
    exact ⟨v0, v1, v2, v3, hk _ _ q0, hk _ _ q1, hk _ _ q2, hk _ _ q3, hf.keep hk⟩
theorem ScIs.keep {C C' : Addr → Option Value} {s : Scr} {v0 v1 : Value} (h : ScIs C s v0 v1) (hk : ∀ a v, C a = some v → C' a = some v) : ScIs C' s v0 v1 := by
  obtain ⟨⟨a0, c0, e0, h0⟩, ⟨a1, c1, e1, h1⟩⟩ := h
  exact ⟨⟨a0, c0, e0, h0.keep hk⟩, ⟨a1, c1, e1, h1.keep hk⟩⟩
/-- Cells. -/
def cellsN (ns : List Int) : List Value := ns.map (.int .i64 ·)
def cellsS (ss : List (List UInt8)) : List Value := ss.map fun s => .string ⟨s.toArray⟩
def cellsI (is : List (Int × Int)) : List Value := is.flatMap fun i => [.int .i64 i.1, .int .i64 i.2]
theorem cellsN_len (ns : List Int) : (cellsN ns).length = ns.length * 1 := by simp [cellsN]
theorem cellsS_len (ss : List (List UInt8)) : (cellsS ss).length = ss.length * 1 := by simp [cellsS]
theorem cellsI_len (is : List (Int × Int)) : (cellsI is).length = is.length * 2 := by
  induction is with
  | nil => rfl
  | cons x L ih => simp [cellsI] at ih ⊢; omega
theorem cellsN_one (ns : List Int) : ∀ u ∈ cellsN ns, u.oneCell' = true := by
  intro u hu
  simp [cellsN] at hu
  obtain ⟨x, _, rfl⟩ := hu
  rfl
theorem cellsS_one (ss : List (List UInt8)) : ∀ u ∈ cellsS ss, u.oneCell' = true := by
  intro u hu
  simp [cellsS] at hu
  obtain ⟨x, _, rfl⟩ := hu
  rfl
theorem cellsI_one (is : List (Int × Int)) : ∀ u ∈ cellsI is, u.oneCell' = true := by
  intro u hu
  simp only [cellsI, List.mem_flatMap] at hu
  obtain ⟨x, _, hx⟩ := hu
  simp at hx
  rcases hx with rfl | rfl <;> rfl
theorem cellsI_at (L : List (Int × Int)) : ∀ j (hj : j < L.length), (cellsI L)[j * 2]? = some (.int .i64 L[j].1) ∧ (cellsI L)[j * 2 + 1]? = some (.int .i64 L[j].2) := by
  induction L with
  | nil => intro j hj; simp at hj
  | cons x L ih =>
    intro j hj
    have e : cellsI (x :: L) = .int .i64 x.1 :: .int .i64 x.2 :: cellsI L := by simp [cellsI]
    rw [e]
    cases j with
    | zero => exact ⟨rfl, rfl⟩
    | succ j =>
      have := ih j (by simpa using hj)
      rw [show (j + 1) * 2 = j * 2 + 1 + 1 by omega]
      simpa using this
theorem NsAt.lies {w : World} {a : Option Addr} {ns : List Int} (h : NsAt w.cell? a ns) (c : Nat) : Lies w (.slice a ns.length c) ns.length (cellsN ns) := by
  rcases h with rfl | ⟨b, off, rfl, hc⟩
  · cases a with
    | none => exact .inl ⟨c, rfl, rfl, rfl⟩
    | some ad => exact .inr ⟨ad, c, rfl, fun j u hu => by simp [cellsN] at hu⟩
  · refine .inr ⟨_, c, rfl, fun j u hu => ?_⟩
    obtain ⟨hj, rfl⟩ := List.getElem?_eq_some_iff.1 hu
    rw [Addr.add_lit]
    simpa [cellsN] using hc j (by simpa [cellsN] using hj)
theorem SsAt.lies {w : World} {a : Option Addr} {ns : List (List UInt8)} (h : SsAt w.cell? a ns) (c : Nat) : Lies w (.slice a ns.length c) ns.length (cellsS ns) := by
  rcases h with rfl | ⟨b, off, rfl, hc⟩
  · cases a with
    | none => exact .inl ⟨c, rfl, rfl, rfl⟩
    | some ad => exact .inr ⟨ad, c, rfl, fun j u hu => by simp [cellsS] at hu⟩
  · refine .inr ⟨_, c, rfl, fun j u hu => ?_⟩
    obtain ⟨hj, rfl⟩ := List.getElem?_eq_some_iff.1 hu
    rw [Addr.add_lit]
    simpa [cellsS] using hc j (by simpa [cellsS] using hj)
theorem IsAt.lies {w : World} {a : Option Addr} {is : List (Int × Int)} (h : IsAt w.cell? a is) (c : Nat) : Lies w (.slice a is.length c) is.length (cellsI is) := by
  rcases h with rfl | ⟨b, off, rfl, hc⟩
  · cases a with
    | none => exact .inl ⟨c, rfl, rfl, rfl⟩
    | some ad => exact .inr ⟨ad, c, rfl, fun j u hu => by simp [cellsI] at hu⟩
  · refine .inr ⟨_, c, rfl, fun i u hu => ?_⟩
    have hi : i < (cellsI is).length := (List.getElem?_eq_some_iff.1 hu).1
    rw [cellsI_len] at hi
    have hj : i / 2 < is.length := by omega
    obtain ⟨h0, h1⟩ := hc _ hj
    obtain ⟨g0, g1⟩ := cellsI_at is _ hj
    rw [Addr.add_lit]
    have : i % 2 = 0 ∨ i % 2 = 1 := by omega
    rcases this with h | h
    · have e : i = i / 2 * 2 := by omega
      rw [e] at hu ⊢
      rw [g0] at hu
      rw [← hu]; exact h0
    · have e : i = i / 2 * 2 + 1 := by omega
      rw [e] at hu ⊢
      rw [g1] at hu
      rw [← hu]; exact h1
theorem ns_of_row {w : World} {base n : Nat} {e : TypeId} {v : Value} {ns : List Int} (h : w.ownsRow base e 1 v n (cellsN ns)) {C : Addr → Option Value} (hC : ∀ a x, base ≤ a.block → w.cell? a = some x → C a = some x) : n = ns.length ∧ ∃ a c, v = .slice a n c ∧ n ≤ c ∧ NsAt C a ns := by
  have hn : n = ns.length := by have := h.1; rw [cellsN_len] at this; omega
  subst hn
  obtain ⟨a, c, rfl, hc, _, hx⟩ := row_form h
  refine ⟨rfl, a, c, rfl, hc, ?_⟩
  rcases hx with ⟨_, h0, _⟩ | ⟨g, rfl, hg, _, hcell'⟩
  · exact .inl (List.eq_nil_of_length_eq_zero h0)
  · exact .inr ⟨g, 0, rfl, fun j hj => by rw [Nat.zero_add]; exact hC _ _ hg (hcell' j _ (by simp [cellsN, hj]))⟩
theorem ss_of_row {w : World} {base n : Nat} {e : TypeId} {v : Value} {ns : List (List UInt8)} (h : w.ownsRow base e 1 v n (cellsS ns)) {C : Addr → Option Value} (hC : ∀ a x, base ≤ a.block → w.cell? a = some x → C a = some x) : n = ns.length ∧ ∃ a c, v = .slice a n c ∧ n ≤ c ∧ SsAt C a ns := by
  have hn : n = ns.length := by have := h.1; rw [cellsS_len] at this; omega
  subst hn
  obtain ⟨a, c, rfl, hc, _, hx⟩ := row_form h
  refine ⟨rfl, a, c, rfl, hc, ?_⟩
  rcases hx with ⟨_, h0, _⟩ | ⟨g, rfl, hg, _, hcell'⟩
  · exact .inl (List.eq_nil_of_length_eq_zero h0)
  · exact .inr ⟨g, 0, rfl, fun j hj => by rw [Nat.zero_add]; exact hC _ _ hg (hcell' j _ (by simp [cellsS, hj]))⟩
theorem is_of_row {w : World} {base n : Nat} {e : TypeId} {v : Value} {is : List (Int × Int)} (h : w.ownsRow base e 2 v n (cellsI is)) {C : Addr → Option Value} (hC : ∀ a x, base ≤ a.block → w.cell? a = some x → C a = some x) : n = is.length ∧ ∃ a c, v = .slice a n c ∧ n ≤ c ∧ IsAt C a is := by
  have hn : n = is.length := by have := h.1; rw [cellsI_len] at this; omega
  subst hn
  obtain ⟨a, c, rfl, hc, _, hx⟩ := row_form h
  refine ⟨rfl, a, c, rfl, hc, ?_⟩
  rcases hx with ⟨_, h0, _⟩ | ⟨g, rfl, hg, _, hcell'⟩
  · exact .inl (List.eq_nil_of_length_eq_zero h0)
  · refine .inr ⟨g, 0, rfl, fun j hj => ?_⟩
    obtain ⟨g0, g1⟩ := cellsI_at is j hj
    rw [Nat.zero_add]
    exact ⟨hC _ _ hg (hcell' _ _ g0), hC _ _ hg (hcell' _ _ g1)⟩
/-- The cells of a row of functions. -/
def FRow (C : Addr → Option Value) (fs : List Fn) (xs : List Value) : Prop := xs.length = fs.length * 4 ∧ ∀ j (h : j < fs.length), ∃ v0 v1 v2 v3, xs[j * 4]? = some v0 ∧ xs[j * 4 + 1]? = some v1 ∧ xs[j * 4 + 2]? = some v2 ∧ xs[j * 4 + 3]? = some v3 ∧ FnIs C fs[j] v0 v1 v2 v3
theorem FRow.nil (C : Addr → Option Value) : FRow C [] [] := ⟨rfl, fun j h => by simp at h⟩
theorem FRow.keep {C C' : Addr → Option Value} {fs : List Fn} {xs : List Value} (h : FRow C fs xs) (hk : ∀ a v, C a = some v → C' a = some v) : FRow C' fs xs := by
  refine ⟨h.1, fun j hj => ?_⟩
  obtain ⟨v0, v1, v2, v3, q0, q1, q2, q3, hf⟩ := h.2 j hj
  exact ⟨v0, v1, v2, v3, q0, q1, q2, q3, hf.keep hk⟩
theorem FRow.snoc {C : Addr → Option Value} {fs : List Fn} {xs : List Value} {f : Fn} {v0 v1 v2 v3 : Value} (h : FRow C fs xs) (hf : FnIs C f v0 v1 v2 v3) : FRow C (fs ++ [f]) (xs ++ [v0, v1, v2, v3]) := by
  refine ⟨by simp [h.1]; omega, fun j hj => ?_⟩
  rcases Nat.lt_or_ge j fs.length with hlt | hge
  · obtain ⟨u0, u1, u2, u3, q0, q1, q2, q3, hg⟩ := h.2 j hlt
    have hx := h.1
    refine ⟨u0, u1, u2, u3, ?_, ?_, ?_, ?_, by rw [List.getElem_append_left hlt]; exact hg⟩
    all_goals (rw [List.getElem?_append_left (by omega)]; assumption)
  · have hx := h.1
    obtain rfl : j = fs.length := by simp at hj; omega
    refine ⟨v0, v1, v2, v3, ?_, ?_, ?_, ?_, by simpa using hf⟩
    all_goals
      rw [List.getElem?_append_right (by omega), hx]
      simp
theorem fs_of_row {w : World} {base n : Nat} {e : TypeId} {v : Value} {fs : List Fn} {xs : List Value} (h : w.ownsRow base e 4 v n xs) (hF : FRow w.cell? fs xs) : n = fs.length ∧ ∃ a c, v = .slice a n c ∧ n ≤ c ∧ FsAt w.cell? a fs := by
  have hn : n = fs.length := by have := h.1; rw [hF.1] at this; omega
  subst hn
  obtain ⟨a, c, rfl, hc, _, hx⟩ := row_form h
  refine ⟨rfl, a, c, rfl, hc, ?_⟩
  rcases hx with ⟨_, h0, _⟩ | ⟨g, rfl, hg, _, hcell'⟩
  · exact .inl (List.eq_nil_of_length_eq_zero h0)
  · refine .inr ⟨g, 0, rfl, fun j hj => ?_⟩
    obtain ⟨v0, v1, v2, v3, q0, q1, q2, q3, hf⟩ := hF.2 j hj
    rw [Nat.zero_add]
    exact ⟨v0, v1, v2, v3, hcell' _ _ q0, hcell' _ _ q1, hcell' _ _ q2, hcell' _ _ q3, hf⟩
/-- What lies behind block B, but not in v's own row. -/
def offRow (w : World) (v : Value) (B : Nat) : Addr → Option Value := fun a => if v.ownBlock = some a.block ∨ a.block ≤ B then none else w.cell? a
theorem offRow_le {w : World} {v : Value} {B : Nat} : ∀ a x, offRow w v B a = some x → w.cell? a = some x := fun a x h => by
  unfold offRow at h
  split at h
  · cases h
  · exact h
theorem offRow_step {w w' : World} {v v' : Value} {B : Nat} (hs : Step w v w' v') : ∀ a x, offRow w v B a = some x → offRow w' v' B a = some x := fun a x h => by
  unfold offRow at h
  split at h
  · cases h
  rename_i hne
  have hlt := World.block_lt_of_cell? _ _ h
  have hb := hs.1.block a.block hlt (fun e => hne (.inl (by rw [← e])))
  have hc : w'.cell? a = some x := by
    rw [← h]
    unfold World.cell?
    rw [hb]
  unfold offRow
  rw [if_neg, hc]
  rintro (e | e)
  · rcases hs.2 with e2 | ⟨g, e2, hg⟩
    · rw [e2] at e; exact hne (.inl e)
    · rw [e2] at e
      injection e with e
      omega
  · exact hne (.inr e)
theorem offRow_keep {w w' : World} {v : Value} {B : Nat} (hk : ∀ a x, w.cell? a = some x → w'.cell? a = some x) : ∀ a x, offRow w v B a = some x → offRow w' v B a = some x := fun a x h => by
  unfold offRow at h ⊢
  split at h
  · cases h
  · rename_i hne
    rw [if_neg hne]
    exact hk _ _ h
theorem offRow_new {w : World} {v : Value} {B base : Nat} (hv : ∀ k, v.ownBlock = some k → k < base) (hB : B < base) : ∀ a x, base ≤ a.block → w.cell? a = some x → offRow w v B a = some x := fun a x hb h => by
  unfold offRow
  rw [if_neg, h]
  rintro (e | e)
  · have := hv _ e; omega
  · omega
theorem offRow_set {w : World} {v u : Value} {B b o : Nat} (hb : b ≤ B) : ∀ a x, offRow w v B a = some x → offRow (w.setCell ⟨b, o, none⟩ u) v B a = some x := fun a x h => by
  unfold offRow at h ⊢
  split at h
  · cases h
  · rename_i hne
    rw [if_neg hne]
    have := Below.heap_setCell w ⟨b, o, none⟩ u a.block (fun e => hne (.inr (by have : a.block = b := e; omega)))
    rw [← h]
    unfold World.cell?
    rw [this]
theorem offRow_far {w : World} {v : Value} {B : Nat} : ∀ a x, offRow w v B a = some x → B < a.block := fun a x h => by
  unfold offRow at h
  split at h
  · cases h
  · rename_i hne
    rcases Nat.lt_or_ge B a.block with h1 | h1
    · exact h1
    · exact absurd (.inr h1) hne
theorem elemN_str : ElemN Try.prog 22 9 1 16 := by
  refine ⟨Try.underlying22, ?_, by decide⟩
  obtain ⟨i0, hi, hz0, hz1, hz2⟩ := info_parts (show (Try.prog.info? 9).map (fun i => (i.zero, i.size, i.bytes)) = some (some (.string ⟨#[]⟩), 1, 16) by kernel_rfl)
  exact ⟨i0, _, hi, hz0, hz1, hz2, rfl⟩
theorem elemN_int : ElemN Try.prog 35 3 1 8 := by
  refine ⟨Try.underlying35, ?_, by decide⟩
  obtain ⟨i0, hi, hz0, hz1, hz2⟩ := info_parts (show (Try.prog.info? 3).map (fun i => (i.zero, i.size, i.bytes)) = some (some (.int .i64 0), 1, 8) by kernel_rfl)
  exact ⟨i0, _, hi, hz0, hz1, hz2, rfl⟩
theorem elemN_ins : ElemN Try.prog 48 53 2 16 := by
  refine ⟨Try.underlying48, ?_, by decide⟩
  obtain ⟨i0, hi, hz0, hz1, hz2⟩ := info_parts (show (Try.prog.info? 53).map (fun i => (i.zero, i.size, i.bytes)) = some (some (.agg #[.int .i64 0, .int .i64 0]), 2, 16) by kernel_rfl)
  exact ⟨i0, _, hi, hz0, hz1, hz2, rfl⟩
theorem elemN_fn : ElemN Try.prog 23 50 4 96 := by
  refine ⟨Try.underlying23, ?_, by decide⟩
  obtain ⟨i0, hi, hz0, hz1, hz2⟩ := info_parts (show (Try.prog.info? 50).map (fun i => (i.zero, i.size, i.bytes)) = some (some (.agg #[.slice none 0 0, .slice none 0 0, .slice none 0 0, .slice none 0 0]), 4, 96) by kernel_rfl)
  exact ⟨i0, _, hi, hz0, hz1, hz2, rfl⟩
end Go.Proofs.Ytnidakplcaanfaa
namespace Go.Proofs.Ytnidakplcaanfaa
open Go.RowKit
/-- What each operation leaves: out's box is B, the function's is F. -/
def PrAt (B F base : Nat) (vF v0 v1 v2 v3 : Value) (f : Fn) (i : Nat) (u : Value) (W : World) : Prop :=
  match i with
  | 0 => u = .pointer (some ⟨B, 1, none⟩)
  | 1 => u = vF
  | 2 => ∃ g, u = .slice (some ⟨g, 0, none⟩) 0 0 ∧ base ≤ g ∧ W.heap[g]? = some (.cells #[] 3 (0, 0))
  | 3 => u = .pointer (some ⟨F, 0, none⟩)
  | 4 => u = v0
  | 5 => ∃ a c, u = .slice a f.p.length c ∧ NsAt (offRow W vF B) a f.p
  | 6 => ∃ g, u = .slice (some ⟨g, 0, none⟩) 0 0 ∧ base ≤ g ∧ W.heap[g]? = some (.cells #[] 3 (0, 0))
  | 7 => u = .pointer (some ⟨F, 1, none⟩)
  | 8 => u = v1
  | 9 => ∃ a c, u = .slice a f.r.length c ∧ NsAt (offRow W vF B) a f.r
  | 10 => ∃ g, u = .slice (some ⟨g, 0, none⟩) 0 0 ∧ base ≤ g ∧ W.heap[g]? = some (.cells #[] 3 (0, 0))
  | 11 => u = .pointer (some ⟨F, 2, none⟩)
  | 12 => u = v2
  | 13 => ∃ a c, u = .slice a f.l.length c ∧ NsAt (offRow W vF B) a f.l
  | 14 => ∃ g, u = .slice (some ⟨g, 0, none⟩) 0 0 ∧ base ≤ g ∧ W.heap[g]? = some (.cells #[] 53 (0, 0))
  | 15 => u = .pointer (some ⟨F, 3, none⟩)
  | 16 => u = v3
  | 17 => ∃ a c, u = .slice a f.code.length c ∧ IsAt (offRow W vF B) a f.code
  | 18 => ∃ u0 u1 u2 u3, u = .agg #[u0, u1, u2, u3] ∧ FnIs (offRow W vF B) f u0 u1 u2 u3
  | 19 => ∃ g u0 u1 u2 u3, u = .slice (some ⟨g, 0, none⟩) 1 1 ∧ W.heap[g]? = some (.cells #[u0, u1, u2, u3] 50 (0, 0)) ∧ FnIs (offRow W vF B) f u0 u1 u2 u3
  | 21 => u = .pointer (some ⟨B, 1, none⟩)
  | _ => True
theorem PrAt.below {B F base : Nat} {vF v0 v1 v2 v3 : Value} {f : Fn} {i : Nat} {u : Value} {W W' : World} (h : PrAt B F base vF v0 v1 v2 v3 f i u W) (hb : Below W.heap.size W W') : PrAt B F base vF v0 v1 v2 v3 f i u W' := by
  have hk := offRow_keep (v := vF) (B := B) (below_keep hb)
  unfold PrAt at h ⊢
  split at h
  all_goals first
    | exact h
    | (obtain ⟨g, rfl, h1, hg⟩ := h; exact ⟨g, rfl, h1, by rw [hb.block g (Array.getElem?_eq_some_iff.1 hg).1]; exact hg⟩)
    | (obtain ⟨a, c, rfl, hn⟩ := h; exact ⟨a, c, rfl, hn.keep hk⟩)
    | (obtain ⟨u0, u1, u2, u3, rfl, hn⟩ := h; exact ⟨u0, u1, u2, u3, rfl, hn.keep hk⟩)
    | (obtain ⟨g, u0, u1, u2, u3, rfl, hg, hn⟩ := h; exact ⟨g, u0, u1, u2, u3, rfl, by rw [hb.block g (Array.getElem?_eq_some_iff.1 hg).1]; exact hg, hn.keep hk⟩)
/-- The row with one function more. -/
def NewRow (B k : Nat) (fs : List Fn) (u : Value) (W : World) : Prop := ∃ xs, W.ownsRow (B + 1) 50 4 u (k + 1) xs ∧ FRow (offRow W u B) fs xs
theorem NewRow.below {B k : Nat} {fs : List Fn} {u : Value} {W W' : World} (h : NewRow B k fs u W) (hb : Below W.heap.size W W') : NewRow B k fs u W' := by
  obtain ⟨xs, h1, h2⟩ := h
  exact ⟨xs, row_below2 h1 hb, h2.keep (offRow_keep (below_keep hb))⟩
def CP (B F base k : Nat) (vF v0 v1 v2 v3 : Value) (f : Fn) (fs : List Fn) (listed : Array Bool) (i : Nat) (u : Value) (W : World) : Prop :=
  if i = 20 then listed.getD 22 false = true ∨ NewRow B k fs u W else (listed.getD 20 false = true ∧ i ≠ 21) ∨ PrAt B F base vF v0 v1 v2 v3 f i u W
structure CG (B F k : Nat) (vS vF v0 v1 v2 v3 : Value) (fs : List Fn) (w3 W5 : World) (listed : Array Bool) (W : World) : Prop where
  low : Below B w3 W
  size : W5.heap.size ≤ W.heap.size
  fbox : W.heap[F]? = some (.cells #[v0, v1, v2, v3] 50 (0, 0))
  early : listed.getD 20 false = false → Below W5.heap.size W5 W
  obox : listed.getD 22 false = false → W.heap[B]? = some (.cells #[vS, vF] 25 (0, 0))
  fin : listed.getD 22 false = true → ∃ u, W.heap[B]? = some (.cells #[vS, u] 25 (0, 0)) ∧ NewRow B k fs u W
theorem getD_far {listed : Array Bool} {i j : Nat} (h : i ≠ j) : (listed.setIfInBounds i true).getD j false = listed.getD j false := by
  rw [getD_set, if_neg (fun e => h e.1)]
theorem CG.below {B F k : Nat} {vS vF v0 v1 v2 v3 : Value} {fs : List Fn} {w3 W5 : World} {listed : Array Bool} {W W' : World} (h : CG B F k vS vF v0 v1 v2 v3 fs w3 W5 listed W) (hB : B < W.heap.size) (hb : Below W.heap.size W W') {i : Nat} (h1 : i ≠ 20) (h2 : i ≠ 22) : CG B F k vS vF v0 v1 v2 v3 fs w3 W5 (listed.setIfInBounds i true) W' := by
  refine ⟨h.low.trans (hb.mono (by omega)), Nat.le_trans h.size hb.size, ?_, ?_, ?_, ?_⟩
  · rw [hb.block F (Array.getElem?_eq_some_iff.1 h.fbox).1]; exact h.fbox
  · rw [getD_far h1]; exact fun e => (h.early e).trans (hb.mono h.size)
  · rw [getD_far h2]; exact fun e => by rw [hb.block B hB]; exact h.obox e
  · rw [getD_far h2]
    intro e
    obtain ⟨u, q1, q2⟩ := h.fin e
    exact ⟨u, by rw [hb.block B hB]; exact q1, q2.below hb⟩
theorem CP.below {B F base k : Nat} {vF v0 v1 v2 v3 : Value} {f : Fn} {fs : List Fn} {listed : Array Bool} {W W' : World} (hb : Below W.heap.size W W') {i : Nat} (h1 : i ≠ 20) (h2 : i ≠ 22) : ∀ j u, listed.getD j false = true → CP B F base k vF v0 v1 v2 v3 f fs listed j u W → CP B F base k vF v0 v1 v2 v3 f fs (listed.setIfInBounds i true) j u W' := by
  intro j u _ h
  unfold CP at h ⊢
  rw [getD_far h1, getD_far h2]
  split at h
  · rename_i e
    rw [if_pos e]
    exact h.imp id fun h => h.below hb
  · rename_i e
    rw [if_neg e]
    exact h.imp id fun h => h.below hb
theorem ownsRow_setCell_other' {w : World} {base n size B o : Nat} {e : TypeId} {v : Value} {xs : List Value} (h : w.ownsRow base e size v n xs) (hB : B < base) (u : Value) : (w.setCell ⟨B, o, none⟩ u).ownsRow base e size v n xs := by
  refine ⟨h.1, ?_⟩
  rcases h.2 with h2 | ⟨g, cap, cur, rfl, hg, hh, r⟩
  · exact .inl h2
  · exact .inr ⟨g, cap, cur, rfl, hg, by rw [Below.heap_setCell _ _ _ _ (by show g ≠ B; omega)]; exact hh, r⟩
/-- A step that only makes memory. -/
theorem clone_step {B F base k : Nat} {vS vF v0 v1 v2 v3 : Value} {f : Fn} {fs : List Fn} {w3 W5 : World} {listed : Array Bool} {W W' : World} {a : Act} {dst : Option Tmp} {i : Nat} {v : Value} (hG : CG B F k vS vF v0 v1 v2 v3 fs w3 W5 listed W) (hB : B < W.heap.size) (hb : Below W.heap.size W W') (h1 : i ≠ 20) (h2 : i ≠ 22) (hv : PrAt B F base vF v0 v1 v2 v3 f i v W') :
    ∃ u, a.put dst v = a.put dst u ∧ CP B F base k vF v0 v1 v2 v3 f fs (listed.setIfInBounds i true) i u W' ∧ CG B F k vS vF v0 v1 v2 v3 fs w3 W5 (listed.setIfInBounds i true) W' ∧ ∀ j u, listed.getD j false = true → CP B F base k vF v0 v1 v2 v3 f fs listed j u W → CP B F base k vF v0 v1 v2 v3 f fs (listed.setIfInBounds i true) j u W' :=
  ⟨v, rfl, by unfold CP; rw [if_neg h1]; exact .inr hv, hG.below hB hb h1 h2, CP.below hb h1 h2⟩
end Go.Proofs.Ytnidakplcaanfaa
