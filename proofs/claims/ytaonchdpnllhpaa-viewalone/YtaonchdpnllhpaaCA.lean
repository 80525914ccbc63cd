/- Scripts in memory. -/
import Derived.Test.YtaonchdpnllhpaaWH
import Derived.Test.YtaonchdpnllhpaaAN
namespace Go.Proofs.Ytaonchdpnllhpaa
open Go.RowKit
/-- A function and a script, as lists. -/
structure Fn where
  p : List Int
  r : List Int
  l : List Int
  code : List (Int × Int)
  deriving DecidableEq
structure Scr where
  consts : List (List UInt8)
  funcs : List Fn
  deriving DecidableEq
/-- At ao there lie numbers, texts, instructions. -/
def NsAt (C : Addr → Option Value) (ao : Option Addr) (ns : List Int) : Prop := ns = [] ∨ ∃ b off, ao = some ⟨b, off, none⟩ ∧ ∀ j (h : j < ns.length), C ⟨b, off + j, none⟩ = some (.int .i64 ns[j])
def SsAt (C : Addr → Option Value) (ao : Option Addr) (ss : List (List UInt8)) : Prop := ss = [] ∨ ∃ b off, ao = some ⟨b, off, none⟩ ∧ ∀ j (h : j < ss.length), C ⟨b, off + j, none⟩ = some (.string ⟨ss[j].toArray⟩)
def IsAt (C : Addr → Option Value) (ao : Option Addr) (is : List (Int × Int)) : Prop := is = [] ∨ ∃ b off, ao = some ⟨b, off, none⟩ ∧ ∀ j (h : j < is.length), C ⟨b, off + j * 2, none⟩ = some (.int .i64 is[j].1) ∧ C ⟨b, off + j * 2 + 1, none⟩ = some (.int .i64 is[j].2)
/-- The four slices of a function. -/
def FnIs (C : Addr → Option Value) (f : Fn) (v0 v1 v2 v3 : Value) : Prop :=
  (∃ a c, v0 = .slice a f.p.length c ∧ NsAt C a f.p) ∧ (∃ a c, v1 = .slice a f.r.length c ∧ NsAt C a f.r) ∧ (∃ a c, v2 = .slice a f.l.length c ∧ NsAt C a f.l) ∧ (∃ a c, v3 = .slice a f.code.length c ∧ IsAt C a f.code)
def FsAt (C : Addr → Option Value) (ao : Option Addr) (fs : List Fn) : Prop := fs = [] ∨ ∃ b off, ao = some ⟨b, off, none⟩ ∧ ∀ j (h : j < fs.length), ∃ v0 v1 v2 v3, C ⟨b, off + j * 4, none⟩ = some v0 ∧ C ⟨b, off + j * 4 + 1, none⟩ = some v1 ∧ C ⟨b, off + j * 4 + 2, none⟩ = some v2 ∧ C ⟨b, off + j * 4 + 3, none⟩ = some v3 ∧ FnIs C fs[j] v0 v1 v2 v3
/-- A script's value. -/
def ScIs (C : Addr → Option Value) (s : Scr) (v0 v1 : Value) : Prop := (∃ a c, v0 = .slice a s.consts.length c ∧ SsAt C a s.consts) ∧ (∃ a c, v1 = .slice a s.funcs.length c ∧ FsAt C a s.funcs)
theorem NsAt.keep {C C' : Addr → Option Value} {ao : Option Addr} {ns : List Int} (h : NsAt C ao ns) (hk : ∀ a v, C a = some v → C' a = some v) : NsAt C' ao ns := by
  rcases h with h | ⟨b, off, h, hc⟩
  · exact .inl h
  · exact .inr ⟨b, off, h, fun j hj => hk _ _ (hc j hj)⟩
theorem SsAt.keep {C C' : Addr → Option Value} {ao : Option Addr} {ns : List (List UInt8)} (h : SsAt C ao ns) (hk : ∀ a v, C a = some v → C' a = some v) : SsAt C' ao ns := by
  rcases h with h | ⟨b, off, h, hc⟩
  · exact .inl h
  · exact .inr ⟨b, off, h, fun j hj => hk _ _ (hc j hj)⟩
theorem IsAt.keep {C C' : Addr → Option Value} {ao : Option Addr} {ns : List (Int × Int)} (h : IsAt C ao ns) (hk : ∀ a v, C a = some v → C' a = some v) : IsAt C' ao ns := by
  rcases h with h | ⟨b, off, h, hc⟩
  · exact .inl h
  · exact .inr ⟨b, off, h, fun j hj => ⟨hk _ _ (hc j hj).1, hk _ _ (hc j hj).2⟩⟩
theorem FnIs.keep {C C' : Addr → Option Value} {f : Fn} {v0 v1 v2 v3 : Value} (h : FnIs C f v0 v1 v2 v3) (hk : ∀ a v, C a = some v → C' a = some v) : FnIs C' f v0 v1 v2 v3 := by
  obtain ⟨⟨a0, c0, e0, h0⟩, ⟨a1, c1, e1, h1⟩, ⟨a2, c2, e2, h2⟩, ⟨a3, c3, e3, h3⟩⟩ := h
  exact ⟨⟨a0, c0, e0, h0.keep hk⟩, ⟨a1, c1, e1, h1.keep hk⟩, ⟨a2, c2, e2, h2.keep hk⟩, ⟨a3, c3, e3, h3.keep hk⟩⟩
theorem FsAt.keep {C C' : Addr → Option Value} {ao : Option Addr} {fs : List Fn} (h : FsAt C ao fs) (hk : ∀ a v, C a = some v → C' a = some v) : FsAt C' ao fs := by
  rcases h with h | ⟨b, off, h, hc⟩
  · exact .inl h
  · refine .inr ⟨b, off, h, fun j hj => ?_⟩
    obtain ⟨v0, v1, v2, v3, q0, q1, q2, q3, hf⟩ := hc j hj
    exact ⟨v0, v1, v2, v3, hk _ _ q0, hk _ _ q1, hk _ _ q2, hk _ _ q3, hf.keep hk⟩
theorem ScIs.keep {C C' : Addr → Option Value} {s : Scr} {v0 v1 : Value} (h : ScIs C s v0 v1) (hk : ∀ a v, C a = some v → C' a = some v) : ScIs C' s v0 v1 := by
  obtain ⟨⟨a0, c0, e0, h0⟩, ⟨a1, c1, e1, h1⟩⟩ := h
  exact ⟨⟨a0, c0, e0, h0.keep hk⟩, ⟨a1, c1, e1, h1.keep hk⟩⟩
/-- Cells. -/
def cellsN (ns : List Int) : List Value := ns.map (.int .i64 ·)
def cellsS (ss : List (List UInt8)) : List Value := ss.map fun s => .string ⟨s.toArray⟩
def cellsI (is : List (Int × Int)) : List Value := is.flatMap fun i => [.int .i64 i.1, .int .i64 i.2]
theorem cellsN_len (ns : List Int) : (cellsN ns).length = ns.length * 1 := by simp [cellsN]
theorem cellsS_len (ss : List (List UInt8)) : (cellsS ss).length = ss.length * 1 := by simp [cellsS]
theorem cellsI_len (is : List (Int × Int)) : (cellsI is).length = is.length * 2 := by
  induction is with
  | nil => rfl
  | cons x L ih => simp [cellsI] at ih ⊢; omega
theorem cellsN_one (ns : List Int) : ∀ u ∈ cellsN ns, u.oneCell' = true := by
  intro u hu
  simp [cellsN] at hu
  obtain ⟨x, _, rfl⟩ := hu
  rfl
theorem cellsS_one (ss : List (List UInt8)) : ∀ u ∈ cellsS ss, u.oneCell' = true := by
  intro u hu
  simp [cellsS] at hu
  obtain ⟨x, _, rfl⟩ := hu
  rfl
theorem cellsI_one (is : List (Int × Int)) : ∀ u ∈ cellsI is, u.oneCell' = true := by
  intro u hu
  simp only [cellsI, List.mem_flatMap] at hu
  obtain ⟨x, _, hx⟩ := hu
  simp at hx
  rcases hx with rfl | rfl <;> rfl
theorem cellsI_at (L : List (Int × Int)) : ∀ j (hj : j < L.length), (cellsI L)[j * 2]? = some (.int .i64 L[j].1) ∧ (cellsI L)[j * 2 + 1]? = some (.int .i64 L[j].2) := by
  induction L with
  | nil => intro j hj; simp at hj
  | cons x L ih =>
    intro j hj
    have e : cellsI (x :: L) = .int .i64 x.1 :: .int .i64 x.2 :: cellsI L := by simp [cellsI]
    rw [e]
    cases j with
    | zero => exact ⟨rfl, rfl⟩
    | succ j =>
      have := ih j (by simpa using hj)
      rw [show (j + 1) * 2 = j * 2 + 1 + 1 by omega]
      simpa using this
theorem NsAt.lies {w : World} {a : Option Addr} {ns : List Int} (h : NsAt w.cell? a ns) (c : Nat) : Lies w (.slice a ns.length c) ns.length (cellsN ns) := by
  rcases h with rfl | ⟨b, off, rfl, hc⟩
  · cases a with
    | none => exact .inl ⟨c, rfl, rfl, rfl⟩
    | some ad => exact .inr ⟨ad, c, rfl, fun j u hu => by simp [cellsN] at hu⟩
  · refine .inr ⟨_, c, rfl, fun j u hu => ?_⟩
    obtain ⟨hj, rfl⟩ := List.getElem?_eq_some_iff.1 hu
    rw [Addr.add_lit]
    simpa [cellsN] using hc j (by simpa [cellsN] using hj)
theorem SsAt.lies {w : World} {a : Option Addr} {ns : List (List UInt8)} (h : SsAt w.cell? a ns) (c : Nat) : Lies w (.slice a ns.length c) ns.length (cellsS ns) := by
  rcases h with rfl | ⟨b, off, rfl, hc⟩
  · cases a with
    | none => exact .inl ⟨c, rfl, rfl, rfl⟩
    | some ad => exact .inr ⟨ad, c, rfl, fun j u hu => by simp [cellsS] at hu⟩
  · refine .inr ⟨_, c, rfl, fun j u hu => ?_⟩
    obtain ⟨hj, rfl⟩ := List.getElem?_eq_some_iff.1 hu
    rw [Addr.add_lit]
    simpa [cellsS] using hc j (by simpa [cellsS] using hj)
theorem IsAt.lies {w : World} {a : Option Addr} {is : List (Int × Int)} (h : IsAt w.cell? a is) (c : Nat) : Lies w (.slice a is.length c) is.length (cellsI is) := by
  rcases h with rfl | ⟨b, off, rfl, hc⟩
  · cases a with
    | none => exact .inl ⟨c, rfl, rfl, rfl⟩
    | some ad => exact .inr ⟨ad, c, rfl, fun j u hu => by simp [cellsI] at hu⟩
  · refine .inr ⟨_, c, rfl, fun i u hu => ?_⟩
    have hi : i < (cellsI is).length := (List.getElem?_eq_some_iff.1 hu).1
    rw [cellsI_len] at hi
    have hj : i / 2 < is.length := by omega
    obtain ⟨h0, h1⟩ := hc _ hj
    obtain ⟨g0, g1⟩ := cellsI_at is _ hj
    rw [Addr.add_lit]
    have : i % 2 = 0 ∨ i % 2 = 1 := by omega
    rcases this with h | h
    · have e : i = i / 2 * 2 := by omega
      rw [e] at hu ⊢
      rw [g0] at hu
      rw [← hu]; exact h0
    · have e : i = i / 2 * 2 + 1 := by omega
      rw [e] at hu ⊢
      rw [g1] at hu
      rw [← hu]; exact h1
theorem ns_of_row {w : World} {base n : Nat} {e : TypeId} {v : Value} {ns : List Int} (h : w.ownsRow base e 1 v n (cellsN ns)) {C : Addr → Option Value} (hC : ∀ a x, base ≤ a.block → w.cell? a = some x → C a = some x) : n = ns.length ∧ ∃ a c, v = .slice a n c ∧ n ≤ c ∧ NsAt C a ns := by
  have hn : n = ns.length := by have := h.1; rw [cellsN_len] at this; omega
  subst hn
  obtain ⟨a, c, rfl, hc, _, hx⟩ := row_form h
  refine ⟨rfl, a, c, rfl, hc, ?_⟩
  rcases hx with ⟨_, h0, _⟩ | ⟨g, rfl, hg, _, hcell'⟩
  · exact .inl (List.eq_nil_of_length_eq_zero h0)
  · exact .inr ⟨g, 0, rfl, fun j hj => by rw [Nat.zero_add]; exact hC _ _ hg (hcell' j _ (by simp [cellsN, hj]))⟩
theorem ss_of_row {w : World} {base n : Nat} {e : TypeId} {v : Value} {ns : List (List UInt8)} (h : w.ownsRow base e 1 v n (cellsS ns)) {C : Addr → Option Value} (hC : ∀ a x, base ≤ a.block → w.cell? a = some x → C a = some x) : n = ns.length ∧ ∃ a c, v = .slice a n c ∧ n ≤ c ∧ SsAt C a ns := by
  have hn : n = ns.length := by have := h.1; rw [cellsS_len] at this; omega
  subst hn
  obtain ⟨a, c, rfl, hc, _, hx⟩ := row_form h
  refine ⟨rfl, a, c, rfl, hc, ?_⟩
  rcases hx with ⟨_, h0, _⟩ | ⟨g, rfl, hg, _, hcell'⟩
  · exact .inl (List.eq_nil_of_length_eq_zero h0)
  · exact .inr ⟨g, 0, rfl, fun j hj => by rw [Nat.zero_add]; exact hC _ _ hg (hcell' j _ (by simp [cellsS, hj]))⟩
theorem is_of_row {w : World} {base n : Nat} {e : TypeId} {v : Value} {is : List (Int × Int)} (h : w.ownsRow base e 2 v n (cellsI is)) {C : Addr → Option Value} (hC : ∀ a x, base ≤ a.block → w.cell? a = some x → C a = some x) : n = is.length ∧ ∃ a c, v = .slice a n c ∧ n ≤ c ∧ IsAt C a is := by
  have hn : n = is.length := by have := h.1; rw [cellsI_len] at this; omega
  subst hn
  obtain ⟨a, c, rfl, hc, _, hx⟩ := row_form h
  refine ⟨rfl, a, c, rfl, hc, ?_⟩
  rcases hx with ⟨_, h0, _⟩ | ⟨g, rfl, hg, _, hcell'⟩
  · exact .inl (List.eq_nil_of_length_eq_zero h0)
  · refine .inr ⟨g, 0, rfl, fun j hj => ?_⟩
    obtain ⟨g0, g1⟩ := cellsI_at is j hj
    rw [Nat.zero_add]
    exact ⟨hC _ _ hg (hcell' _ _ g0), hC _ _ hg (hcell' _ _ g1)⟩
/-- The cells of a row of functions. -/
def FRow (C : Addr → Option Value) (fs : List Fn) (xs : List Value) : Prop := xs.length = fs.length * 4 ∧ ∀ j (h : j < fs.length), ∃ v0 v1 v2 v3, xs[j * 4]? = some v0 ∧ xs[j * 4 + 1]? = some v1 ∧ xs[j * 4 + 2]? = some v2 ∧ xs[j * 4 + 3]? = some v3 ∧ FnIs C fs[j] v0 v1 v2 v3
theorem FRow.nil (C : Addr → Option Value) : FRow C [] [] := ⟨rfl, fun j h => by simp at h⟩
theorem FRow.keep {C C' : Addr → Option Value} {fs : List Fn} {xs : List Value} (h : FRow C fs xs) (hk : ∀ a v, C a = some v → C' a = some v) : FRow C' fs xs := by
  refine ⟨h.1, fun j hj => ?_⟩
  obtain ⟨v0, v1, v2, v3, q0, q1, q2, q3, hf⟩ := h.2 j hj
  exact ⟨v0, v1, v2, v3, q0, q1, q2, q3, hf.keep hk⟩
theorem FRow.snoc {C : Addr → Option Value} {fs : List Fn} {xs : List Value} {f : Fn} {v0 v1 v2 v3 : Value} (h : FRow C fs xs) (hf : FnIs C f v0 v1 v2 v3) : FRow C (fs ++ [f]) (xs ++ [v0, v1, v2, v3]) := by
  refine ⟨by simp [h.1]; omega, fun j hj => ?_⟩
  rcases Nat.lt_or_ge j fs.length with hlt | hge
  · obtain ⟨u0, u1, u2, u3, q0, q1, q2, q3, hg⟩ := h.2 j hlt
    have hx := h.1
    refine ⟨u0, u1, u2, u3, ?_, ?_, ?_, ?_, by rw [List.getElem_append_left hlt]; exact hg⟩
    all_goals (rw [List.getElem?_append_left (by omega)]; assumption)
  · have hx := h.1
    obtain rfl : j = fs.length := by simp at hj; omega
    refine ⟨v0, v1, v2, v3, ?_, ?_, ?_, ?_, by simpa using hf⟩
    all_goals
      rw [List.getElem?_append_right (by omega), hx]
      simp
theorem fs_of_row {w : World} {base n : Nat} {e : TypeId} {v : Value} {fs : List Fn} {xs : List Value} (h : w.ownsRow base e 4 v n xs) (hF : FRow w.cell? fs xs) : n = fs.length ∧ ∃ a c, v = .slice a n c ∧ n ≤ c ∧ FsAt w.cell? a fs := by
  have hn : n = fs.length := by have := h.1; rw [hF.1] at this; omega
  subst hn
  obtain ⟨a, c, rfl, hc, _, hx⟩ := row_form h
  refine ⟨rfl, a, c, rfl, hc, ?_⟩
  rcases hx with ⟨_, h0, _⟩ | ⟨g, rfl, hg, _, hcell'⟩
  · exact .inl (List.eq_nil_of_length_eq_zero h0)
  · refine .inr ⟨g, 0, rfl, fun j hj => ?_⟩
    obtain ⟨v0, v1, v2, v3, q0, q1, q2, q3, hf⟩ := hF.2 j hj
    rw [Nat.zero_add]
    exact ⟨v0, v1, v2, v3, hcell' _ _ q0, hcell' _ _ q1, hcell' _ _ q2, hcell' _ _ q3, hf⟩
/-- What lies behind block B, but not in v's own row. -/
def offRow (w : World) (v : Value) (B : Nat) : Addr → Option Value := fun a => if v.ownBlock = some a.block ∨ a.block ≤ B then none else w.cell? a
theorem offRow_le {w : World} {v : Value} {B : Nat} : ∀ a x, offRow w v B a = some x → w.cell? a = some x := fun a x h => by
  unfold offRow at h
  split at h
  · cases h
  · exact h
theorem offRow_step {w w' : World} {v v' : Value} {B : Nat} (hs : Step w v w' v') : ∀ a x, offRow w v B a = some x → offRow w' v' B a = some x := fun a x h => by
  unfold offRow at h
  split at h
  · cases h
  rename_i hne
  have hlt := World.block_lt_of_cell? _ _ h
  have hb := hs.1.block a.block hlt (fun e => hne (.inl (by rw [← e])))
  have hc : w'.cell? a = some x := by
    rw [← h]
    unfold World.cell?
    rw [hb]
  unfold offRow
  rw [if_neg, hc]
  rintro (e | e)
  · rcases hs.2 with e2 | ⟨g, e2, hg⟩
    · rw [e2] at e; exact hne (.inl e)
    · rw [e2] at e
      injection e with e
      omega
  · exact hne (.inr e)
theorem offRow_keep {w w' : World} {v : Value} {B : Nat} (hk : ∀ a x, w.cell? a = some x → w'.cell? a = some x) : ∀ a x, offRow w v B a = some x → offRow w' v B a = some x := fun a x h => by
  unfold offRow at h ⊢
  split at h
  · cases h
  · rename_i hne
    rw [if_neg hne]
    exact hk _ _ h
theorem offRow_new {w : World} {v : Value} {B base : Nat} (hv : ∀ k, v.ownBlock = some k → k < base) (hB : B < base) : ∀ a x, base ≤ a.block → w.cell? a = some x → offRow w v B a = some x := fun a x hb h => by
  unfold offRow
  rw [if_neg, h]
  rintro (e | e)
  · have := hv _ e; omega
  · omega
theorem offRow_set {w : World} {v u : Value} {B b o : Nat} (hb : b ≤ B) : ∀ a x, offRow w v B a = some x → offRow (w.setCell ⟨b, o, none⟩ u) v B a = some x := fun a x h => by
  unfold offRow at h ⊢
  split at h
  · cases h
  · rename_i hne
    rw [if_neg hne]
    have := Below.heap_setCell w ⟨b, o, none⟩ u a.block (fun e => hne (.inr (by have : a.block = b := e; omega)))
    rw [← h]
    unfold World.cell?
    rw [this]
theorem offRow_far {w : World} {v : Value} {B : Nat} : ∀ a x, offRow w v B a = some x → B < a.block := fun a x h => by
  unfold offRow at h
  split at h
  · cases h
  · rename_i hne
    rcases Nat.lt_or_ge B a.block with h1 | h1
    · exact h1
    · exact absurd (.inr h1) hne
theorem elemN_str : ElemN Try.prog 44 9 1 16 := by
  refine ⟨Try.underlying44, ?_, by decide⟩
  obtain ⟨i0, hi, hz0, hz1, hz2⟩ := info_parts (show (Try.prog.info? 9).map (fun i => (i.zero, i.size, i.bytes)) = some (some (.string ⟨#[]⟩), 1, 16) by kernel_rfl)
  exact ⟨i0, _, hi, hz0, hz1, hz2, rfl⟩
theorem elemN_int : ElemN Try.prog 59 3 1 8 := by
  refine ⟨Try.underlying59, ?_, by decide⟩
  obtain ⟨i0, hi, hz0, hz1, hz2⟩ := info_parts (show (Try.prog.info? 3).map (fun i => (i.zero, i.size, i.bytes)) = some (some (.int .i64 0), 1, 8) by kernel_rfl)
  exact ⟨i0, _, hi, hz0, hz1, hz2, rfl⟩
end Go.Proofs.Ytaonchdpnllhpaa
