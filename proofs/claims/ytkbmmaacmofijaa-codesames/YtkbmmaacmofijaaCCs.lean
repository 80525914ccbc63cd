/- code.Clone of any script. -/
import Derived.Test.YtkbmmaacmofijaaCCf
namespace Go.Proofs.Ytkbmmaacmofijaa
open Go.RowKit
theorem set_blk {w : World} {F o : Nat} {cs : Array Value} {t : TypeId} {z : Nat × Nat} (u : Value) (h : w.heap[F]? = some (.cells cs t z)) : (w.setCell ⟨F, o, none⟩ u).heap[F]? = some (.cells (cs.setIfInBounds o u) t z) := by
  have hlt := lt_of_block h
  have h' : w.heap[F] = .cells cs t z := by simpa [Array.getElem?_eq_getElem hlt] using h
  show (w.heap.modify F _)[F]? = _
  rw [Array.getElem?_eq_getElem (by simpa using hlt), Array.getElem_modify_self, h']
  rfl
def set4k (w : World) (F o : Nat) (x0 x1 x2 x3 : Value) : World := (((w.setCell ⟨F, o, none⟩ x0).setCell ⟨F, o + 1, none⟩ x1).setCell ⟨F, o + 2, none⟩ x2).setCell ⟨F, o + 3, none⟩ x3
theorem set4k_blk {w : World} {F o : Nat} {cs : Array Value} {t : TypeId} {z : Nat × Nat} (x0 x1 x2 x3 : Value) (h : w.heap[F]? = some (.cells cs t z)) : (set4k w F o x0 x1 x2 x3).heap[F]? = some (.cells ((((cs.setIfInBounds o x0).setIfInBounds (o + 1) x1).setIfInBounds (o + 2) x2).setIfInBounds (o + 3) x3) t z) := set_blk x3 (set_blk x2 (set_blk x1 (set_blk x0 h)))
theorem set4k_row {w : World} {F o base n size : Nat} {e : TypeId} {v : Value} {xs : List Value} (x0 x1 x2 x3 : Value) (h : w.ownsRow base e size v n xs) (hb : F < base) : (set4k w F o x0 x1 x2 x3).ownsRow base e size v n xs := ownsRow_setCell_other' (ownsRow_setCell_other' (ownsRow_setCell_other' (ownsRow_setCell_other' h hb _) hb _) hb _) hb _
theorem set4k_below {w0 w : World} {B F o : Nat} (x0 x1 x2 x3 : Value) (h : Below B w0 w) (hb : B ≤ F) : Below B w0 (set4k w F o x0 x1 x2 x3) := (((h.setCell (p := ⟨F, o, none⟩) hb _).setCell (p := ⟨F, o + 1, none⟩) hb _).setCell (p := ⟨F, o + 2, none⟩) hb _).setCell (p := ⟨F, o + 3, none⟩) hb _
theorem set4k_other {w : World} {F o k : Nat} (x0 x1 x2 x3 : Value) (hk : k ≠ F) : (set4k w F o x0 x1 x2 x3).heap[k]? = w.heap[k]? := by
  unfold set4k
  rw [Below.heap_setCell _ _ _ _ hk, Below.heap_setCell _ _ _ _ hk, Below.heap_setCell _ _ _ _ hk, Below.heap_setCell _ _ _ _ hk]
theorem set4k_cell {w : World} {F o b i : Nat} {v : Value} (x0 x1 x2 x3 : Value) (hk : ¬ b = F) (h : w.cell? ⟨b, i, none⟩ = some v) : (set4k w F o x0 x1 x2 x3).cell? ⟨b, i, none⟩ = some v := by
  rw [World.cell?_of_block (a := ⟨b, i, none⟩) (set4k_other x0 x1 x2 x3 hk)]; exact h
theorem set4k_size (w : World) (F o : Nat) (x0 x1 x2 x3 : Value) : (set4k w F o x0 x1 x2 x3).heap.size = w.heap.size := by simp [set4k, World.setCell]
/-- The functions of a row in block F: those ahead of k have lists of their own, the others those that lay at C. -/
def FBlk (w : World) (C : Addr → Option Value) (F N base : Nat) (fs : List Fn) (k : Nat) : Prop := ∃ cs : Array Value, w.heap[F]? = some (.cells cs 32 (0, 0)) ∧ cs.size = N ∧
  (∀ j (h : j < fs.length), j < k → ∃ u0 u1 u2 u3, cs[j * 4]? = some u0 ∧ cs[j * 4 + 1]? = some u1 ∧ cs[j * 4 + 2]? = some u2 ∧ cs[j * 4 + 3]? = some u3 ∧ FnOwn w base fs[j] u0 u1 u2 u3) ∧
  (∀ j (h : j < fs.length), k ≤ j → ∃ u0 u1 u2 u3, cs[j * 4]? = some u0 ∧ cs[j * 4 + 1]? = some u1 ∧ cs[j * 4 + 2]? = some u2 ∧ cs[j * 4 + 3]? = some u3 ∧ FnIs C fs[j] u0 u1 u2 u3)
theorem FBlk.below {w w' : World} {C : Addr → Option Value} {F N base k : Nat} {fs : List Fn} (h : FBlk w C F N base fs k) (hb : Below w.heap.size w w') : FBlk w' C F N base fs k := by
  obtain ⟨cs, h1, h2, h3, h4⟩ := h
  refine ⟨cs, (hb.block F (lt_of_block h1)).trans h1, h2, fun j hj hk => ?_, h4⟩
  obtain ⟨u0, u1, u2, u3, q0, q1, q2, q3, hO⟩ := h3 j hj hk
  exact ⟨u0, u1, u2, u3, q0, q1, q2, q3, hO.below hb⟩
theorem set4_get {cs : Array Value} {o i : Nat} (x0 x1 x2 x3 : Value) (hi : i < o ∨ o + 4 ≤ i) : ((((cs.setIfInBounds o x0).setIfInBounds (o + 1) x1).setIfInBounds (o + 2) x2).setIfInBounds (o + 3) x3)[i]? = cs[i]? := by
  rw [Array.getElem?_setIfInBounds_ne (by omega), Array.getElem?_setIfInBounds_ne (by omega), Array.getElem?_setIfInBounds_ne (by omega), Array.getElem?_setIfInBounds_ne (by omega)]
theorem FBlk.set {w : World} {C : Addr → Option Value} {F N base k : Nat} {fs : List Fn} {x0 x1 x2 x3 : Value} (h : FBlk w C F N base fs k) (hk : k < fs.length) (hN : fs.length * 4 ≤ N) (hF : F < base) (hO : FnOwn w base fs[k] x0 x1 x2 x3) : FBlk (set4k w F (k * 4) x0 x1 x2 x3) C F N base fs (k + 1) := by
  obtain ⟨cs, h1, h2, h3, h4⟩ := h
  have key : ∀ {f : Fn} {u0 u1 u2 u3 : Value}, FnOwn w base f u0 u1 u2 u3 → FnOwn (set4k w F (k * 4) x0 x1 x2 x3) base f u0 u1 u2 u3 := fun h => ⟨set4k_row _ _ _ _ h.1 hF, set4k_row _ _ _ _ h.2.1 hF, set4k_row _ _ _ _ h.2.2.1 hF, set4k_row _ _ _ _ h.2.2.2 hF⟩
  refine ⟨_, set4k_blk x0 x1 x2 x3 h1, by simp [h2], fun j hj hjk => ?_, fun j hj hjk => ?_⟩
  · rcases Nat.lt_or_ge j k with hlt | hge
    · obtain ⟨u0, u1, u2, u3, q0, q1, q2, q3, hO'⟩ := h3 j hj hlt
      refine ⟨u0, u1, u2, u3, ?_, ?_, ?_, ?_, key hO'⟩
      all_goals (rw [set4_get _ _ _ _ (by omega)]; assumption)
    · obtain rfl : j = k := by omega
      refine ⟨x0, x1, x2, x3, ?_, ?_, ?_, ?_, key hO⟩
      · rw [Array.getElem?_setIfInBounds_ne (by omega), Array.getElem?_setIfInBounds_ne (by omega), Array.getElem?_setIfInBounds_ne (by omega), Array.getElem?_setIfInBounds_self_of_lt (by omega)]
      · rw [Array.getElem?_setIfInBounds_ne (by omega), Array.getElem?_setIfInBounds_ne (by omega), Array.getElem?_setIfInBounds_self_of_lt (by simp; omega)]
      · rw [Array.getElem?_setIfInBounds_ne (by omega), Array.getElem?_setIfInBounds_self_of_lt (by simp; omega)]
      · rw [Array.getElem?_setIfInBounds_self_of_lt (by simp; omega)]
  · obtain ⟨u0, u1, u2, u3, q0, q1, q2, q3, hI⟩ := h4 j hj (by omega)
    refine ⟨u0, u1, u2, u3, ?_, ?_, ?_, ?_, hI⟩
    all_goals (rw [set4_get _ _ _ _ (by omega)]; assumption)
theorem FnOwn.lower {w : World} {base base' : Nat} {f : Fn} {u0 u1 u2 u3 : Value} (h : FnOwn w base f u0 u1 u2 u3) (hb : base' ≤ base) : FnOwn w base' f u0 u1 u2 u3 := ⟨row_lower h.1 hb, row_lower h.2.1 hb, row_lower h.2.2.1 hb, row_lower h.2.2.2 hb⟩
/-- The whole row, behind a store into an elder block. -/
theorem FBlk.done {w : World} {C : Addr → Option Value} {F N base base' b o : Nat} {u : Value} {fs : List Fn} (h : FBlk w C F N base fs fs.length) (hb : b < base) (hF : b ≠ F) (hB : base' ≤ base) : FBlk (w.setCell ⟨b, o, none⟩ u) (fun _ => none) F N base' fs fs.length := by
  obtain ⟨cs, h1, h2, h3, _⟩ := h
  refine ⟨cs, by rw [Below.heap_setCell _ _ _ _ (fun e => hF e.symm)]; exact h1, h2, fun j hj hk => ?_, fun j hj hk => by omega⟩
  obtain ⟨u0, u1, u2, u3, q0, q1, q2, q3, hO⟩ := h3 j hj hk
  exact ⟨u0, u1, u2, u3, q0, q1, q2, q3, FnOwn.lower ⟨ownsRow_setCell_other' hO.1 hb _, ownsRow_setCell_other' hO.2.1 hb _, ownsRow_setCell_other' hO.2.2.1 hb _, ownsRow_setCell_other' hO.2.2.2 hb _⟩ hB⟩
/-- What Clone answers: rows of their own. -/
structure ScrOwn (w : World) (base : Nat) (s : Scr) (v0 v1 : Value) : Prop where
  consts : w.ownsRow base 9 1 v0 s.consts.length (cellsS s.consts)
  form : ∃ a c, v1 = .slice a s.funcs.length c
  funcs : s.funcs = [] ∨ ∃ F N c, v1 = .slice (some ⟨F, 0, none⟩) s.funcs.length c ∧ base ≤ F ∧ s.funcs.length * 4 ≤ N ∧ FBlk w (fun _ => none) F N base s.funcs s.funcs.length
def CloneSEnd (s : Scr) (w : World) (e : Ending) (w' : World) : Prop := (∃ v0 v1, e = .returned (.agg #[v0, v1]) ∧ ScrOwn w' w.heap.size s v0 v1) ∧ Below w.heap.size w w'
theorem FnIs.forms {C : Addr → Option Value} {f : Fn} {u0 u1 u2 u3 : Value} (h : FnIs C f u0 u1 u2 u3) : u0.oneCell' = true ∧ u1.oneCell' = true ∧ u2.oneCell' = true ∧ u3.oneCell' = true := by
  obtain ⟨⟨_, _, rfl, _⟩, ⟨_, _, rfl, _⟩, ⟨_, _, rfl, _⟩, ⟨_, _, rfl, _⟩⟩ := h
  exact ⟨rfl, rfl, rfl, rfl⟩
theorem FsAt.lies {w : World} {a : Option Addr} {fs : List Fn} (h : FsAt w.cell? a fs) (c : Nat) : ∃ xs, Lies w (.slice a fs.length c) fs.length xs ∧ FRow w.cell? fs xs ∧ ∀ u ∈ xs, u.oneCell' = true := by
  rcases h with rfl | ⟨b, off, rfl, hc⟩
  · refine ⟨[], ?_, FRow.nil _, fun u hu => by simp at hu⟩
    cases a with
    | none => exact .inl ⟨c, rfl, rfl, rfl⟩
    | some ad => exact .inr ⟨ad, c, rfl, fun j u hu => by simp at hu⟩
  · have key : ∀ n, n ≤ fs.length → ∃ xs, FRow w.cell? (fs.take n) xs ∧ (∀ u ∈ xs, u.oneCell' = true) ∧ ∀ j u, xs[j]? = some u → w.cell? ⟨b, off + j, none⟩ = some u := fun n => by
      induction n with
      | zero => intro _; exact ⟨[], by simpa using FRow.nil _, fun u hu => by simp at hu, fun j u hu => by simp at hu⟩
      | succ n ih =>
        intro hn
        obtain ⟨xs, h1, h2, h3⟩ := ih (by omega)
        obtain ⟨v0, v1, v2, v3, q0, q1, q2, q3, hf⟩ := hc n (by omega)
        have hl := h1.1
        rw [List.length_take, Nat.min_eq_left (by omega)] at hl
        refine ⟨xs ++ [v0, v1, v2, v3], ?_, fun u hu => ?_, fun j u hu => ?_⟩
        · rw [List.take_add_one, List.getElem?_eq_getElem (by omega)]
          exact h1.snoc hf
        · obtain ⟨o0, o1, o2, o3⟩ := hf.forms
          simp only [List.mem_append, List.mem_cons, List.not_mem_nil, or_false] at hu
          rcases hu with hu | rfl | rfl | rfl | rfl
          · exact h2 u hu
          all_goals assumption
        · rcases Nat.lt_or_ge j xs.length with hlt | hge
          · rw [List.getElem?_append_left hlt] at hu
            exact h3 j u hu
          · rw [List.getElem?_append_right hge] at hu
            obtain ⟨i, hi⟩ : ∃ i, j = n * 4 + i := ⟨j - n * 4, by omega⟩
            subst hi
            rw [hl, Nat.add_sub_cancel_left] at hu
            match i, hu with
            | 0, hu => cases hu; exact q0
            | 1, hu => cases hu; exact q1
            | 2, hu => cases hu; exact q2
            | 3, hu => cases hu; exact q3
            | i + 4, hu => simp at hu
    obtain ⟨xs, h1, h2, h3⟩ := key fs.length (Nat.le_refl _)
    rw [List.take_length] at h1
    exact ⟨xs, .inr ⟨_, c, rfl, fun j u hu => by rw [Addr.add_lit]; exact h3 j u hu⟩, h1, h2⟩
/-- A row of functions that was copied. -/
theorem fblk_of_row {w : World} {C : Addr → Option Value} {base n : Nat} {v : Value} {fs : List Fn} {xs : List Value} (h : w.ownsRow base 32 4 v n xs) (hF : FRow C fs xs) (hn : fs.length = n) : fs = [] ∧ (∃ a c, v = .slice a n c) ∨ ∃ F N c, v = .slice (some ⟨F, 0, none⟩) n c ∧ base ≤ F ∧ n * 4 ≤ N ∧ ∀ b, FBlk w C F N b fs 0 := by
  rcases h.2 with ⟨rfl, h0⟩ | ⟨g, cap, cur, rfl, hg, hh, hnc, hcm, hsz, htk⟩
  · exact .inl ⟨List.eq_nil_of_length_eq_zero (by omega), none, 0, by rw [h0]⟩
  · refine .inr ⟨g, cap * 4, cap, rfl, hg, Nat.mul_le_mul_right _ hnc, fun b => ⟨cur, hh, hsz, fun j hj h0 => by omega, fun j hj _ => ?_⟩⟩
    obtain ⟨v0, v1, v2, v3, q0, q1, q2, q3, hf⟩ := hF.2 j hj
    have key : ∀ i u, i < n * 4 → xs[i]? = some u → cur[i]? = some u := fun i u hi hu => by
      rw [← htk, List.getElem?_take_of_lt hi] at hu
      simpa using hu
    exact ⟨v0, v1, v2, v3, key _ _ (by omega) q0, key _ _ (by omega) q1, key _ _ (by omega) q2, key _ _ (by omega) q3, hf⟩
end Go.Proofs.Ytkbmmaacmofijaa
