/- A script one of whose functions has lost its instructions and locals: plain facts, and the script in memory (TypesSame). -/
import Derived.Test.YtnidakplcaanfaaTX
import Derived.Test.YtnidakplcaanfaaCBo
namespace Go.Proofs.Ytnidakplcaanfaa
open Go.RowKit Go.Shelf
def bare (f : Fn) : Fn := ⟨f.p, f.r, [], []⟩
def bareS (s : Scr) (k : Nat) : Scr := ⟨s.consts, s.funcs.set k (bare (fnAt s.funcs k))⟩
theorem bare_len (s : Scr) (k : Nat) : (bareS s k).funcs.length = s.funcs.length := by simp [bareS]
theorem bare_at {s : Scr} {k j : Nat} (hj : j < s.funcs.length) : fnAt (bareS s k).funcs j = if k = j then bare (fnAt s.funcs k) else fnAt s.funcs j := by
  unfold fnAt bareS
  simp only [Int.toNat_natCast, List.getD_eq_getElem?_getD, List.getElem?_set]
  by_cases h : k = j
  · subst h
    rw [if_pos rfl, if_pos hj, if_pos rfl]
    rfl
  · rw [if_neg h, if_neg h]
theorem bare_heads (s : Scr) (k : Nat) : HeadsAs s.funcs (bareS s k).funcs := by
  refine ⟨by rw [bare_len]; exact Nat.le_refl _, fun j hj => ?_⟩
  rw [bare_at hj]
  by_cases h : k = j
  · subst h; rw [if_pos rfl]; exact ⟨rfl, rfl⟩
  · rw [if_neg h]; exact ⟨rfl, rfl⟩
theorem bare_right {s : Scr} (h : s.right = true) {k : Nat} (hk : k < s.funcs.length) : (bareS s k).right = true := by
  have hf : ∀ f ∈ s.funcs, Fn.right s.consts.length s.funcs.length f = true := by
    simp only [Scr.right, Bool.and_eq_true, List.all_eq_true] at h
    exact h.2
  have hb : Fn.right s.consts.length s.funcs.length (bare (fnAt s.funcs k)) = true := by
    have := hf (fnAt s.funcs k) (by rw [← fnAt_get hk]; exact List.getElem_mem _)
    simp only [Fn.right, Fn.lists, Bool.and_eq_true, decide_eq_true_eq, List.all_eq_true] at this ⊢
    obtain ⟨⟨⟨⟨⟨g1, g2⟩, g3⟩, g4⟩, ⟨g5, g6⟩, g7⟩, g8⟩ := this
    refine ⟨⟨⟨⟨⟨g1, g2⟩, ?_⟩, ?_⟩, ⟨g5, g6⟩, fun x hx => by cases hx⟩, fun x hx => by cases hx⟩
    · show (fnAt s.funcs k).p.length + 0 ≤ 16; omega
    · exact Nat.zero_le _
  simp only [Scr.right, Bool.and_eq_true, List.all_eq_true, bare_len] at h ⊢
  refine ⟨h.1, fun f hf' => ?_⟩
  rcases List.mem_or_eq_of_mem_set hf' with q | q
  · exact hf f q
  · rw [q]; exact hb
theorem bare_check {s : Scr} (h : s.right = true) {k n : Nat} (hk : k < s.funcs.length) (hn : n < s.funcs.length) (hne : k ≠ n) : checkS (bareS s k) n = checkS s n := by
  rw [checkS, checkS, if_pos (bare_right h hk), if_pos h, bare_len, if_pos (by omega), if_pos (by omega), bare_at hn, if_neg hne]
  have hg := (right_facts h).2.2 (fnAt s.funcs n) (by rw [← fnAt_get hn]; exact List.getElem_mem _)
  exact stacks_same (bare_heads s k) (g := fnAt s.funcs n) (g' := fnAt s.funcs n) [] rfl rfl rfl (by simp) hg.i
theorem bare_fits {s : Scr} (h : s.fits) (k : Nat) (hk : k < s.funcs.length) : (bareS s k).fits := by
  obtain ⟨h1, h2, h3, h4⟩ := h
  refine ⟨h1, by rw [bare_len]; exact h2, fun f hf => ?_, h4⟩
  rcases List.mem_or_eq_of_mem_set hf with q | q
  · exact h3 f q
  · have := h3 (fnAt s.funcs k) (by rw [← fnAt_get hk]; exact List.getElem_mem _)
    rw [q]
    exact ⟨this.1, this.2.1, Nat.zero_le _, Nat.zero_le _⟩
theorem cell_kind {W : World} {p x : Addr} {u v old : Value} (hp : W.cell? p = some old) (hx : W.cell? x = some v) (hne : v ≠ old) : (W.setCell p u).cell? x = some v := by
  have hpx : p ≠ x := by rintro rfl; rw [hp] at hx; exact hne (Option.some.inj hx).symm
  rw [World.cell?_setCell_other _ _ _ _ hpx]
  exact hx
theorem ns_keepI {C C' : Addr → Option Value} {a : Option Addr} {ns : List Int} (h : NsAt C a ns) (hk : ∀ x i, C x = some (.int .i64 i) → C' x = some (.int .i64 i)) : NsAt C' a ns := by
  rcases h with h | ⟨b, off, e, h⟩
  · exact .inl h
  · exact .inr ⟨b, off, e, fun j hj => hk _ _ (h j hj)⟩
theorem is_keepI {C C' : Addr → Option Value} {a : Option Addr} {cs : List (Int × Int)} (h : IsAt C a cs) (hk : ∀ x i, C x = some (.int .i64 i) → C' x = some (.int .i64 i)) : IsAt C' a cs := by
  rcases h with h | ⟨b, off, e, h⟩
  · exact .inl h
  · exact .inr ⟨b, off, e, fun j hj => ⟨hk _ _ (h j hj).1, hk _ _ (h j hj).2⟩⟩
theorem ss_keepS {C C' : Addr → Option Value} {a : Option Addr} {ss : List (List UInt8)} (h : SsAt C a ss) (hk : ∀ x (s : ByteArray), C x = some (.string s) → C' x = some (.string s)) : SsAt C' a ss := by
  rcases h with h | ⟨b, off, e, h⟩
  · exact .inl h
  · exact .inr ⟨b, off, e, fun j hj => hk _ _ (h j hj)⟩
/-- The script behind the two writes. -/
theorem scr_bare {W : World} {s : Scr} {u0 : Value} {fb fc k : Nat} (hk : k < s.funcs.length) (hs : ScIs W.cell? s u0 (.slice (some ⟨fb, 0, none⟩) s.funcs.length fc)) :
    ScIs ((W.setCell ⟨fb, k * 4 + 3, none⟩ (.slice none 0 0)).setCell ⟨fb, k * 4 + 2, none⟩ (.slice none 0 0)).cell? (bareS s k) u0 (.slice (some ⟨fb, 0, none⟩) (bareS s k).funcs.length fc) := by
  obtain ⟨⟨a0, c0, rfl, n0⟩, ⟨a1, c1, e1, n1⟩⟩ := hs
  cases e1
  have hF : ∀ j (h : j < s.funcs.length), ∃ v0 v1 v2 v3, W.cell? ⟨fb, j * 4, none⟩ = some v0 ∧ W.cell? ⟨fb, j * 4 + 1, none⟩ = some v1 ∧ W.cell? ⟨fb, j * 4 + 2, none⟩ = some v2 ∧ W.cell? ⟨fb, j * 4 + 3, none⟩ = some v3 ∧ FnIs W.cell? s.funcs[j] v0 v1 v2 v3 := by
    rcases n1 with h0 | ⟨b, off, e, h⟩
    · rw [h0] at hk; cases hk
    · cases e
      intro j hj
      obtain ⟨v0, v1, v2, v3, h1⟩ := h j hj
      rw [Nat.zero_add] at h1
      exact ⟨v0, v1, v2, v3, h1⟩
  obtain ⟨w0, w1, w2, w3, d0, d1, d2, d3, hFk⟩ := hF k hk
  obtain ⟨⟨x0, y0, rfl, m0⟩, ⟨x1, y1, rfl, m1⟩, ⟨x2, y2, rfl, m2⟩, ⟨x3, y3, rfl, m3⟩⟩ := hFk
  have hother : ∀ x v, x ≠ ⟨fb, k * 4 + 3, none⟩ → x ≠ ⟨fb, k * 4 + 2, none⟩ → W.cell? x = some v → ((W.setCell ⟨fb, k * 4 + 3, none⟩ (.slice none 0 0)).setCell ⟨fb, k * 4 + 2, none⟩ (.slice none 0 0)).cell? x = some v := fun x v h1 h2 h => by
    rw [World.cell?_setCell_other _ _ _ _ (fun e => h2 e.symm), World.cell?_setCell_other _ _ _ _ (fun e => h1 e.symm)]
    exact h
  have hI : ∀ x i, W.cell? x = some (.int .i64 i) → ((W.setCell ⟨fb, k * 4 + 3, none⟩ (.slice none 0 0)).setCell ⟨fb, k * 4 + 2, none⟩ (.slice none 0 0)).cell? x = some (.int .i64 i) := fun x i h => hother x _ (fun e => by rw [e, d3] at h; cases h) (fun e => by rw [e, d2] at h; cases h) h
  have hS : ∀ x (q : ByteArray), W.cell? x = some (.string q) → ((W.setCell ⟨fb, k * 4 + 3, none⟩ (.slice none 0 0)).setCell ⟨fb, k * 4 + 2, none⟩ (.slice none 0 0)).cell? x = some (.string q) := fun x q h => hother x _ (fun e => by rw [e, d3] at h; cases h) (fun e => by rw [e, d2] at h; cases h) h
  refine ⟨⟨a0, c0, rfl, ss_keepS n0 hS⟩, ⟨_, _, rfl, .inr ⟨fb, 0, rfl, fun j hj => ?_⟩⟩⟩
  rw [bare_len] at hj
  rw [Nat.zero_add]
  by_cases hjk : k = j
  · subst hjk
    have e1 : (bareS s k).funcs[k]'(by rw [bare_len]; exact hj) = bare s.funcs[k] := by
      rw [fnAt_get (by rw [bare_len]; exact hj), bare_at hj, if_pos rfl, ← fnAt_get hj]
    have z3 : (W.setCell ⟨fb, k * 4 + 3, none⟩ (.slice none 0 0)).cell? ⟨fb, k * 4 + 2, none⟩ = some (.slice x2 s.funcs[k].l.length y2) := by rw [World.cell?_setCell_other _ _ _ _ (by simp)]; exact d2
    refine ⟨_, _, .slice none 0 0, .slice none 0 0, hother _ _ (by simp) (by simp) d0, hother _ _ (by simp) (by simp) d1, World.cell?_setCell_same _ _ _ z3, ?_, ?_⟩
    · rw [World.cell?_setCell_other _ _ _ _ (by simp)]
      exact World.cell?_setCell_same _ _ _ d3
    · rw [e1]
      exact ⟨⟨x0, y0, rfl, ns_keepI m0 hI⟩, ⟨x1, y1, rfl, ns_keepI m1 hI⟩, ⟨none, 0, rfl, .inl rfl⟩, ⟨none, 0, rfl, .inl rfl⟩⟩
  · have e1 : (bareS s k).funcs[j]'(by rw [bare_len]; exact hj) = s.funcs[j] := by
      rw [fnAt_get (by rw [bare_len]; exact hj), bare_at hj, if_neg hjk, ← fnAt_get hj]
    obtain ⟨v0, v1, v2, v3, f0, f1, f2, f3, ⟨p0, r0, rfl, o0⟩, ⟨p1, r1, rfl, o1⟩, ⟨p2, r2, rfl, o2⟩, ⟨p3, r3, rfl, o3⟩⟩ := hF j hj
    rw [e1]
    exact ⟨_, _, _, _, hother _ _ (by simp <;> omega) (by simp <;> omega) f0, hother _ _ (by simp <;> omega) (by simp <;> omega) f1, hother _ _ (by simp <;> omega) (by simp <;> omega) f2, hother _ _ (by simp <;> omega) (by simp <;> omega) f3, ⟨p0, r0, rfl, ns_keepI o0 hI⟩, ⟨p1, r1, rfl, ns_keepI o1 hI⟩, ⟨p2, r2, rfl, ns_keepI o2 hI⟩, ⟨p3, r3, rfl, is_keepI o3 hI⟩⟩
end Go.Proofs.Ytnidakplcaanfaa
