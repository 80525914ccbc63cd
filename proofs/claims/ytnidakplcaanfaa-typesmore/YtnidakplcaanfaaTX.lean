/- What is checked depends on the heads of functions alone: plain facts for TypesSame and TypesMore. -/
import Derived.Test.YtnidakplcaanfaaTT
namespace Go.Proofs.Ytnidakplcaanfaa
/-- The same heads, as far as fs has functions. -/
def HeadsAs (fs fs' : List Fn) : Prop := fs.length ≤ fs'.length ∧ ∀ k : Nat, k < fs.length → (fnAt fs k).p = (fnAt fs' k).p ∧ (fnAt fs k).r = (fnAt fs' k).r
theorem sl_more {sl : List Int} (m : List Int) {A : Int} (h0 : 0 ≤ A) (h1 : A < sl.length) : (sl ++ m).getD A.toNat 0 = sl.getD A.toNat 0 := by
  rw [List.getD_eq_getElem?_getD, List.getD_eq_getElem?_getD, List.getElem?_append_left (by omega)]
theorem taken_same {fs fs' : List Fn} (h : HeadsAs fs fs') {sl : List Int} (m : List Int) {x : Int × Int} (hx : InsR fs sl x) : takenS fs' (sl ++ m) x = takenS fs sl x := by
  unfold takenS
  split
  · rename_i h10
    obtain ⟨a, b⟩ := hx.1 (.inr h10)
    rw [sl_more m a b]
  split
  · rename_i h53
    obtain ⟨a, b⟩ := hx.2 h53
    obtain ⟨k, hk⟩ : ∃ k : Nat, x.2 = k := ⟨x.2.toNat, by omega⟩
    rw [hk, (h.2 k (by omega)).1]
  · rfl
theorem given_same {fs fs' : List Fn} (h : HeadsAs fs fs') {sl : List Int} (m : List Int) {x : Int × Int} (hx : InsR fs sl x) (had : List Int) : givenS fs' (sl ++ m) x had = givenS fs sl x had := by
  unfold givenS
  split
  · rfl
  split
  · rfl
  split
  · rfl
  split
  · rename_i h9
    obtain ⟨a, b⟩ := hx.1 (.inl h9)
    rw [sl_more m a b]
  split
  · rename_i h53
    obtain ⟨a, b⟩ := hx.2 h53
    obtain ⟨k, hk⟩ : ∃ k : Nat, x.2 = k := ⟨x.2.toNat, by omega⟩
    rw [hk, (h.2 k (by omega)).2]
  · rfl
theorem step_same {fs fs' : List Fn} (h : HeadsAs fs fs') {sl : List Int} (m : List Int) {x : Int × Int} (hx : InsR fs sl x) (p : List Int) : stepW fs' (sl ++ m) x p = stepW fs sl x p := by
  unfold stepW
  rw [taken_same h m hx, given_same h m hx]
theorem pass_same {fs fs' : List Fn} (h : HeadsAs fs fs') {sl : List Int} (m : List Int) {x : Int × Int} (hx : InsR fs sl x) (p : List Int) (L : List OB) : passW fs' (sl ++ m) x p L = passW fs sl x p L := by
  unfold passW
  rw [step_same h m hx]
theorem chk_same {fs fs' : List Fn} (h : HeadsAs fs fs') {sl : List Int} (m res : List Int) : ∀ (cs : List (Int × Int)) (_ : ∀ x ∈ cs, InsR fs sl x) (p : List Int) (L : List OB) (R : List (List Int)), chkFrom fs' (sl ++ m) res cs p L R = chkFrom fs sl res cs p L R
  | [], _, p, L, R => by rw [chkFrom, chkFrom]
  | x :: r, hx, p, L, R => by
    rw [chkFrom, chkFrom, pass_same h m (hx x (by simp))]
    split
    · exact chk_same h m res r (fun y hy => hx y (by simp [hy])) _ _ _
    · rfl
/-- The same stacks: with other functions of the same heads, and with more locals. -/
theorem stacks_same {fs fs' : List Fn} (h : HeadsAs fs fs') {g g' : Fn} (m : List Int) (hp : g'.p = g.p) (hr : g'.r = g.r) (hc : g'.code = g.code) (hl : g'.l = g.l ++ m) (hI : ∀ x ∈ g.code, InsR fs (g.p ++ g.l) x) : stacksS fs' g' = stacksS fs g := by
  unfold stacksS
  rw [hp, hr, hc, hl, ← List.append_assoc, chk_same h m g.r g.code hI]
end Go.Proofs.Ytnidakplcaanfaa
