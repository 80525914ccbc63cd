/- Layer 10, plain: what the rooms come to. -/
import Derived.Test.YtfnpngbcnmglfaaGreatZH
namespace Go.Proofs.YtfnpngbcnmglfaaGreat
open Go.RowKit
theorem rmMax_congr {R R' : List Int} {cs : List Nat} (h : ∀ c ∈ cs, R.getD c 0 = R'.getD c 0) : rmMax R cs = rmMax R' cs := by
  have : ∀ (cs : List Nat) (b : Int), (∀ c ∈ cs, R.getD c 0 = R'.getD c 0) → cs.foldl (fun b c => max b (R.getD c 0)) b = cs.foldl (fun b c => max b (R'.getD c 0)) b := by
    intro cs
    induction cs with
    | nil => intro b _; rfl
    | cons c cs ih =>
      intro b h
      rw [List.foldl_cons, List.foldl_cons, h c (by simp)]
      exact ih _ fun x hx => h x (by simp [hx])
  exact this cs 0 h
theorem rmMax_ge {R : List Int} {cs : List Nat} {c : Nat} (h : c ∈ cs) : R.getD c 0 ≤ rmMax R cs := by
  have mono : ∀ (cs : List Nat) (b : Int), b ≤ cs.foldl (fun b c => max b (R.getD c 0)) b := by
    intro cs
    induction cs with
    | nil => intro b; exact Int.le_refl _
    | cons c cs ih => intro b; exact Int.le_trans (Int.le_max_left _ _) (ih _)
  have : ∀ (cs : List Nat) (b : Int), c ∈ cs → R.getD c 0 ≤ cs.foldl (fun b c => max b (R.getD c 0)) b := by
    intro cs
    induction cs with
    | nil => intro b h; cases h
    | cons x cs ih =>
      intro b h
      rw [List.foldl_cons]
      rcases List.mem_cons.1 h with e | h
      · subst e; exact Int.le_trans (Int.le_max_right _ _) (mono _ _)
      · exact ih _ h
  exact this cs 0 h
theorem rooms_eq {s : Scr} {S : List Int} {o : List Nat} (hT : Told s.funcs.length (gF s) o) : ∀ k, k ≤ o.length → ∀ f ∈ o.take k, (roomsS s S (o.take k)).getD f 0 = (fnN s f : Int) + S.getD f 0 + rmMax (roomsS s S (o.take k)) (gF s f) := by
  intro k
  induction k with
  | zero => intro _ f hf; simp at hf
  | succ k ih =>
    intro hk f hf
    have hko : k < o.length := by omega
    obtain ⟨t1, t2, t3⟩ := hT k hko
    have hin : ∀ x ∈ o.take k, ∀ c ∈ gF s x, c ∈ o.take k := by
      intro x hx c hc
      obtain ⟨i, hi, rfl⟩ := List.getElem_of_mem hx
      rw [List.length_take] at hi
      rw [List.getElem_take] at hc
      have := (hT i (by omega)).2.2 c hc
      exact List.mem_of_mem_take (show c ∈ (o.take k).take i by rw [List.take_take, Nat.min_eq_left (by omega)]; exact this)
    rw [List.take_succ_eq_append_getElem hko] at hf ⊢
    rw [rooms_snoc]
    have hne : ∀ c ∈ o.take k, (rmStep s S (roomsS s S (o.take k)) o[k]).getD c 0 = (roomsS s S (o.take k)).getD c 0 := by
      intro c hc
      have : o[k] ≠ c := fun e => t2 (e ▸ hc)
      unfold rmStep
      rw [List.getD_eq_getElem?_getD, List.getElem?_set_ne this, ← List.getD_eq_getElem?_getD]
    rcases List.mem_append.1 hf with h | h
    · rw [hne f h, ih (by omega) f h, rmMax_congr (fun c hc => hne c (hin f h c hc))]
    · have e := List.mem_singleton.1 h
      rw [rmMax_congr (fun c hc => hne c (by rw [e] at hc; exact t3 c hc)), e]
      have hl : o[k] < (roomsS s S (o.take k)).length := by rw [rooms_len]; exact t1
      have hv : (rmStep s S (roomsS s S (o.take k)) o[k])[o[k]]? = some ((fnN s o[k] : Int) + S.getD o[k] 0 + rmMax (roomsS s S (o.take k)) (gF s o[k])) := by
        unfold rmStep
        rw [List.getElem?_set_self hl]
      rw [List.getD_eq_getElem?_getD, hv]
      rfl
theorem okR_all {s : Scr} {S : List Int} {o : List Nat} (hr : s.right = true) (hS : ∀ f, 0 ≤ S.getD f 0 ∧ S.getD f 0 ≤ 1000000) : ∀ k, k ≤ o.length → OkR k (roomsS s S (o.take k)) := by
  intro k
  induction k with
  | zero =>
    intro _ z hz
    rw [List.take_zero, roomsS, List.foldl_nil] at hz
    rw [(List.mem_replicate.1 hz).2]
    omega
  | succ k ih =>
    intro hk
    rw [List.take_succ_eq_append_getElem (by omega), rooms_snoc]
    exact okR_step (ih (by omega)) (fn_le hr _) (hS _)
/-- What the law asks of the rooms. -/
theorem rooms_law {s : Scr} {S : List Int} {o : List Nat} (hr : s.right = true) (ho : ordS s.funcs.length (gF s) = some o) (hS : ∀ z ∈ S, 0 ≤ z ∧ z ≤ 1000000) {f : Nat} (hf : f < s.funcs.length) :
    (fnN s f : Int) + S.getD f 0 ≤ (roomsS s S o).getD f 0 ∧ (gF s f = [] → (roomsS s S o).getD f 0 = (fnN s f : Int) + S.getD f 0) ∧ (∀ c ∈ gF s f, (fnN s f : Int) + S.getD f 0 + (roomsS s S o).getD c 0 ≤ (roomsS s S o).getD f 0) ∧ ∀ c, 0 ≤ (roomsS s S o).getD c 0 ∧ (roomsS s S o).getD c 0 ≤ 32000000 := by
  obtain ⟨hol, hT⟩ := ord_told (n := s.funcs.length) (g := gF s) ho
  have hSd : ∀ f, 0 ≤ S.getD f 0 ∧ S.getD f 0 ≤ 1000000 := fun f => by
    rw [List.getD_eq_getElem?_getD]
    cases e : S[f]? with
    | none => simp
    | some z => exact hS z (List.mem_of_getElem? e)
  have h1 := rooms_eq (S := S) hT o.length (Nat.le_refl _) f (by rw [List.take_length]; exact told_all hT hol hf)
  have h2 := okR_all (o := o) hr hSd o.length (Nat.le_refl _)
  rw [List.take_length] at h1 h2
  have h16 := (right_calls hr).1
  have hm := rmMax_in h2 (gF s f)
  refine ⟨by omega, fun e => ?_, fun c hc => ?_, fun c => ?_⟩
  · rw [e] at h1
    have : rmMax (roomsS s S o) [] = 0 := rfl
    omega
  · have := rmMax_ge (R := roomsS s S o) hc
    omega
  · have := okR_get h2 c
    have h3 : (o.length : Int) * 2000000 ≤ 16 * 2000000 := Int.mul_le_mul_of_nonneg_right (by omega) (by omega)
    omega
end Go.Proofs.YtfnpngbcnmglfaaGreat
