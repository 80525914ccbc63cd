/- Layer 9, plainly: gas, told by levels. -/
import Derived.Test.YtodagpmcmjleaaaOT
import Derived.Test.YtodagpmcmjleaaaSJ
namespace Go.Proofs.Ytodagpmcmjleaaa
/-- Where gas is cut. -/
def TM : Nat := 1048577
def cut (n : Nat) : Nat := min n TM
theorem cut_le (n : Nat) : cut n ≤ TM := Nat.min_le_right _ _
theorem cut_id {n : Nat} (h : n ≤ TM) : cut n = n := Nat.min_eq_left h
theorem cut_add (a b : Nat) : cut (a + cut b) = cut (a + b) := by unfold cut TM; omega
theorem cut_add' (a b : Nat) : cut (cut a + b) = cut (a + b) := by unfold cut TM; omega
theorem cut_cut (a : Nat) : cut (cut a) = cut a := by unfold cut TM; omega
theorem cut_mono {a b : Nat} (h : a ≤ b) : cut a ≤ cut b := by unfold cut TM; omega
theorem cut_mul (n a : Nat) : cut (n * cut a) = cut (n * a) := by
  unfold cut
  cases n with
  | zero => rw [Nat.zero_mul, Nat.zero_mul]
  | succ n =>
    rcases Nat.le_total a TM with h | h
    · rw [Nat.min_eq_left h]
    · have h1 : TM ≤ (n + 1) * TM := Nat.le_mul_of_pos_left _ (Nat.succ_pos n)
      have h2 : (n + 1) * TM ≤ (n + 1) * a := Nat.mul_le_mul_left _ h
      rw [Nat.min_eq_right h, Nat.min_eq_right h1, Nat.min_eq_right (Nat.le_trans h1 h2)]
def costN (n : Int) : Nat := (costT n).toNat
theorem costT_pos (n : Int) : costT n = (costN n : Int) ∧ costN n ≤ 30 := by
  have h : ∀ x ∈ costTab, 0 ≤ x ∧ x ≤ 30 := by decide
  have : 0 ≤ costT n ∧ costT n ≤ 30 := by
    unfold costT rowOf
    split
    · rename_i hh
      rw [List.getD_eq_getElem?_getD]
      cases e : costTab[n.toNat]? with
      | none => simp
      | some x => exact h x (List.mem_of_getElem? e)
    · simp
  unfold costN
  omega
/-- A block that is open: is it a loop, how often, the sum so far, what stood ahead of its else. -/
structure Lev where
  (l : Bool) (t : Int) (s : Nat) (e : Option Nat)
def closed9 (b : Lev) : Nat :=
  if b.l then cut (costN 51 + cut (min b.t.toNat TM * cut (b.s + costN 50)))
  else match b.e with
    | some y => cut (costN 48 + max y (cut (b.s + costN 50)))
    | none => cut (costN 48 + cut (b.s + costN 50))
/-- One instruction: the levels, the innermost first; the last is what is outside of blocks. -/
def lstep (cal : List Int) (x : Int × Int) : List Lev → List Lev
  | [] => []
  | b :: r =>
    if x.1 = 48 ∨ x.1 = 51 then ⟨decide (x.1 = 51), x.2, 0, none⟩ :: b :: r
    else if x.1 = 49 then { b with e := some (cut (b.s + costN 49)), s := 0 } :: r
    else if x.1 = 50 then (match r with | p :: q => { p with s := cut (p.s + closed9 b) } :: q | [] => [b])
    else if x.1 = 53 then { b with s := cut (b.s + costN 53 + (cal.getD x.2.toNat 0).toNat) } :: r
    else { b with s := cut (b.s + costN x.1) } :: r
def lrun (cal : List Int) (cs : List (Int × Int)) (S : List Lev) : List Lev := cs.foldl (fun S x => lstep cal x S) S
theorem lrun_append (cal : List Int) (a b : List (Int × Int)) (S : List Lev) : lrun cal (a ++ b) S = lrun cal b (lrun cal a S) := List.foldl_append
def base0 : Lev := ⟨false, 0, 0, none⟩
/-- The bound. -/
def gasS (cal : List Int) (cs : List (Int × Int)) : Nat := match lrun cal cs [base0] with | [b] => b.s | _ => 0
/-! ### Shapes, without places. -/
/-- The open blocks: is it a loop, has it an else; the innermost first. -/
def astand (n : Int) (L : List (Bool × Bool)) : Bool :=
  if n = 48 ∨ n = 51 then decide (L.length < 8)
  else if n = 49 then (match L with | [] => false | b :: _ => !b.1 && !b.2)
  else if n = 50 then decide (0 < L.length)
  else if n = 52 then L.any Prod.fst
  else true
def astep (n : Int) (L : List (Bool × Bool)) : List (Bool × Bool) :=
  if n = 48 ∨ n = 51 then (decide (n = 51), false) :: L
  else if n = 49 then (match L with | [] => [] | b :: r => (b.1, true) :: r)
  else if n = 50 then L.tail
  else L
def arun : List (Int × Int) → List (Bool × Bool) → Option (List (Bool × Bool))
  | [], L => some L
  | x :: cs, L => if astand x.1 L = true then arun cs (astep x.1 L) else none
theorem arun_append : ∀ (a b : List (Int × Int)) (L : List (Bool × Bool)), arun (a ++ b) L = (arun a L).bind (arun b)
  | [], b, L => rfl
  | x :: a, b, L => by
    simp only [List.cons_append, arun]
    split
    · exact arun_append a b _
    · rfl
/-- A stack of blocks without its places. -/
def absB (b : Blk) : Bool × Bool := (b.l, decide (b.o ≠ -1))
def absL (L : List Blk) : List (Bool × Bool) := (L.map absB).reverse
theorem absL_snoc (L : List Blk) (b : Blk) : absL (L ++ [b]) = absB b :: absL L := by simp [absL]
theorem firstIx_some {L : List Blk} : ∀ k, k ≤ L.length → ((firstIx L Blk.l k).isSome = true ↔ ∃ b ∈ L.take k, b.l = true) := by
  intro k
  induction k with
  | zero => intro _; simp [firstIx]
  | succ k ih =>
    intro hk
    have e : L[k]? = some L[k] := List.getElem?_eq_getElem (by omega)
    have hm : ∀ b, b ∈ L.take (k + 1) ↔ b ∈ L.take k ∨ b = L[k] := by
      intro b
      rw [List.take_succ_eq_append_getElem (by omega), List.mem_append, List.mem_singleton]
    rw [firstIx]
    simp only [e]
    cases hb : L[k].l with
    | true =>
      refine ⟨fun _ => ⟨L[k], (hm _).2 (Or.inr rfl), hb⟩, fun _ => rfl⟩
    | false =>
      refine Iff.trans (ih (by omega)) ⟨fun ⟨b, h1, h2⟩ => ⟨b, (hm _).2 (Or.inl h1), h2⟩, fun ⟨b, h1, h2⟩ => ?_⟩
      rcases (hm _).1 h1 with h | h
      · exact ⟨b, h, h2⟩
      · rw [h, hb] at h2; cases h2
theorem stand_abs (n : Int) (L : List Blk) : standS n L = astand n (absL L) := by
  unfold standS astand
  have hl : (absL L).length = L.length := by simp [absL]
  split
  · rw [hl]
  · split
    · rcases List.eq_nil_or_concat L with h | ⟨M, b, h⟩
      · subst h; rfl
      · rw [List.concat_eq_append] at h; subst h
        rw [absL_snoc, List.getLast?_concat]
        simp [absB]
    · split
      · rw [hl]
      · split
        · rw [Bool.eq_iff_iff, firstIx_some L.length (Nat.le_refl _), List.take_length]
          simp [absL, absB]
        · rfl
theorem step_abs (n : Int) (x : Nat) (L : List Blk) : absL (stepS n x L) = astep n (absL L) := by
  unfold stepS astep
  split
  · rw [absL_snoc]; simp [absB]
  · split
    · rcases List.eq_nil_or_concat L with h | ⟨M, b, h⟩
      · subst h; rfl
      · rw [List.concat_eq_append] at h; subst h
        rw [List.getLast?_concat]
        simp only [List.dropLast_concat]
        rw [absL_snoc, absL_snoc]
        simp [absB]
    · split
      · rcases List.eq_nil_or_concat L with h | ⟨M, b, h⟩
        · subst h; rfl
        · rw [List.concat_eq_append] at h; subst h
          rw [List.dropLast_concat, absL_snoc]
          rfl
      · rfl
theorem run_abs : ∀ (cs : List (Int × Int)) (x : Nat) (L : List Blk), (runS (opsI cs) x L).map absL = arun cs (absL L)
  | [], _, _ => rfl
  | c :: cs, x, L => by
    show (if standS c.1 L = true then runS (opsI cs) ((x : Int) + 1) (stepS c.1 x L) else none).map absL = _
    rw [arun, ← stand_abs]
    split
    · have := run_abs cs (x + 1) (stepS c.1 x L)
      rw [step_abs] at this
      exact this
    · rfl
theorem good_abs (cs : List (Int × Int)) : goodS cs = true ↔ arun cs [] = some [] := by
  have := run_abs cs 0 []
  rw [goodS, decide_eq_true_eq]
  show runS (opsI cs) ((0 : Nat) : Int) [] = some [] ↔ _
  rw [show absL [] = [] from rfl] at this
  rw [← this]
  cases h : runS (opsI cs) ((0 : Nat) : Int) [] with
  | none => simp
  | some L =>
    simp only [Option.map_some, Option.some.injEq]
    constructor
    · intro e; rw [e]; rfl
    · intro e
      have : L.length = 0 := by have := congrArg List.length e; simpa [absL] using this
      exact List.length_eq_zero_iff.1 this
end Go.Proofs.Ytodagpmcmjleaaa
