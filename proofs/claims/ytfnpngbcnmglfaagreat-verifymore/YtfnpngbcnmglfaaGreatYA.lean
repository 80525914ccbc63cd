/- Layer 9, plainly: gas, told by levels. Layer 9: op.Cost. Layer 9: bound's sum and times. Layer 9, plainly: what the closure of gasOf has added up, place by place. -/
import Derived.Test.YtfnpngbcnmglfaaGreatXM
import Derived.Test.YtfnpngbcnmglfaaGreatSH
namespace Go.Proofs.YtfnpngbcnmglfaaGreat
/-- Where gas is cut. -/
def TM : Nat := 1048577
def cut (n : Nat) : Nat := min n TM
theorem cut_le (n : Nat) : cut n ≤ TM := Nat.min_le_right _ _
theorem cut_id {n : Nat} (h : n ≤ TM) : cut n = n := Nat.min_eq_left h
theorem cut_add (a b : Nat) : cut (a + cut b) = cut (a + b) := by unfold cut TM; omega
theorem cut_add' (a b : Nat) : cut (cut a + b) = cut (a + b) := by unfold cut TM; omega
theorem cut_cut (a : Nat) : cut (cut a) = cut a := by unfold cut TM; omega
theorem cut_mono {a b : Nat} (h : a ≤ b) : cut a ≤ cut b := by unfold cut TM; omega
theorem cut_mul (n a : Nat) : cut (n * cut a) = cut (n * a) := by
  unfold cut
  cases n with
  | zero => rw [Nat.zero_mul, Nat.zero_mul]
  | succ n =>
    rcases Nat.le_total a TM with h | h
    · rw [Nat.min_eq_left h]
    · have h1 : TM ≤ (n + 1) * TM := Nat.le_mul_of_pos_left _ (Nat.succ_pos n)
      have h2 : (n + 1) * TM ≤ (n + 1) * a := Nat.mul_le_mul_left _ h
      rw [Nat.min_eq_right h, Nat.min_eq_right h1, Nat.min_eq_right (Nat.le_trans h1 h2)]
def costN (n : Int) : Nat := (costT n).toNat
theorem costT_pos (n : Int) : costT n = (costN n : Int) ∧ costN n ≤ 30 := by
  have h : ∀ x ∈ costTab, 0 ≤ x ∧ x ≤ 30 := by decide
  have : 0 ≤ costT n ∧ costT n ≤ 30 := by
    unfold costT rowOf
    split
    · rename_i hh
      rw [List.getD_eq_getElem?_getD]
      cases e : costTab[n.toNat]? with
      | none => simp
      | some x => exact h x (List.mem_of_getElem? e)
    · simp
  unfold costN
  omega
/-- A block that is open: is it a loop, how often, the sum so far, what stood ahead of its else. -/
structure Lev where
  (l : Bool) (t : Int) (s : Nat) (e : Option Nat)
def closed9 (b : Lev) : Nat :=
  if b.l then cut (costN 51 + cut (min b.t.toNat TM * cut (b.s + costN 50)))
  else match b.e with
    | some y => cut (costN 48 + max y (cut (b.s + costN 50)))
    | none => cut (costN 48 + cut (b.s + costN 50))
/-- One instruction: the levels, the innermost first; the last is what is outside of blocks. -/
def lstep (cal : List Int) (x : Int × Int) : List Lev → List Lev
  | [] => []
  | b :: r =>
    if x.1 = 48 ∨ x.1 = 51 then ⟨decide (x.1 = 51), x.2, 0, none⟩ :: b :: r
    else if x.1 = 49 then { b with e := some (cut (b.s + costN 49)), s := 0 } :: r
    else if x.1 = 50 then (match r with | p :: q => { p with s := cut (p.s + closed9 b) } :: q | [] => [b])
    else if x.1 = 53 then { b with s := cut (b.s + costN 53 + (cal.getD x.2.toNat 0).toNat) } :: r
    else { b with s := cut (b.s + costN x.1) } :: r
def lrun (cal : List Int) (cs : List (Int × Int)) (S : List Lev) : List Lev := cs.foldl (fun S x => lstep cal x S) S
theorem lrun_append (cal : List Int) (a b : List (Int × Int)) (S : List Lev) : lrun cal (a ++ b) S = lrun cal b (lrun cal a S) := List.foldl_append
def base0 : Lev := ⟨false, 0, 0, none⟩
/-- The bound. -/
def gasS (cal : List Int) (cs : List (Int × Int)) : Nat := match lrun cal cs [base0] with | [b] => b.s | _ => 0
/-! ### Shapes, without places. -/
/-- The open blocks: is it a loop, has it an else; the innermost first. -/
def astand (n : Int) (L : List (Bool × Bool)) : Bool :=
  if n = 48 ∨ n = 51 then decide (L.length < 8)
  else if n = 49 then (match L with | [] => false | b :: _ => !b.1 && !b.2)
  else if n = 50 then decide (0 < L.length)
  else if n = 52 then L.any Prod.fst
  else true
def astep (n : Int) (L : List (Bool × Bool)) : List (Bool × Bool) :=
  if n = 48 ∨ n = 51 then (decide (n = 51), false) :: L
  else if n = 49 then (match L with | [] => [] | b :: r => (b.1, true) :: r)
  else if n = 50 then L.tail
  else L
def arun : List (Int × Int) → List (Bool × Bool) → Option (List (Bool × Bool))
  | [], L => some L
  | x :: cs, L => if astand x.1 L = true then arun cs (astep x.1 L) else none
theorem arun_append : ∀ (a b : List (Int × Int)) (L : List (Bool × Bool)), arun (a ++ b) L = (arun a L).bind (arun b)
  | [], b, L => rfl
  | x :: a, b, L => by
    simp only [List.cons_append, arun]
    split
    · exact arun_append a b _
    · rfl
/-- A stack of blocks without its places. -/
def absB (b : Blk) : Bool × Bool := (b.l, decide (b.o ≠ -1))
def absL (L : List Blk) : List (Bool × Bool) := (L.map absB).reverse
theorem absL_snoc (L : List Blk) (b : Blk) : absL (L ++ [b]) = absB b :: absL L := by simp [absL]
theorem firstIx_some {L : List Blk} : ∀ k, k ≤ L.length → ((firstIx L Blk.l k).isSome = true ↔ ∃ b ∈ L.take k, b.l = true) := by
  intro k
  induction k with
  | zero => intro _; simp [firstIx]
  | succ k ih =>
    intro hk
    have e : L[k]? = some L[k] := List.getElem?_eq_getElem (by omega)
    have hm : ∀ b, b ∈ L.take (k + 1) ↔ b ∈ L.take k ∨ b = L[k] := by
      intro b
      rw [List.take_succ_eq_append_getElem (by omega), List.mem_append, List.mem_singleton]
    rw [firstIx]
    simp only [e]
    cases hb : L[k].l with
    | true =>
      refine ⟨fun _ => ⟨L[k], (hm _).2 (Or.inr rfl), hb⟩, fun _ => rfl⟩
    | false =>
      refine Iff.trans (ih (by omega)) ⟨fun ⟨b, h1, h2⟩ => ⟨b, (hm _).2 (Or.inl h1), h2⟩, fun ⟨b, h1, h2⟩ => ?_⟩
      rcases (hm _).1 h1 with h | h
      · exact ⟨b, h, h2⟩
      · rw [h, hb] at h2; cases h2
theorem stand_abs (n : Int) (L : List Blk) : standS n L = astand n (absL L) := by
  unfold standS astand
  have hl : (absL L).length = L.length := by simp [absL]
  split
  · rw [hl]
  · split
    · rcases List.eq_nil_or_concat L with h | ⟨M, b, h⟩
      · subst h; rfl
      · rw [List.concat_eq_append] at h; subst h
        rw [absL_snoc, List.getLast?_concat]
        simp [absB]
    · split
      · rw [hl]
      · split
        · rw [Bool.eq_iff_iff, firstIx_some L.length (Nat.le_refl _), List.take_length]
          simp [absL, absB]
        · rfl
theorem step_abs (n : Int) (x : Nat) (L : List Blk) : absL (stepS n x L) = astep n (absL L) := by
  unfold stepS astep
  split
  · rw [absL_snoc]; simp [absB]
  · split
    · rcases List.eq_nil_or_concat L with h | ⟨M, b, h⟩
      · subst h; rfl
      · rw [List.concat_eq_append] at h; subst h
        rw [List.getLast?_concat]
        simp only [List.dropLast_concat]
        rw [absL_snoc, absL_snoc]
        simp [absB]
    · split
      · rcases List.eq_nil_or_concat L with h | ⟨M, b, h⟩
        · subst h; rfl
        · rw [List.concat_eq_append] at h; subst h
          rw [List.dropLast_concat, absL_snoc]
          rfl
      · rfl
theorem run_abs : ∀ (cs : List (Int × Int)) (x : Nat) (L : List Blk), (runS (opsI cs) x L).map absL = arun cs (absL L)
  | [], _, _ => rfl
  | c :: cs, x, L => by
    show (if standS c.1 L = true then runS (opsI cs) ((x : Int) + 1) (stepS c.1 x L) else none).map absL = _
    rw [arun, ← stand_abs]
    split
    · have := run_abs cs (x + 1) (stepS c.1 x L)
      rw [step_abs] at this
      exact this
    · rfl
theorem good_abs (cs : List (Int × Int)) : goodS cs = true ↔ arun cs [] = some [] := by
  have := run_abs cs 0 []
  rw [goodS, decide_eq_true_eq]
  show runS (opsI cs) ((0 : Nat) : Int) [] = some [] ↔ _
  rw [show absL [] = [] from rfl] at this
  rw [← this]
  cases h : runS (opsI cs) ((0 : Nat) : Int) [] with
  | none => simp
  | some L =>
    simp only [Option.map_some, Option.some.injEq]
    constructor
    · intro e; rw [e]; rfl
    · intro e
      have : L.length = 0 := by have := congrArg List.length e; simpa [absL] using this
      exact List.length_eq_zero_iff.1 this
end Go.Proofs.YtfnpngbcnmglfaaGreat
namespace Go.Proofs.YtfnpngbcnmglfaaGreat
open Go.RowKit
set_option maxRecDepth 100000 in
set_option maxHeartbeats 1000000 in
theorem cost9_no (n : Int) (w : World) (h : n < 1 ∨ 53 < n) : Calls Tryz.prog 195 #[.int .i64 n] w fun e w' => e = .returned (.int .i64 (costT n)) ∧ w' = w := by
  rw [show costT n = 0 from rowOf_none _ _ n h]
  have e13 : (n == 13) = false := by simp; omega
  have e14 : (n == 14) = false := by simp; omega
  have e15 : (n == 15) = false := by simp; omega
  have e33 : (n == 33) = false := by simp; omega
  have e34 : (n == 34) = false := by simp; omega
  have e35 : (n == 35) = false := by simp; omega
  have e36 : (n == 36) = false := by simp; omega
  have e37 : (n == 37) = false := by simp; omega
  have e38 : (n == 38) = false := by simp; omega
  have e39 : (n == 39) = false := by simp; omega
  have e40 : (n == 40) = false := by simp; omega
  have e41 : (n == 41) = false := by simp; omega
  have e42 : (n == 42) = false := by simp; omega
  have e43 : (n == 43) = false := by simp; omega
  have e44 : (n == 44) = false := by simp; omega
  have e45 : (n == 45) = false := by simp; omega
  have e46 : (n == 46) = false := by simp; omega
  have e51 : (n == 51) = false := by simp; omega
  have e53 : (n == 53) = false := by simp; omega
  go_enter Tryz.func195, Tryz.ntmps195
  go_wp2
  all_goals (go_ret; exact ⟨rfl, rfl⟩)
set_option maxRecDepth 100000 in
set_option maxHeartbeats 8000000 in
theorem cost9_in (n : Int) (h : n = 1 ∨ n = 2 ∨ n = 3 ∨ n = 4 ∨ n = 5 ∨ n = 6 ∨ n = 7 ∨ n = 8 ∨ n = 9 ∨ n = 10 ∨ n = 11 ∨ n = 12 ∨ n = 13 ∨ n = 14 ∨ n = 15 ∨ n = 16 ∨ n = 17 ∨ n = 18 ∨ n = 19 ∨ n = 20 ∨ n = 21 ∨ n = 22 ∨ n = 23 ∨ n = 24 ∨ n = 25 ∨ n = 26 ∨ n = 27 ∨ n = 28 ∨ n = 29 ∨ n = 30 ∨ n = 31 ∨ n = 32 ∨ n = 33 ∨ n = 34 ∨ n = 35 ∨ n = 36 ∨ n = 37 ∨ n = 38 ∨ n = 39 ∨ n = 40 ∨ n = 41 ∨ n = 42 ∨ n = 43 ∨ n = 44 ∨ n = 45 ∨ n = 46 ∨ n = 47 ∨ n = 48 ∨ n = 49 ∨ n = 50 ∨ n = 51 ∨ n = 52 ∨ n = 53) (w : World) : Calls Tryz.prog 195 #[.int .i64 n] w fun e w' => e = .returned (.int .i64 (costT n)) ∧ w' = w := by
  rcases h with rfl | rfl | rfl | rfl | rfl | rfl | rfl | rfl | rfl | rfl | rfl | rfl | rfl | rfl | rfl | rfl | rfl | rfl | rfl | rfl | rfl | rfl | rfl | rfl | rfl | rfl | rfl | rfl | rfl | rfl | rfl | rfl | rfl | rfl | rfl | rfl | rfl | rfl | rfl | rfl | rfl | rfl | rfl | rfl | rfl | rfl | rfl | rfl | rfl | rfl | rfl | rfl | rfl
  all_goals as_aux_lemma =>
    go_enter Tryz.func195, Tryz.ntmps195
    go_wp2
    go_ret
    exact ⟨rfl, rfl⟩
theorem cost9_t (n : Int) (w : World) : Calls Tryz.prog 195 #[.int .i64 n] w fun e w' => e = .returned (.int .i64 (costT n)) ∧ w' = w := by
  by_cases h : n < 1 ∨ 53 < n
  · exact cost9_no n w h
  · exact cost9_in n (op_cases n h) w
theorem cost9_any (n : Int) (w : World) : Calls Tryz.prog 195 #[.int .i64 n] w fun e w' => e = .returned (.int .i64 (costN n : Nat)) ∧ w' = w := by
  have h := (costT_pos n).1
  rw [← h]
  exact cost9_t n w
end Go.Proofs.YtfnpngbcnmglfaaGreat
namespace Go.Proofs.YtfnpngbcnmglfaaGreat
open Go.RowKit
theorem hid9 {p : Prop} (h : p) : Hid p := h
set_option maxRecDepth 100000 in
set_option maxHeartbeats 1000000 in
theorem sum9_any (zs : List Nat) (a : Option Addr) (n c : Nat) (hn : zs.length = n) (bn : n ≤ 100000) (W : World) (hz : NsAt W.cell? a (zs.map Int.ofNat)) :
    Calls Tryz.prog 194 #[.slice a n c] W fun e w' => e = .returned (.int .i64 (cut zs.sum : Nat)) ∧ w' = W := by
  have HN := hid9 hn
  have HZ := hid9 hz
  clear hn hz
  go_enter Tryz.func194, Tryz.ntmps194
  go_wp2_with fail
  go_loopw [3, 8] (fun gv iv wr => ∃ k g : Nat, gv = .int .i64 g ∧ iv = .int .i64 k ∧ k ≤ n ∧ g ≤ 1048577 ∧ W = wr ∧ Hid (g = cut (zs.take k).sum)) (fun _ iv _ => n - (intOf iv).toNat)
  case atStart => exact ⟨0, 0, rfl, rfl, Nat.zero_le _, by omega, rfl, hid9 rfl⟩
  case round =>
    obtain ⟨k, g, rfl, rfl, hk, hg, rfl, HG⟩ := hrel
    by_cases hlt : k < n
    · have hkl : k < zs.length := by rw [HN.out]; exact hlt
      obtain ⟨zb, zo, e1, z1⟩ : ∃ zb zo, a = some ⟨zb, zo, none⟩ ∧ W.cell? ⟨zb, zo + k, none⟩ = some (.int .i64 (zs[k] : Nat)) := by
        rcases HZ.out with h | ⟨b, o, e, h⟩
        · rw [List.map_eq_nil_iff] at h; rw [h] at hkl; cases hkl
        · refine ⟨b, o, e, ?_⟩
          have := h k (by rw [List.length_map]; exact hkl)
          rw [List.getElem_map] at this
          exact this
      subst e1
      have HS : Hid (cut (zs.take (k + 1)).sum = g + min zs[k] (1048577 - g)) := hid9 (by
        rw [List.take_succ_eq_append_getElem hkl, List.sum_append_nat, List.sum_singleton, ← cut_add', ← HG.out]
        unfold cut TM
        omega)
      generalize zs[k] = z at *
      clear HG HZ
      go_wp2_with fail
      exact ⟨⟨k + 1, g + min z (1048577 - g), by congr 1; first | (split <;> omega) | omega, by go_num, by omega, by omega, trivial, hid9 HS.out.symm⟩, by simp [intOf]; omega⟩
    · obtain rfl : k = n := by omega
      have HE : Hid (g = cut zs.sum) := hid9 (by rw [HG.out, ← HN.out, List.take_length])
      clear HG HZ
      go_wp2_with fail
      go_ret
      exact ⟨by rw [← HE.out]; rfl, rfl⟩
/-- A slice of new numbers, handed to sum. -/
theorem sum9_one (x : Nat) (w : World) :
    Calls Tryz.prog 194 #[.slice (some ⟨w.heap.size, 0, none⟩) 1 1] (w.alloc (.cells #[.int .i64 (x : Int)] 3)) fun e w' => e = .returned (.int .i64 (cut x : Nat)) ∧ w' = w.alloc (.cells #[.int .i64 (x : Int)] 3) := by
  have := sum9_any [x] (some ⟨w.heap.size, 0, none⟩) 1 1 rfl (by omega) (w.alloc (.cells #[.int .i64 (x : Int)] 3)) (.inr ⟨_, _, rfl, fun j hj => by
    obtain rfl : j = 0 := by simp at hj; omega
    exact Lib.cell_of_heap (heap_alloc_new w _) 0⟩)
  simpa using this
theorem sum9_two (x y : Nat) (w : World) :
    Calls Tryz.prog 194 #[.slice (some ⟨w.heap.size, 0, none⟩) 2 2] (w.alloc (.cells #[.int .i64 (x : Int), .int .i64 (y : Int)] 3)) fun e w' => e = .returned (.int .i64 (cut (x + y) : Nat)) ∧ w' = w.alloc (.cells #[.int .i64 (x : Int), .int .i64 (y : Int)] 3) := by
  have := sum9_any [x, y] (some ⟨w.heap.size, 0, none⟩) 2 2 rfl (by omega) (w.alloc (.cells #[.int .i64 (x : Int), .int .i64 (y : Int)] 3)) (.inr ⟨_, _, rfl, fun j hj => by
    have hj2 : j = 0 ∨ j = 1 := by simp at hj; omega
    rcases hj2 with rfl | rfl
    · exact Lib.cell_of_heap (heap_alloc_new w _) 0
    · exact Lib.cell_of_heap (heap_alloc_new w _) 1⟩)
  simpa using this
theorem sum9_at (x y : Nat) (w : World) (B : Nat) (hB : w.heap.size = B) :
    Calls Tryz.prog 194 #[.slice (some ⟨B, 0, none⟩) 2 2] (w.alloc (.cells #[.int .i64 (x : Int), .int .i64 (y : Int)] 3)) fun e w' => e = .returned (.int .i64 (cut (x + y) : Nat)) ∧ w' = w.alloc (.cells #[.int .i64 (x : Int), .int .i64 (y : Int)] 3) := by
  subst hB
  exact sum9_two x y w
set_option maxRecDepth 100000 in
set_option maxHeartbeats 1000000 in
theorem times9_any (r g : Nat) (hg : g ≤ 1048577) (w : World) :
    Calls Tryz.prog 196 #[.int .i64 (r : Int), .int .i64 (g : Int)] w fun e w' => e = .returned (.int .i64 (cut (min r TM * g) : Nat)) ∧ Below w.heap.size w w' := by
  obtain ⟨v, hv⟩ : ∃ v, v = cut (min r TM * g) := ⟨_, rfl⟩
  rw [← hv]
  rcases Nat.lt_or_ge 1048577 r with h | h
  · have hp : 1048577 * g ≤ 1048577 * 1048577 := Nat.mul_le_mul_left _ hg
    have HS : Hid (∀ w : World, Calls Tryz.prog 194 #[.slice (some ⟨w.heap.size, 0, none⟩) 1 1] (w.alloc (.cells #[.int .i64 (1048577 * (g : Int))] 3)) fun e w' => e = .returned (.int .i64 (v : Nat)) ∧ w' = w.alloc (.cells #[.int .i64 (1048577 * (g : Int))] 3)) := hid9 fun w => by
      have := sum9_one (1048577 * g) w
      rw [hv, Nat.min_eq_right (show TM ≤ r from Nat.le_of_lt h)]
      simpa [TM] using this
    have hmin : min (r : Int) 1048577 = 1048577 := by omega
    clear hv
    go_enter Tryz.func196, Tryz.ntmps196
    go_wp2_with (first | (go_at_call 194; refine (HS.out _).mono ?_; clear HS; rintro e w' ⟨rfl, rfl⟩) | fail)
    go_ret
    exact ⟨rfl, (Below.refl _ w).alloc (Nat.le_refl _) _⟩
  · have hp : r * g ≤ 1048577 * 1048577 := Nat.mul_le_mul h hg
    have e1 : ((r * g : Nat) : Int) = (r : Int) * (g : Int) := Int.natCast_mul _ _
    have HS : Hid (∀ w : World, Calls Tryz.prog 194 #[.slice (some ⟨w.heap.size, 0, none⟩) 1 1] (w.alloc (.cells #[.int .i64 ((r : Int) * (g : Int))] 3)) fun e w' => e = .returned (.int .i64 (v : Nat)) ∧ w' = w.alloc (.cells #[.int .i64 ((r : Int) * (g : Int))] 3)) := hid9 fun w => by
      have := sum9_one (r * g) w
      rw [hv, Nat.min_eq_left (show r ≤ TM from h), ← e1]
      exact this
    have b1 : (r : Int) * (g : Int) ≤ 1048577 * 1048577 := by rw [← e1]; omega
    have b2 : 0 ≤ (r : Int) * (g : Int) := by rw [← e1]; omega
    have hmin : min (r : Int) 1048577 = (r : Int) := by omega
    clear hv e1
    go_enter Tryz.func196, Tryz.ntmps196
    go_wp2_with (first | (go_at_call 194; refine (HS.out _).mono ?_; clear HS; rintro e w' ⟨rfl, rfl⟩) | fail)
    go_ret
    exact ⟨rfl, (Below.refl _ w).alloc (Nat.le_refl _) _⟩
end Go.Proofs.YtfnpngbcnmglfaaGreat
namespace Go.Proofs.YtfnpngbcnmglfaaGreat
def seg9 (cs : List (Int × Int)) (a m : Nat) : List (Int × Int) := (cs.take m).drop a
theorem seg9_same (cs : List (Int × Int)) (a : Nat) : seg9 cs a a = [] := by
  unfold seg9
  rw [List.drop_eq_nil_iff]
  simp
  omega
theorem seg9_snoc {cs : List (Int × Int)} {a k : Nat} (h : a ≤ k) (hk : k < cs.length) : seg9 cs a (k + 1) = seg9 cs a k ++ [cs[k]] := by
  unfold seg9
  rw [List.take_succ_eq_append_getElem hk, List.drop_append_of_le_length (by simp; omega)]
theorem seg9_cat {cs : List (Int × Int)} {a k m : Nat} (h : a ≤ k) (h2 : k ≤ m) (hk : k ≤ cs.length) : seg9 cs a m = seg9 cs a k ++ seg9 cs k m := by
  unfold seg9
  have e1 : (cs.take m).take k = cs.take k := by rw [List.take_take, Nat.min_eq_left h2]
  have h3 : (cs.take m) = (cs.take m).take k ++ (cs.take m).drop k := (List.take_append_drop _ _).symm
  conv => lhs; rw [h3, e1]
  rw [List.drop_append_of_le_length (by rw [List.length_take]; omega)]
theorem lstep_open {cal : List Int} {x : Int × Int} (h : x.1 = 48 ∨ x.1 = 51) (b : Lev) (R : List Lev) : lstep cal x (b :: R) = ⟨decide (x.1 = 51), x.2, 0, none⟩ :: b :: R := by
  simp only [lstep]; rw [if_pos h]
theorem lstep_else {cal : List Int} {x : Int × Int} (h : x.1 = 49) (b : Lev) (R : List Lev) : lstep cal x (b :: R) = { b with e := some (cut (b.s + costN 49)), s := 0 } :: R := by
  simp only [lstep]; rw [if_neg (by omega), if_pos h]
theorem lstep_end {cal : List Int} {x : Int × Int} (h : x.1 = 50) (b p : Lev) (R : List Lev) : lstep cal x (b :: p :: R) = { p with s := cut (p.s + closed9 b) } :: R := by
  simp only [lstep]; rw [if_neg (by omega), if_neg (by omega), if_pos h]
theorem lstep_call {cal : List Int} {x : Int × Int} (h : x.1 = 53) (b : Lev) (R : List Lev) : lstep cal x (b :: R) = { b with s := cut (b.s + costN 53 + (cal.getD x.2.toNat 0).toNat) } :: R := by
  simp only [lstep]; rw [if_neg (by omega), if_neg (by omega), if_neg (by omega), if_pos h]
theorem lstep_plain {cal : List Int} {x : Int × Int} (h1 : x.1 ≠ 48) (h2 : x.1 ≠ 49) (h3 : x.1 ≠ 50) (h4 : x.1 ≠ 51) (h5 : x.1 ≠ 53) (b : Lev) (R : List Lev) : lstep cal x (b :: R) = { b with s := cut (b.s + costN x.1) } :: R := by
  simp only [lstep]; rw [if_neg (by omega), if_neg h2, if_neg h3, if_neg h5]
theorem astep_open {n : Int} (h : n = 48 ∨ n = 51) (L : List (Bool × Bool)) : astep n L = (decide (n = 51), false) :: L := by
  unfold astep; rw [if_pos h]
theorem astep_plain {n : Int} (h1 : n ≠ 48) (h2 : n ≠ 49) (h3 : n ≠ 50) (h4 : n ≠ 51) (L : List (Bool × Bool)) : astep n L = L := by
  unfold astep; rw [if_neg (by omega), if_neg h2, if_neg h3]
/-- From place a on, at k: g is added up, and the open blocks are those of a. -/
structure PI (cal : List Int) (cs : List (Int × Int)) (a k g : Nat) (L : List (Bool × Bool)) : Prop where
  le : a ≤ k
  kn : k ≤ cs.length
  ar : arun (cs.take k) [] = some L
  lr : ∀ l t s e R, s ≤ TM → lrun cal (seg9 cs a k) (⟨l, t, s, e⟩ :: R) = ⟨l, t, cut (s + g), e⟩ :: R
  gl : g ≤ TM
theorem PI.lr0 {cal : List Int} {cs : List (Int × Int)} {a k g : Nat} {L : List (Bool × Bool)} (h : PI cal cs a k g L) (l t e R) : lrun cal (seg9 cs a k) (⟨l, t, 0, e⟩ :: R) = ⟨l, t, g, e⟩ :: R := by
  rw [h.lr l t 0 e R (Nat.zero_le _), Nat.zero_add, cut_id h.gl]
theorem pi_start {cal : List Int} {cs : List (Int × Int)} {a : Nat} {L : List (Bool × Bool)} (h : a ≤ cs.length) (ar : arun (cs.take a) [] = some L) : PI cal cs a a 0 L :=
  ⟨Nat.le_refl _, h, ar, fun l t s e R hs => by rw [seg9_same, Nat.add_zero, cut_id hs]; rfl, Nat.zero_le _⟩
theorem good_stand {cs : List (Int × Int)} (hg : goodS cs = true) {k : Nat} (hk : k < cs.length) {L : List (Bool × Bool)} (ar : arun (cs.take k) [] = some L) : astand cs[k].1 L = true ∧ arun (cs.take (k + 1)) [] = some (astep cs[k].1 L) := by
  have h := (good_abs cs).1 hg
  have e : cs = cs.take k ++ (cs[k] :: cs.drop (k + 1)) := by rw [List.getElem_cons_drop, List.take_append_drop]
  have h2 : arun (cs.take k ++ (cs[k] :: cs.drop (k + 1))) [] = some [] := by rw [← e]; exact h
  rw [arun_append, ar, Option.bind_some, arun] at h2
  have hs : astand cs[k].1 L = true := by
    by_cases q : astand cs[k].1 L = true
    · exact q
    · rw [if_neg q] at h2; cases h2
  refine ⟨hs, ?_⟩
  rw [List.take_succ_eq_append_getElem hk, arun_append, ar, Option.bind_some, arun, if_pos hs]
  rfl
theorem good_end {cs : List (Int × Int)} (hg : goodS cs = true) {L : List (Bool × Bool)} (ar : arun (cs.take cs.length) [] = some L) : L = [] := by
  have h := (good_abs cs).1 hg
  rw [List.take_length, h] at ar
  cases ar
  rfl
theorem lrun_one (cal : List Int) (x : Int × Int) (S : List Lev) : lrun cal [x] S = lstep cal x S := rfl
theorem pi_plain {cal : List Int} {cs : List (Int × Int)} (hg : goodS cs = true) {a k g : Nat} {L : List (Bool × Bool)} (h : PI cal cs a k g L) (hk : k < cs.length) (h1 : cs[k].1 ≠ 48) (h2 : cs[k].1 ≠ 49) (h3 : cs[k].1 ≠ 50) (h4 : cs[k].1 ≠ 51) (h5 : cs[k].1 ≠ 53) : PI cal cs a (k + 1) (cut (g + costN cs[k].1)) L := by
  have h0 := h.le
  refine ⟨by omega, hk, ?_, fun l t s e R hs => ?_, cut_le _⟩
  · rw [(good_stand hg hk h.ar).2, astep_plain h1 h2 h3 h4]
  · rw [seg9_snoc h.le hk, lrun_append, h.lr _ _ _ _ _ hs, lrun_one, lstep_plain h1 h2 h3 h4 h5, cut_add', cut_add, Nat.add_assoc]
theorem pi_call {cal : List Int} {cs : List (Int × Int)} (hg : goodS cs = true) {a k g v : Nat} {L : List (Bool × Bool)} (h : PI cal cs a k g L) (hk : k < cs.length) (h1 : cs[k].1 = 53) (hv : (cal.getD cs[k].2.toNat 0).toNat = v) : PI cal cs a (k + 1) (cut (cut (g + costN 53) + v)) L := by
  have h0 := h.le
  refine ⟨by omega, hk, ?_, fun l t s e R hs => ?_, cut_le _⟩
  · rw [(good_stand hg hk h.ar).2, astep_plain (by omega) (by omega) (by omega) (by omega)]
  · rw [seg9_snoc h.le hk, lrun_append, h.lr _ _ _ _ _ hs, lrun_one, lstep_call h1, hv]
    simp only [cut_add, cut_add', Nat.add_assoc]
/-- At an opener: what stands behind it. -/
theorem pi_open {cs : List (Int × Int)} (hg : goodS cs = true) {k : Nat} {L : List (Bool × Bool)} (ar : arun (cs.take k) [] = some L) (hk : k < cs.length) (h1 : cs[k].1 = 48 ∨ cs[k].1 = 51) : arun (cs.take (k + 1)) [] = some ((decide (cs[k].1 = 51), false) :: L) := by
  rw [(good_stand hg hk ar).2, astep_open h1]
theorem pi_else {cs : List (Int × Int)} (hg : goodS cs = true) {k : Nat} {L : List (Bool × Bool)} {b : Bool × Bool} (ar : arun (cs.take k) [] = some (b :: L)) (hk : k < cs.length) (h1 : cs[k].1 = 49) : b = (false, false) ∧ arun (cs.take (k + 1)) [] = some ((false, true) :: L) := by
  obtain ⟨s1, s2⟩ := good_stand hg hk ar
  rw [h1] at s1 s2
  have e : b = (false, false) := by
    obtain ⟨b1, b2⟩ := b
    cases b1 <;> cases b2 <;> first | rfl | (exact absurd s1 (by simp [astand]))
  refine ⟨e, ?_⟩
  rw [s2, e]
  rfl
theorem pi_shut {cs : List (Int × Int)} (hg : goodS cs = true) {k : Nat} {L : List (Bool × Bool)} {b : Bool × Bool} (ar : arun (cs.take k) [] = some (b :: L)) (hk : k < cs.length) (h1 : cs[k].1 = 50) : arun (cs.take (k + 1)) [] = some L := by
  rw [(good_stand hg hk ar).2, h1]
  rfl
theorem seg9_block {cs : List (Int × Int)} {a k m : Nat} (h1 : a ≤ k) (hk : k < cs.length) (h2 : k + 1 ≤ m) (hm : m < cs.length) : seg9 cs a (m + 1) = seg9 cs a k ++ ([cs[k]] ++ (seg9 cs (k + 1) m ++ [cs[m]])) := by
  rw [seg9_snoc (by omega) hm, seg9_cat (k := k + 1) (by omega) h2 hk, seg9_snoc h1 hk]
  simp
theorem pi_loop {cal : List Int} {cs : List (Int × Int)} (hg : goodS cs = true) {a k g m y : Nat} {L : List (Bool × Bool)} (h : PI cal cs a k g L) (hk : k < cs.length) (h1 : cs[k].1 = 51) (hy : PI cal cs (k + 1) m y ((true, false) :: L)) (hm : m < cs.length) (h2 : cs[m].1 = 50) : PI cal cs a (m + 1) (cut (cut (g + costN 51) + cut (min cs[k].2.toNat TM * cut (y + costN 50)))) L := by
  have h0 := h.le
  have h3 := hy.le
  refine ⟨by omega, hm, pi_shut hg hy.ar hm h2, fun l t s e R hs => ?_, cut_le _⟩
  rw [seg9_block h.le hk hy.le hm, lrun_append, h.lr _ _ _ _ _ hs, lrun_append, lrun_one, lstep_open (.inr h1), lrun_append, hy.lr0, lrun_one, lstep_end h2]
  simp only [closed9, h1, decide_true, if_true, cut_add, cut_add', Nat.add_assoc]
theorem pi_if {cal : List Int} {cs : List (Int × Int)} (hg : goodS cs = true) {a k g m y : Nat} {L : List (Bool × Bool)} (h : PI cal cs a k g L) (hk : k < cs.length) (h1 : cs[k].1 = 48) (hy : PI cal cs (k + 1) m y ((false, false) :: L)) (hm : m < cs.length) (h2 : cs[m].1 = 50) : PI cal cs a (m + 1) (cut (cut (g + costN 48) + cut (y + costN 50))) L := by
  have h0 := h.le
  have h3 := hy.le
  refine ⟨by omega, hm, pi_shut hg hy.ar hm h2, fun l t s e R hs => ?_, cut_le _⟩
  rw [seg9_block h.le hk hy.le hm, lrun_append, h.lr _ _ _ _ _ hs, lrun_append, lrun_one, lstep_open (.inl h1), lrun_append, hy.lr0, lrun_one, lstep_end h2]
  have e51 : ¬ (48 : Int) = 51 := by omega
  simp only [closed9, h1, e51, decide_false, Bool.false_eq_true, if_false, cut_add, cut_add', Nat.add_assoc]
theorem pi_ifelse {cal : List Int} {cs : List (Int × Int)} (hg : goodS cs = true) {a k g m y m2 z : Nat} {L : List (Bool × Bool)} (h : PI cal cs a k g L) (hk : k < cs.length) (h1 : cs[k].1 = 48) (hy : PI cal cs (k + 1) m y ((false, false) :: L)) (hm : m < cs.length) (h2 : cs[m].1 = 49) (hz : PI cal cs (m + 1) m2 z ((false, true) :: L)) (hm2 : m2 < cs.length) (h3 : cs[m2].1 = 50) : PI cal cs a (m2 + 1) (cut (cut (g + costN 48) + max (cut (y + costN 49)) (cut (z + costN 50)))) L := by
  have h0 := h.le
  have h4 := hy.le
  have h5 := hz.le
  refine ⟨by omega, hm2, pi_shut hg hz.ar hm2 h3, fun l t s e R hs => ?_, cut_le _⟩
  have es : seg9 cs a (m2 + 1) = seg9 cs a k ++ ([cs[k]] ++ (seg9 cs (k + 1) m ++ ([cs[m]] ++ (seg9 cs (m + 1) m2 ++ [cs[m2]])))) := by
    rw [seg9_snoc (by omega) hm2, seg9_cat (k := m + 1) (by omega) hz.le hm, seg9_block h.le hk hy.le hm]
    simp
  rw [es, lrun_append, h.lr _ _ _ _ _ hs, lrun_append, lrun_one, lstep_open (.inl h1), lrun_append, hy.lr0, lrun_append, lrun_one, lstep_else h2, lrun_append, hz.lr0, lrun_one, lstep_end h3]
  have e51 : ¬ (48 : Int) = 51 := by omega
  simp only [closed9, h1, e51, decide_false, Bool.false_eq_true, if_false, cut_add, cut_add', Nat.add_assoc]
/-- The whole of it. -/
theorem pi_gas {cal : List Int} {cs : List (Int × Int)} {g : Nat} (h : PI cal cs 0 cs.length g []) : gasS cal cs = g := by
  have := h.lr0 false 0 none []
  unfold seg9 at this
  rw [List.take_length, List.drop_zero] at this
  unfold gasS base0
  rw [this]
theorem pi_ex {cal : List Int} {cs : List (Int × Int)} (hg : goodS cs = true) : ∀ (u a k g : Nat) (L : List (Bool × Bool)), cs.length - k ≤ u → PI cal cs a k g L → ∃ m g', k ≤ m ∧ PI cal cs a m g' L ∧ (m = cs.length ∨ ∃ h : m < cs.length, cs[m].1 = 49 ∨ cs[m].1 = 50) := by
  intro u
  induction u with
  | zero => intro a k g L hu h; exact ⟨k, g, Nat.le_refl _, h, .inl (by have := h.kn; omega)⟩
  | succ u ih =>
    intro a k g L hu h
    rcases Nat.lt_or_ge k cs.length with hk | hk
    · have fin : ∀ k' g', k < k' → PI cal cs a k' g' L → ∃ m g', k ≤ m ∧ PI cal cs a m g' L ∧ (m = cs.length ∨ ∃ h : m < cs.length, cs[m].1 = 49 ∨ cs[m].1 = 50) := fun k' g' h1 h2 => by
        obtain ⟨m, g2, q1, q2, q3⟩ := ih a k' g' L (by omega) h2
        exact ⟨m, g2, by omega, q2, q3⟩
      have inn : ∀ k' L', k < k' → k' ≤ cs.length → arun (cs.take k') [] = some L' → L' ≠ [] → ∃ m y, k' ≤ m ∧ PI cal cs k' m y L' ∧ ∃ h : m < cs.length, cs[m].1 = 49 ∨ cs[m].1 = 50 := fun k' L' h1 h2 h3 h4 => by
        obtain ⟨m, y, q1, q2, q3⟩ := ih k' k' 0 L' (by omega) (pi_start h2 h3)
        refine ⟨m, y, q1, q2, ?_⟩
        rcases q3 with q3 | q3
        · have q8 := q2.ar
          rw [q3] at q8
          exact absurd (good_end hg q8) h4
        · exact q3
      rcases (show cs[k].1 = 49 ∨ cs[k].1 = 50 ∨ cs[k].1 = 53 ∨ cs[k].1 = 48 ∨ cs[k].1 = 51 ∨ (cs[k].1 ≠ 49 ∧ cs[k].1 ≠ 50 ∧ cs[k].1 ≠ 53 ∧ cs[k].1 ≠ 48 ∧ cs[k].1 ≠ 51) by omega) with hx | hx | hx | hx | hx | ⟨x1, x2, x3, x4, x5⟩
      · exact ⟨k, g, Nat.le_refl _, h, .inr ⟨hk, .inl hx⟩⟩
      · exact ⟨k, g, Nat.le_refl _, h, .inr ⟨hk, .inr hx⟩⟩
      · exact fin _ _ (Nat.lt_succ_self k) (pi_call hg h hk hx rfl)
      · have ho := pi_open hg h.ar hk (.inl hx)
        rw [hx] at ho
        obtain ⟨m, y, q1, q2, q3, q4⟩ := inn (k + 1) _ (Nat.lt_succ_self k) hk ho (by simp)
        rcases q4 with q4 | q4
        · have he := (pi_else hg q2.ar q3 q4).2
          obtain ⟨m2, z, r1, r2, r3, r4⟩ := inn (m + 1) _ (by omega) q3 he (by simp)
          rcases r4 with r4 | r4
          · have := (pi_else hg r2.ar r3 r4).1
            simp at this
          · exact fin _ _ (by omega) (pi_ifelse hg h hk hx q2 q3 q4 r2 r3 r4)
        · exact fin _ _ (by omega) (pi_if hg h hk hx q2 q3 q4)
      · have ho := pi_open hg h.ar hk (.inr hx)
        rw [hx] at ho
        obtain ⟨m, y, q1, q2, q3, q4⟩ := inn (k + 1) _ (Nat.lt_succ_self k) hk ho (by simp)
        rcases q4 with q4 | q4
        · have := (pi_else hg q2.ar q3 q4).1
          simp at this
        · exact fin _ _ (by omega) (pi_loop hg h hk hx q2 q3 q4)
      · exact fin _ _ (Nat.lt_succ_self k) (pi_plain hg h hk x4 x1 x2 x5 x3)
    · exact ⟨k, g, Nat.le_refl _, h, .inl (Nat.le_antisymm h.kn hk)⟩
theorem pi_whole {cal : List Int} {cs : List (Int × Int)} (hg : goodS cs = true) : PI cal cs 0 cs.length (gasS cal cs) [] := by
  obtain ⟨m, g, _, h, hm⟩ := pi_ex (cal := cal) hg cs.length 0 0 0 [] (by omega) (pi_start (Nat.zero_le _) rfl)
  have e : m = cs.length := by
    rcases hm with hm | ⟨h1, h2⟩
    · exact hm
    · have := (good_stand hg h1 h.ar).1
      rcases h2 with h2 | h2 <;> rw [h2] at this <;> simp [astand] at this
  rw [e] at h
  rw [pi_gas h]
  exact h
/-- A run of instructions of good shape adds its gas to the level that it stands on. -/
theorem run_good {cal : List Int} {cs : List (Int × Int)} (hg : goodS cs = true) (l t s e R) (hs : s ≤ TM) : lrun cal cs (⟨l, t, s, e⟩ :: R) = ⟨l, t, cut (s + gasS cal cs), e⟩ :: R := by
  have := (pi_whole (cal := cal) hg).lr l t s e R hs
  unfold seg9 at this
  rw [List.take_length, List.drop_zero] at this
  exact this
theorem gas_le {cal : List Int} {cs : List (Int × Int)} (hg : goodS cs = true) : gasS cal cs ≤ TM := (pi_whole (cal := cal) hg).gl
theorem good_cat {c d : List (Int × Int)} (hc : goodS c = true) (hd : goodS d = true) : goodS (c ++ d) = true := by
  rw [good_abs] at *
  rw [arun_append, hc, Option.bind_some, hd]
theorem gas_cat {cal : List Int} {c d : List (Int × Int)} (hc : goodS c = true) (hd : goodS d = true) : gasS cal (c ++ d) = cut (gasS cal c + gasS cal d) := by
  rw [gasS, lrun_append, base0, run_good hc _ _ _ _ _ (Nat.zero_le _), Nat.zero_add, cut_id (gas_le hc), run_good hd _ _ _ _ _ (gas_le hc)]
end Go.Proofs.YtfnpngbcnmglfaaGreat
