/- Both Readers, each call in one sentence: what it answers, how far it goes, what error it leaves. Plain: what a reader reads, one thing behind the other (out of layer 4's CG). -/
import Derived.Test.YthmjejmignangaaGreatDoorRF
import Derived.Test.YthmjejmignangaaGreatDoorJZ
import Derived.Test.YthmjejmignangaaGreatDoorRE
namespace Go.Proofs.YthmjejmignangaaGreatDoor
open Go.RowKit

/-- The error that a call leaves which needs nd bytes. -/
def errOf (bs : List UInt8) (err : Int) (nd : Nat) : Int := if err ≠ 0 then err else if bs.length < nd then 20 else 0
/-- How many bytes it takes. -/
def cutOf (bs : List UInt8) (err : Int) (nd : Nat) : Nat := if err ≠ 0 then 0 else if bs.length < nd then 0 else nd
def ansByte (bs : List UInt8) (err : Int) : Int := if err ≠ 0 then 0 else if bs.length < 1 then 0 else ((bs.getD 0 0).toNat : Nat)
def ansInt (bs : List UInt8) (err : Int) : Int := if err ≠ 0 then 0 else if bs.length < 8 then 0 else toInt (num (bs.take 8))
def ansText (bs : List UInt8) (err : Int) : List UInt8 := if err ≠ 0 then [] else if bs.length < 2 + tlOf bs then [] else (bs.drop 2).take (tlOf bs)

theorem of_bad {bs : List UInt8} {err : Int} (nd : Nat) (h : err ≠ 0) : errOf bs err nd = err ∧ cutOf bs err nd = 0 := by
  unfold errOf cutOf; rw [if_pos h, if_pos h]; exact ⟨rfl, rfl⟩
theorem of_end {bs : List UInt8} {nd : Nat} (h : bs.length < nd) : errOf bs 0 nd = 20 ∧ cutOf bs 0 nd = 0 := by
  unfold errOf cutOf; rw [if_neg (by simp), if_pos h, if_neg (by simp), if_pos h]; exact ⟨rfl, rfl⟩
theorem of_ok {bs : List UInt8} {nd : Nat} (h : ¬ bs.length < nd) : errOf bs 0 nd = 0 ∧ cutOf bs 0 nd = nd := by
  unfold errOf cutOf; rw [if_neg (by simp), if_neg h, if_neg (by simp), if_neg h]; exact ⟨rfl, rfl⟩

theorem rbyte_all (p h g : Nat) (bs : List UInt8) (err : Int) (w : World) (H : RdS w p h g bs err) :
    Calls Tryz.prog 72 #[.pointer (some ⟨p, 0, none⟩)] w fun e w' => e = .returned (.int .i64 (ansByte bs err)) ∧ RdS w' p h g (bs.drop (cutOf bs err 1)) (errOf bs err 1) ∧ Chg w w' (fun k => k = h) := by
  unfold ansByte
  by_cases he : err = 0
  · subst he
    rw [if_neg (by simp)]
    by_cases hl : bs.length < 1
    · obtain ⟨e1, e2⟩ := of_end hl
      rw [e1, e2, if_pos hl]
      exact rbyte_end p h g bs w H hl
    · obtain ⟨e1, e2⟩ := of_ok hl
      rw [e1, e2, if_neg hl, List.getD_eq_getElem?_getD, List.getElem?_eq_getElem (by omega), Option.getD_some]
      exact rbyte_ok p h g bs w H (by omega)
  · obtain ⟨e1, e2⟩ := of_bad (bs := bs) 1 he
    rw [e1, e2, if_pos he]
    refine (rbyte_bad p h g bs err w H he).mono ?_
    rintro e w' ⟨rfl, rfl⟩
    exact ⟨rfl, H, Chg.refl _ _⟩
theorem rint_all (p h g : Nat) (bs : List UInt8) (err : Int) (w : World) (H : RdS w p h g bs err) :
    Calls Tryz.prog 70 #[.pointer (some ⟨p, 0, none⟩)] w fun e w' => e = .returned (.int .i64 (ansInt bs err)) ∧ RdS w' p h g (bs.drop (cutOf bs err 8)) (errOf bs err 8) ∧ Chg w w' (fun k => k = h) := by
  unfold ansInt
  by_cases he : err = 0
  · subst he
    rw [if_neg (by simp)]
    by_cases hl : bs.length < 8
    · obtain ⟨e1, e2⟩ := of_end hl
      rw [e1, e2, if_pos hl]
      exact rint_end p h g bs w H hl
    · obtain ⟨e1, e2⟩ := of_ok hl
      rw [e1, e2, if_neg hl]
      exact rint_ok p h g bs w H (by omega)
  · obtain ⟨e1, e2⟩ := of_bad (bs := bs) 8 he
    rw [e1, e2, if_pos he]
    refine (rint_bad p h g bs err w H he).mono ?_
    rintro e w' ⟨rfl, rfl⟩
    exact ⟨rfl, H, Chg.refl _ _⟩
theorem fbyte_all (q g : Nat) (bs : List UInt8) (k : Nat) (err : Int) (w : World) (H : RfS w q g bs k err) :
    Calls Tryz.prog 54 #[.pointer (some ⟨q, 0, none⟩)] w fun e w' => e = .returned (.int .i64 (ansByte (bs.drop k) err)) ∧ RfS w' q g bs (k + cutOf (bs.drop k) err 1) (errOf (bs.drop k) err 1) ∧ Chg w w' (fun i => i = q) := by
  unfold ansByte
  have hk := H.le
  by_cases he : err = 0
  · subst he
    rw [if_neg (by simp)]
    by_cases hl : (bs.drop k).length < 1
    · obtain ⟨e1, e2⟩ := of_end hl
      rw [e1, e2, if_pos hl]
      exact fbyte_end q g bs k w H (by rw [List.length_drop] at hl; exact hl)
    · obtain ⟨e1, e2⟩ := of_ok hl
      rw [List.length_drop] at hl
      rw [e1, e2, if_neg (by rw [List.length_drop]; exact hl), List.getD_eq_getElem?_getD, List.getElem?_drop, Nat.add_zero, List.getElem?_eq_getElem (by omega), Option.getD_some]
      exact fbyte_ok q g bs k w H (by omega)
  · obtain ⟨e1, e2⟩ := of_bad (bs := bs.drop k) 1 he
    rw [e1, e2, if_pos he]
    refine (fbyte_bad q g bs k err w H he).mono ?_
    rintro e w' ⟨rfl, rfl⟩
    exact ⟨rfl, H, Chg.refl _ _⟩
theorem fint_all (q g : Nat) (bs : List UInt8) (k : Nat) (err : Int) (w : World) (H : RfS w q g bs k err) :
    Calls Tryz.prog 53 #[.pointer (some ⟨q, 0, none⟩)] w fun e w' => e = .returned (.int .i64 (ansInt (bs.drop k) err)) ∧ RfS w' q g bs (k + cutOf (bs.drop k) err 8) (errOf (bs.drop k) err 8) ∧ Chg w w' (fun i => i = q) := by
  unfold ansInt
  have hk := H.le
  by_cases he : err = 0
  · subst he
    rw [if_neg (by simp)]
    by_cases hl : (bs.drop k).length < 8
    · obtain ⟨e1, e2⟩ := of_end hl
      rw [e1, e2, if_pos hl]
      exact fint_end q g bs k w H (by rw [List.length_drop] at hl; exact hl)
    · obtain ⟨e1, e2⟩ := of_ok hl
      rw [e1, e2, if_neg hl]
      exact fint_ok q g bs k w H (by rw [List.length_drop] at hl; omega)
  · obtain ⟨e1, e2⟩ := of_bad (bs := bs.drop k) 8 he
    rw [e1, e2, if_pos he]
    refine (fint_bad q g bs k err w H he).mono ?_
    rintro e w' ⟨rfl, rfl⟩
    exact ⟨rfl, H, Chg.refl _ _⟩
end Go.Proofs.YthmjejmignangaaGreatDoor
namespace Go.Proofs.YthmjejmignangaaGreatDoor
open Go.RowKit
/-- What a reader has: the bytes, and its error. -/
abbrev RSt := List UInt8 × Int
def rB (s : RSt) (nd : Nat) : RSt := (s.1.drop (cutOf s.1 s.2 nd), errOf s.1 s.2 nd)
def gByte (s : RSt) : Int × RSt := (ansByte s.1 s.2, rB s 1)
def gInt (s : RSt) : Int × RSt := (ansInt s.1 s.2, rB s 8)
def gText (s : RSt) : List UInt8 × RSt := (ansText s.1 s.2, rB s (2 + tlOf s.1))
/-- Up to n things, one behind the other, till an error. -/
def gMany {α : Type} (one : RSt → α × RSt) : Nat → RSt → List α × RSt
  | 0, s => ([], s)
  | n + 1, s => if s.2 ≠ 0 then ([], s) else ((one s).1 :: (gMany one n (one s).2).1, (gMany one n (one s).2).2)
/-- What is written is read. -/
def Reads {α : Type} (one : RSt → α × RSt) (x : α) (bs : List UInt8) : Prop := ∀ r, one (bs ++ r, 0) = (x, (r, 0))
theorem gByte_reads (x : UInt8) : Reads gByte (x.toNat : Int) [x] := fun r => by
  simp [gByte, ansByte, rB, cutOf, errOf]
theorem gByte_reads' (n : Int) (h : 0 ≤ n ∧ n ≤ 255) : Reads gByte n [UInt8.ofNat n.toNat] := by
  have := gByte_reads (UInt8.ofNat n.toNat)
  rw [UInt8.toNat_ofNat', Nat.mod_eq_of_lt (by omega)] at this
  rw [show ((n.toNat : Nat) : Int) = n from by omega] at this
  exact this
theorem gInt_reads (x : Int) (h1 : -9223372036854775808 ≤ x) (h2 : x ≤ 9223372036854775807) : Reads gInt x (be64 x) := fun r => by
  obtain ⟨e1, e2⟩ := read_int x r
  have hl : ¬ (be64 x ++ r).length < 8 := by rw [List.length_append, be64_length]; omega
  have e3 := (of_ok hl).1
  have e4 := (of_ok hl).2
  simp only [gInt, rB, ansInt, if_neg hl]
  rw [e3, e4, e1, e2, back_int x h1 h2]
  rfl
theorem gText_reads (s : List UInt8) (h : s.length ≤ 65535) : Reads gText s (text s) := fun r => by
  obtain ⟨e1, e2, e3, e4⟩ := read_text s r h
  have hl : ¬ (text s ++ r).length < 2 + s.length := by omega
  simp only [gText, rB, ansText]
  rw [e1, if_neg (by decide), if_neg hl, (of_ok hl).1, (of_ok hl).2, e2, e3]
theorem gMany_reads {α : Type} {one : RSt → α × RSt} (enc : α → List UInt8) : ∀ (L : List α), (∀ x ∈ L, Reads one x (enc x)) → Reads (gMany one L.length) L (L.flatMap enc)
  | [], _ => fun r => rfl
  | x :: L, h => fun r => by
    have ih := gMany_reads enc L (fun y hy => h y (List.mem_cons_of_mem _ hy)) r
    have h0 := h x (List.mem_cons_self ..) (L.flatMap enc ++ r)
    show gMany one (L.length + 1) _ = _
    unfold gMany
    rw [List.flatMap_cons, List.append_assoc, if_neg (by simp), h0]
    simp only
    rw [ih]
/-- An error stays, and what was read without one is read the same where more stands behind. -/
structure Steady {α : Type} (one : RSt → α × RSt) : Prop where
  err : ∀ s, s.2 ≠ 0 → (one s).2.2 ≠ 0
  ext : ∀ bs r, (one (bs, 0)).2.2 = 0 → one (bs ++ r, 0) = ((one (bs, 0)).1, ((one (bs, 0)).2.1 ++ r, 0))
theorem rB_err (s : RSt) (nd : Nat) (h : s.2 ≠ 0) : (rB s nd).2 ≠ 0 := by
  unfold rB
  rw [(of_bad nd h).1]
  exact h
theorem rB_ok {bs : List UInt8} {nd : Nat} (h : (rB (bs, 0) nd).2 = 0) : ¬ bs.length < nd := fun hl => by
  unfold rB at h
  simp only at h
  rw [(of_end hl).1] at h
  cases h
theorem rB_ext {bs : List UInt8} {nd : Nat} (h : ¬ bs.length < nd) (r : List UInt8) : rB (bs ++ r, 0) nd = ((rB (bs, 0) nd).1 ++ r, 0) := by
  unfold rB
  simp only
  rw [(of_ok h).2, (of_ok (bs := bs ++ r) (nd := nd) (by rw [List.length_append]; omega)).1, (of_ok (bs := bs ++ r) (nd := nd) (by rw [List.length_append]; omega)).2, List.drop_append_of_le_length (by omega)]
theorem gByte_steady : Steady gByte := by
  refine ⟨fun s h => rB_err s 1 h, fun bs r h => ?_⟩
  have hl := rB_ok h
  have e := rB_ext hl r
  unfold gByte at h ⊢
  rw [e]
  simp only [ansByte, Prod.mk.injEq, and_true, ne_eq, not_true_eq_false, if_false]
  rw [if_neg hl, if_neg (by rw [List.length_append]; omega), List.getD_eq_getElem?_getD, List.getD_eq_getElem?_getD, List.getElem?_append_left (by omega)]
theorem gInt_steady : Steady gInt := by
  refine ⟨fun s h => rB_err s 8 h, fun bs r h => ?_⟩
  have hl := rB_ok h
  have e := rB_ext hl r
  unfold gInt at h ⊢
  rw [e]
  simp only [ansInt, Prod.mk.injEq, and_true, ne_eq, not_true_eq_false, if_false]
  rw [if_neg hl, if_neg (by rw [List.length_append]; omega), List.take_append_of_le_length (by omega)]
theorem tlOf_ext {bs : List UInt8} (r : List UInt8) (h : ¬ bs.length < 2) : tlOf (bs ++ r) = tlOf bs := by
  unfold tlOf
  rw [if_neg h, if_neg (by rw [List.length_append]; omega), List.take_append_of_le_length (by omega)]
theorem gText_steady : Steady gText := by
  refine ⟨fun s h => rB_err s _ h, fun bs r h => ?_⟩
  have hl : ¬ bs.length < 2 + tlOf bs := rB_ok h
  have e : rB (bs ++ r, 0) (2 + tlOf bs) = _ := rB_ext hl r
  have ht := tlOf_ext r (bs := bs) (by omega)
  unfold gText at h ⊢
  simp only
  rw [ht, e]
  simp only [ansText, Prod.mk.injEq, and_true, ne_eq, not_true_eq_false, if_false]
  rw [ht, if_neg hl, if_neg (by rw [List.length_append]; omega), List.drop_append_of_le_length (by omega), List.take_append_of_le_length (by rw [List.length_drop]; omega)]
theorem gMany_err {α : Type} {one : RSt → α × RSt} : ∀ (n : Nat) (s : RSt), s.2 ≠ 0 → gMany one n s = ([], s)
  | 0, _, _ => rfl
  | n + 1, s, h => by unfold gMany; rw [if_pos h]
theorem gMany_steady {α : Type} {one : RSt → α × RSt} (h1 : Steady one) : ∀ n, Steady (gMany one n)
  | 0 => ⟨fun s h => h, fun bs r _ => rfl⟩
  | n + 1 => by
    have ih := gMany_steady h1 n
    refine ⟨fun s h => by rw [gMany_err _ s h]; exact h, fun bs r h => ?_⟩
    unfold gMany at h ⊢
    rw [if_neg (by simp)] at h ⊢
    rw [if_neg (by simp)]
    simp only at h ⊢
    have h0 : (one (bs, 0)).2.2 = 0 := Decidable.byContradiction fun hne => ih.err _ hne h
    have e1 := h1.ext bs r h0
    rw [e1]
    simp only
    have hs : (one (bs, 0)).2 = ((one (bs, 0)).2.1, 0) := Prod.ext rfl h0
    rw [hs] at h
    have e2 := ih.ext (one (bs, 0)).2.1 r h
    rw [e2, ← hs]
/-- One behind the other. -/
theorem Steady.bind {α β γ : Type} {one : RSt → α × RSt} {two : α → RSt → β × RSt} (f : α → β → γ) (h1 : Steady one) (h2 : ∀ x, Steady (two x)) : Steady (fun s => (f (one s).1 (two (one s).1 (one s).2).1, (two (one s).1 (one s).2).2)) := by
  refine ⟨fun s h => (h2 _).err _ (h1.err s h), fun bs r h => ?_⟩
  simp only at h ⊢
  have h0 : (one (bs, 0)).2.2 = 0 := Decidable.byContradiction fun hne => (h2 _).err _ hne h
  have hs : (one (bs, 0)).2 = ((one (bs, 0)).2.1, 0) := Prod.ext rfl h0
  rw [h1.ext bs r h0]
  simp only
  rw [hs] at h
  have e2 := (h2 _).ext (one (bs, 0)).2.1 r h
  rw [e2, ← hs]
theorem Steady.map {α β : Type} {one : RSt → α × RSt} (f : α → β) (h1 : Steady one) : Steady (fun s => (f (one s).1, (one s).2)) := ⟨fun s h => h1.err s h, fun bs r h => by simp only; rw [h1.ext bs r h]⟩
end Go.Proofs.YthmjejmignangaaGreatDoor
