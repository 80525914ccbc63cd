/- Both Readers, each call in one sentence: what it answers, how far it goes, what error it leaves. -/
import Derived.Test.YtmaecpmdikdclaaRGd
import Derived.Test.YtmaecpmdikdclaaB8
namespace Go.Proofs.Ytmaecpmdikdclaa
open Go.RowKit

/-- The error that a call leaves which needs nd bytes. -/
def errOf (bs : List UInt8) (err : Int) (nd : Nat) : Int := if err ≠ 0 then err else if bs.length < nd then 20 else 0
/-- How many bytes it takes. -/
def cutOf (bs : List UInt8) (err : Int) (nd : Nat) : Nat := if err ≠ 0 then 0 else if bs.length < nd then 0 else nd
def ansByte (bs : List UInt8) (err : Int) : Int := if err ≠ 0 then 0 else if bs.length < 1 then 0 else ((bs.getD 0 0).toNat : Nat)
def ansInt (bs : List UInt8) (err : Int) : Int := if err ≠ 0 then 0 else if bs.length < 8 then 0 else toInt (num (bs.take 8))
def ansText (bs : List UInt8) (err : Int) : List UInt8 := if err ≠ 0 then [] else if bs.length < 2 + tlOf bs then [] else (bs.drop 2).take (tlOf bs)

theorem of_bad {bs : List UInt8} {err : Int} (nd : Nat) (h : err ≠ 0) : errOf bs err nd = err ∧ cutOf bs err nd = 0 := by
  unfold errOf cutOf; rw [if_pos h, if_pos h]; exact ⟨rfl, rfl⟩
theorem of_end {bs : List UInt8} {nd : Nat} (h : bs.length < nd) : errOf bs 0 nd = 20 ∧ cutOf bs 0 nd = 0 := by
  unfold errOf cutOf; rw [if_neg (by simp), if_pos h, if_neg (by simp), if_pos h]; exact ⟨rfl, rfl⟩
theorem of_ok {bs : List UInt8} {nd : Nat} (h : ¬ bs.length < nd) : errOf bs 0 nd = 0 ∧ cutOf bs 0 nd = nd := by
  unfold errOf cutOf; rw [if_neg (by simp), if_neg h, if_neg (by simp), if_neg h]; exact ⟨rfl, rfl⟩

theorem rbyte_all (p h g : Nat) (bs : List UInt8) (err : Int) (w : World) (H : RdS w p h g bs err) :
    Calls Try.prog 71 #[.pointer (some ⟨p, 0, none⟩)] w fun e w' => e = .returned (.int .i64 (ansByte bs err)) ∧ RdS w' p h g (bs.drop (cutOf bs err 1)) (errOf bs err 1) ∧ Chg w w' (fun k => k = h) := by
  unfold ansByte
  by_cases he : err = 0
  · subst he
    rw [if_neg (by simp)]
    by_cases hl : bs.length < 1
    · obtain ⟨e1, e2⟩ := of_end hl
      rw [e1, e2, if_pos hl]
      exact rbyte_end p h g bs w H hl
    · obtain ⟨e1, e2⟩ := of_ok hl
      rw [e1, e2, if_neg hl, List.getD_eq_getElem?_getD, List.getElem?_eq_getElem (by omega), Option.getD_some]
      exact rbyte_ok p h g bs w H (by omega)
  · obtain ⟨e1, e2⟩ := of_bad (bs := bs) 1 he
    rw [e1, e2, if_pos he]
    refine (rbyte_bad p h g bs err w H he).mono ?_
    rintro e w' ⟨rfl, rfl⟩
    exact ⟨rfl, H, Chg.refl _ _⟩
theorem rint_all (p h g : Nat) (bs : List UInt8) (err : Int) (w : World) (H : RdS w p h g bs err) :
    Calls Try.prog 72 #[.pointer (some ⟨p, 0, none⟩)] w fun e w' => e = .returned (.int .i64 (ansInt bs err)) ∧ RdS w' p h g (bs.drop (cutOf bs err 8)) (errOf bs err 8) ∧ Chg w w' (fun k => k = h) := by
  unfold ansInt
  by_cases he : err = 0
  · subst he
    rw [if_neg (by simp)]
    by_cases hl : bs.length < 8
    · obtain ⟨e1, e2⟩ := of_end hl
      rw [e1, e2, if_pos hl]
      exact rint_end p h g bs w H hl
    · obtain ⟨e1, e2⟩ := of_ok hl
      rw [e1, e2, if_neg hl]
      exact rint_ok p h g bs w H (by omega)
  · obtain ⟨e1, e2⟩ := of_bad (bs := bs) 8 he
    rw [e1, e2, if_pos he]
    refine (rint_bad p h g bs err w H he).mono ?_
    rintro e w' ⟨rfl, rfl⟩
    exact ⟨rfl, H, Chg.refl _ _⟩
theorem rtext_all (p h g : Nat) (bs : List UInt8) (err : Int) (w : World) (H : RdS w p h g bs err) :
    Calls Try.prog 74 #[.pointer (some ⟨p, 0, none⟩)] w fun e w' => e = .returned (.string ⟨(ansText bs err).toArray⟩) ∧ RdS w' p h g (bs.drop (cutOf bs err (2 + tlOf bs))) (errOf bs err (2 + tlOf bs)) ∧ Chg w w' (fun k => k = h) := by
  unfold ansText
  by_cases he : err = 0
  · subst he
    rw [if_neg (by simp)]
    by_cases hl : bs.length < 2 + tlOf bs
    · obtain ⟨e1, e2⟩ := of_end hl
      rw [e1, e2, if_pos hl]
      exact rtext_end p h g bs w H hl
    · obtain ⟨e1, e2⟩ := of_ok hl
      rw [e1, e2, if_neg hl]
      exact rtext_ok p h g bs w H (by omega)
  · obtain ⟨e1, e2⟩ := of_bad (bs := bs) (2 + tlOf bs) he
    rw [e1, e2, if_pos he]
    refine (rtext_bad p h g bs err w H he).mono ?_
    rintro e w' ⟨rfl, rfl⟩
    exact ⟨rfl, H, Chg.refl _ _⟩

theorem fbyte_all (q g : Nat) (bs : List UInt8) (k : Nat) (err : Int) (w : World) (H : RfS w q g bs k err) :
    Calls Try.prog 49 #[.pointer (some ⟨q, 0, none⟩)] w fun e w' => e = .returned (.int .i64 (ansByte (bs.drop k) err)) ∧ RfS w' q g bs (k + cutOf (bs.drop k) err 1) (errOf (bs.drop k) err 1) ∧ Chg w w' (fun i => i = q) := by
  unfold ansByte
  have hk := H.le
  by_cases he : err = 0
  · subst he
    rw [if_neg (by simp)]
    by_cases hl : (bs.drop k).length < 1
    · obtain ⟨e1, e2⟩ := of_end hl
      rw [e1, e2, if_pos hl]
      exact fbyte_end q g bs k w H (by rw [List.length_drop] at hl; exact hl)
    · obtain ⟨e1, e2⟩ := of_ok hl
      rw [List.length_drop] at hl
      rw [e1, e2, if_neg (by rw [List.length_drop]; exact hl), List.getD_eq_getElem?_getD, List.getElem?_drop, Nat.add_zero, List.getElem?_eq_getElem (by omega), Option.getD_some]
      exact fbyte_ok q g bs k w H (by omega)
  · obtain ⟨e1, e2⟩ := of_bad (bs := bs.drop k) 1 he
    rw [e1, e2, if_pos he]
    refine (fbyte_bad q g bs k err w H he).mono ?_
    rintro e w' ⟨rfl, rfl⟩
    exact ⟨rfl, H, Chg.refl _ _⟩
theorem fint_all (q g : Nat) (bs : List UInt8) (k : Nat) (err : Int) (w : World) (H : RfS w q g bs k err) :
    Calls Try.prog 50 #[.pointer (some ⟨q, 0, none⟩)] w fun e w' => e = .returned (.int .i64 (ansInt (bs.drop k) err)) ∧ RfS w' q g bs (k + cutOf (bs.drop k) err 8) (errOf (bs.drop k) err 8) ∧ Chg w w' (fun i => i = q) := by
  unfold ansInt
  have hk := H.le
  by_cases he : err = 0
  · subst he
    rw [if_neg (by simp)]
    by_cases hl : (bs.drop k).length < 8
    · obtain ⟨e1, e2⟩ := of_end hl
      rw [e1, e2, if_pos hl]
      exact fint_end q g bs k w H (by rw [List.length_drop] at hl; exact hl)
    · obtain ⟨e1, e2⟩ := of_ok hl
      rw [e1, e2, if_neg hl]
      exact fint_ok q g bs k w H (by rw [List.length_drop] at hl; omega)
  · obtain ⟨e1, e2⟩ := of_bad (bs := bs.drop k) 8 he
    rw [e1, e2, if_pos he]
    refine (fint_bad q g bs k err w H he).mono ?_
    rintro e w' ⟨rfl, rfl⟩
    exact ⟨rfl, H, Chg.refl _ _⟩
theorem ftext_all (q g : Nat) (bs : List UInt8) (k : Nat) (err : Int) (w : World) (H : RfS w q g bs k err) :
    Calls Try.prog 77 #[.pointer (some ⟨q, 0, none⟩)] w fun e w' => e = .returned (.string ⟨(ansText (bs.drop k) err).toArray⟩) ∧ RfS w' q g bs (k + cutOf (bs.drop k) err (2 + tlOf (bs.drop k))) (errOf (bs.drop k) err (2 + tlOf (bs.drop k))) ∧ Chg w w' (fun i => i = q) := by
  unfold ansText
  have hk := H.le
  by_cases he : err = 0
  · subst he
    rw [if_neg (by simp)]
    by_cases hl : (bs.drop k).length < 2 + tlOf (bs.drop k)
    · obtain ⟨e1, e2⟩ := of_end hl
      rw [e1, e2, if_pos hl]
      exact ftext_end q g bs k w H (by rw [List.length_drop] at hl; exact hl)
    · obtain ⟨e1, e2⟩ := of_ok hl
      rw [e1, e2, if_neg hl]
      exact ftext_ok q g bs k w H (by rw [List.length_drop] at hl; omega)
  · obtain ⟨e1, e2⟩ := of_bad (bs := bs.drop k) (2 + tlOf (bs.drop k)) he
    rw [e1, e2, if_pos he]
    refine (ftext_bad q g bs k err w H he).mono ?_
    rintro e w' ⟨rfl, rfl⟩
    exact ⟨rfl, H, Chg.refl _ _⟩

end Go.Proofs.Ytmaecpmdikdclaa
