/- Layer 10, plain: bytes that are a script's are those that the script is written as. -/
import Derived.Test.YtfnpngbcnmglfaaGreatGG
namespace Go.Proofs.YtfnpngbcnmglfaaGreat
open Go.RowKit
theorem be_num : ∀ (n : Nat) (l : List UInt8), l.length = n → n ≤ 8 → num l < 256 ^ n ∧ be (num l) n = l
  | 0, l, h, _ => by
    obtain rfl := List.length_eq_zero_iff.1 h
    exact ⟨by decide, rfl⟩
  | n + 1, l, h, hn => by
    rcases List.eq_nil_or_concat l with rfl | ⟨l', x, rfl⟩
    · cases h
    · rw [List.concat_eq_append] at h ⊢
      have hl : l'.length = n := by simpa using h
      obtain ⟨h1, h2⟩ := be_num n l' hl (by omega)
      have hp : 256 ^ n ≤ 256 ^ 7 := Nat.pow_le_pow_right (by decide) (by omega)
      have h7 : (256 : Nat) ^ 7 = 72057594037927936 := by decide
      have hx := x.toNat_lt
      rw [h7] at hp
      have e : num (l' ++ [x]) = num l' * 256 + x.toNat := by
        have : num (l' ++ [x]) = numStep (num l') x := by simp only [num, List.foldl_append, List.foldl_cons, List.foldl_nil]
        rw [this]
        unfold numStep
        rw [Nat.mod_eq_of_lt (by omega)]
      refine ⟨by rw [e, Nat.pow_succ]; omega, ?_⟩
      rw [be_succ, e, show (num l' * 256 + x.toNat) / 256 = num l' by omega, h2]
      congr 2
      apply UInt8.toNat_inj.1
      rw [UInt8.toNat_ofNat']
      omega
/-- What is read is written. -/
def Back {α : Type} (one : RSt → α × RSt) (enc : α → List UInt8) : Prop := ∀ bs, (one (bs, 0)).2.2 = 0 → ∃ x r, one (bs, 0) = (x, (r, 0)) ∧ bs = enc x ++ r
theorem byte_back (bs : List UInt8) (h : (gByte (bs, 0)).2.2 = 0) : ∃ (x : UInt8) (r : List UInt8), gByte (bs, 0) = ((x.toNat : Int), (r, 0)) ∧ bs = x :: r := by
  have hl : ¬ bs.length < 1 := rB_ok h
  cases bs with
  | nil => exact absurd (by decide) hl
  | cons x r => exact ⟨x, r, gByte_reads x r, rfl⟩
theorem ofNat_byte (x : UInt8) : UInt8.ofNat x.toNat = x := by simp
theorem gByte_back : Back gByte fun x => [UInt8.ofNat x.toNat] := fun bs h => by
  obtain ⟨x, r, e, h1⟩ := byte_back bs h
  exact ⟨_, r, e, by simp only; rw [h1, Int.toNat_natCast, ofNat_byte]; rfl⟩
theorem gInt_back : Back gInt be64 := fun bs h => by
  have hl : ¬ bs.length < 8 := rB_ok h
  have h8 : (bs.take 8).length = 8 := by rw [List.length_take]; omega
  have hn := num_lt (bs.take 8)
  have e : be64 (toInt (num (bs.take 8))) = bs.take 8 := by
    unfold be64
    rw [show (toInt (num (bs.take 8)) % 18446744073709551616).toNat = num (bs.take 8) by unfold toInt; split <;> omega]
    exact (be_num 8 _ h8 (by decide)).2
  refine ⟨toInt (num (bs.take 8)), bs.drop 8, ?_, by rw [e, List.take_append_drop]⟩
  simp only [gInt, rB, ansInt, if_neg hl, (of_ok hl).1, (of_ok hl).2]
  rfl
theorem gText_back : Back gText text := fun bs h => by
  have hl : ¬ bs.length < 2 + tlOf bs := rB_ok h
  have h2 : ¬ bs.length < 2 := by omega
  have h3 : (bs.take 2).length = 2 := by rw [List.length_take]; omega
  have et : tlOf bs = num (bs.take 2) := by unfold tlOf; rw [if_neg h2]
  have el : ((bs.drop 2).take (tlOf bs)).length = tlOf bs := by rw [List.length_take, List.length_drop]; omega
  refine ⟨(bs.drop 2).take (tlOf bs), bs.drop (2 + tlOf bs), ?_, ?_⟩
  · simp only [gText, rB, ansText, if_neg hl, (of_ok hl).1, (of_ok hl).2]
    rfl
  · unfold text
    rw [el, et, (be_num 2 _ h3 (by decide)).2, ← et, List.append_assoc, ← List.drop_drop, List.take_append_drop, List.take_append_drop]
theorem gMany_back {α : Type} {one : RSt → α × RSt} {enc : α → List UInt8} (hs : Steady one) (hB : Back one enc) : ∀ (n : Nat) (bs : List UInt8), (gMany one n (bs, 0)).2.2 = 0 → ∃ L r, gMany one n (bs, 0) = (L, (r, 0)) ∧ bs = L.flatMap enc ++ r ∧ L.length = n
  | 0, bs, _ => ⟨[], bs, rfl, rfl, rfl⟩
  | n + 1, bs, h => by
    unfold gMany at h ⊢
    rw [if_neg (by simp)] at h ⊢
    simp only at h ⊢
    have h0 : (one (bs, 0)).2.2 = 0 := Decidable.byContradiction fun hne => (gMany_steady hs n).err _ hne h
    obtain ⟨x, r, e, hb⟩ := hB bs h0
    rw [e] at h ⊢
    simp only at h ⊢
    obtain ⟨L, r2, e2, hb2, hl⟩ := gMany_back hs hB n r h
    rw [e2]
    exact ⟨x :: L, r2, rfl, by rw [hb, hb2, List.flatMap_cons, List.append_assoc, ← hb2], by rw [List.length_cons, hl]⟩
/-- A count in a byte, and so many things. -/
theorem count_back {α : Type} {one : RSt → α × RSt} {enc : α → List UInt8} (hs : Steady one) (hB : Back one enc) : Back (fun s => gMany one (gByte s).1.toNat (gByte s).2) fun L => [UInt8.ofNat L.length] ++ L.flatMap enc := fun bs h => by
  simp only at h ⊢
  have h0 : (gByte (bs, 0)).2.2 = 0 := Decidable.byContradiction fun hne => (gMany_steady hs _).err _ hne h
  obtain ⟨x, r, e, hb⟩ := byte_back bs h0
  rw [e] at h ⊢
  simp only [Int.toNat_natCast] at h ⊢
  obtain ⟨L, r2, e2, hb2, hl⟩ := gMany_back hs hB _ r h
  rw [e2]
  refine ⟨L, r2, rfl, ?_⟩
  rw [hl, ofNat_byte, hb, List.append_assoc, ← hb2]
  rfl
theorem gTypes_back : Back gTypes fun l => [UInt8.ofNat l.length] ++ byts l := fun bs h => by
  obtain ⟨L, r, e, hb⟩ := count_back gByte_steady gByte_back bs h
  refine ⟨L, r, e, ?_⟩
  have : byts L = L.flatMap fun n => [UInt8.ofNat n.toNat] := by unfold byts; rw [List.map_eq_flatMap]
  simp only
  rw [this]
  exact hb
theorem gIns_back : Back gIns insB := fun bs h => by
  rw [gIns_eq] at h ⊢
  simp only at h ⊢
  have h0 : (gByte (bs, 0)).2.2 = 0 := Decidable.byContradiction fun hne => (gInsA_steady _).err _ hne h
  obtain ⟨x, r, e, hb⟩ := byte_back bs h0
  rw [e] at h ⊢
  simp only at h ⊢
  unfold gInsA at h ⊢
  unfold insB
  by_cases t0 : takesN (x.toNat : Int) = 0
  · rw [if_pos t0] at h ⊢
    refine ⟨_, r, rfl, ?_⟩
    simp only
    rw [if_pos t0, Int.toNat_natCast, ofNat_byte, hb]
    rfl
  · rw [if_neg t0] at h ⊢
    by_cases t1 : takesN (x.toNat : Int) = 1
    · rw [if_pos t1] at h ⊢
      obtain ⟨y, r2, e2, hb2⟩ := gInt_back r h
      rw [e2]
      refine ⟨_, r2, rfl, ?_⟩
      simp only
      rw [if_neg t0, if_pos t1, Int.toNat_natCast, ofNat_byte, hb, List.append_assoc, ← hb2]
      rfl
    · rw [if_neg t1] at h ⊢
      obtain ⟨y, r2, e2, hb2⟩ := gByte_back r h
      rw [e2]
      refine ⟨_, r2, rfl, ?_⟩
      simp only
      rw [if_neg t0, if_neg t1, Int.toNat_natCast, ofNat_byte, hb, List.append_assoc, ← hb2]
      rfl
theorem gCode_back : Back gCode codeB := fun bs h => by
  unfold gCode at h ⊢
  have h1 : (gByte (gByte (bs, 0)).2).2.2 = 0 := Decidable.byContradiction fun hne => (gMany_steady gIns_steady _).err _ hne h
  have h0 : (gByte (bs, 0)).2.2 = 0 := Decidable.byContradiction fun hne => gByte_steady.err _ hne h1
  obtain ⟨x, r, e, hb⟩ := byte_back bs h0
  rw [e] at h h1 ⊢
  obtain ⟨y, r2, e2, hb2⟩ := byte_back r h1
  simp only at h ⊢
  rw [e2] at h ⊢
  simp only [Int.toNat_natCast] at h ⊢
  obtain ⟨L, r3, e3, hb3, hl⟩ := gMany_back gIns_steady gIns_back _ r2 h
  rw [e3]
  refine ⟨L, r3, rfl, ?_⟩
  have hx := x.toNat_lt
  have hy := y.toNat_lt
  unfold codeB byts
  simp only [List.map_cons, List.map_nil, Int.toNat_natCast]
  rw [hl, show (x.toNat * 256 + y.toNat) / 256 = x.toNat by omega, show (x.toNat * 256 + y.toNat) % 256 = y.toNat by omega, ofNat_byte, ofNat_byte, hb, hb2, List.append_assoc, ← hb3]
  rfl
theorem gFn_back : Back gFn funcB := fun bs h => by
  unfold gFn at h ⊢
  simp only at h ⊢
  have h2 : (gTypes (gTypes (gTypes (bs, 0)).2).2).2.2 = 0 := Decidable.byContradiction fun hne => gCode_steady.err _ hne h
  have h1 : (gTypes (gTypes (bs, 0)).2).2.2 = 0 := Decidable.byContradiction fun hne => gTypes_steady.err _ hne h2
  have h0 : (gTypes (bs, 0)).2.2 = 0 := Decidable.byContradiction fun hne => gTypes_steady.err _ hne h1
  obtain ⟨p, r, e, hb⟩ := gTypes_back bs h0
  rw [e] at h h1 h2 ⊢
  simp only at h h1 h2 ⊢
  obtain ⟨q, r2, e2, hb2⟩ := gTypes_back r h1
  rw [e2] at h h2 ⊢
  simp only at h h2 ⊢
  obtain ⟨l, r3, e3, hb3⟩ := gTypes_back r2 h2
  rw [e3] at h ⊢
  simp only at h ⊢
  obtain ⟨c, r4, e4, hb4⟩ := gCode_back r3 h
  rw [e4]
  refine ⟨_, r4, rfl, ?_⟩
  unfold funcB lens
  simp only [List.flatMap_cons, List.flatMap_nil, List.append_nil]
  rw [hb, hb2, hb3, hb4]
  simp only [List.append_assoc]
theorem gScr_back : Back gScr scrB := fun bs h => by
  unfold gScr at h ⊢
  simp only at h ⊢
  have h0 : (gConsts (bs, 0)).2.2 = 0 := Decidable.byContradiction fun hne => gFuncs_steady.err _ hne h
  obtain ⟨c, r, e, hb⟩ := count_back gText_steady gText_back bs h0
  have e' : gConsts (bs, 0) = (c, (r, 0)) := e
  rw [e'] at h ⊢
  simp only at h ⊢
  obtain ⟨f, r2, e2, hb2⟩ := count_back gFn_steady gFn_back r h
  have e2' : gFuncs (r, 0) = (f, (r2, 0)) := e2
  rw [e2']
  refine ⟨_, r2, rfl, ?_⟩
  unfold scrB texts
  rw [hb, hb2]
  simp only [List.append_assoc]
/-- What Get takes is what Put writes. -/
theorem get_put {bs : List UInt8} (h : getE4 bs = 0) : (getS bs).right = true ∧ scrB (getS bs) = bs := by
  have hg : getOk bs = true := by
    cases hh : getOk bs with
    | true => rfl
    | false => rw [(get_no hh).1] at h; cases h
  rw [(get_yes hg).2]
  unfold getOk at hg
  simp only [Bool.and_eq_true, decide_eq_true_eq] at hg
  obtain ⟨h1, h2⟩ := hg
  refine ⟨h2, ?_⟩
  have h0 : (gScr (bs, 0)).2.2 = 0 := by
    unfold doneOf at h1
    split at h1
    · exact h1
    · rename_i h; exact Decidable.byContradiction fun hne => h hne
  obtain ⟨s, r, e, hb⟩ := gScr_back bs h0
  rw [e] at h1 ⊢
  simp only [doneOf] at h1
  have hr : r = [] := by
    cases r with
    | nil => rfl
    | cons x r => simp at h1
  rw [hr, List.append_nil] at hb
  exact hb.symm
end Go.Proofs.YtfnpngbcnmglfaaGreat
