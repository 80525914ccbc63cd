/- Layer 16, plain: what rows of parts tell. -/
import Derived.Test.YthmjejmignangaaGreatDoorJP
import Derived.Test.YthmjejmignangaaGreatDoorJI
import Derived.Test.YthmjejmignangaaGreatDoorMQ
import Derived.Test.YthmjejmignangaaGreatDoorRE
namespace Go.Proofs.YthmjejmignangaaGreatDoor
open Go.RowKit
abbrev Pb := Prt × Bool
theorem tRun_cons (s : TSt) (x : Pb) (l : List Pb) : tRun s (x :: l) = if tOk s x then tRun (tNext s x.1) l else s := rfl
theorem tAll_append : ∀ (l r : List Pb) (s : TSt), tAll s (l ++ r) ↔ tAll s l ∧ tAll (tRun s l) r
  | [], r, s => by simp [tAll, tRun]
  | x :: l, r, s => by
    simp only [List.cons_append, tAll]
    by_cases h : tOk s x = true
    · rw [tRun_cons, if_pos h, tAll_append l r]
      simp [h]
    · simp [h]
theorem tRun_append : ∀ (l r : List Pb) (s : TSt), tAll s l → tRun s (l ++ r) = tRun (tRun s l) r
  | [], r, s, _ => rfl
  | x :: l, r, s, h => by
    rw [List.cons_append, tRun_cons, if_pos h.1, tRun_cons, if_pos h.1]
    exact tRun_append l r _ h.2
theorem tNext_rs (s : TSt) (p : Prt) : (tNext s p).rs = s.rs ++ (if p.last then [recN s p] else []) := by
  unfold tNext
  cases p.last <;> simp
theorem rs_prefix : ∀ (l : List Pb) (s : TSt), s.rs <+: (tRun s l).rs
  | [], s => List.prefix_refl _
  | x :: l, s => by
    rw [tRun_cons]
    split
    · refine List.IsPrefix.trans ?_ (rs_prefix l _)
      rw [tNext_rs]
      exact List.prefix_append _ _
    · exact List.prefix_refl _
/-- Nothing behind what is no part. -/
theorem tRun_bad : ∀ (l r : List Pb) (s : TSt), (∀ x ∈ r, x.2 = false) → tRun s (l ++ r) = tRun s l
  | [], [], s, _ => rfl
  | [], x :: r, s, h => by
    have : tOk s x = false := by unfold tOk; rw [h x (by simp)]; rfl
    rw [List.nil_append, tRun_cons, this]
    rfl
  | x :: l, r, s, h => by
    rw [List.cons_append, tRun_cons, tRun_cons, tRun_bad l r _ h]
/-- What a row eats. -/
theorem eat : ∀ (l : List Pb) (s : TSt), ∃ A B, l = A ++ B ∧ tAll s A ∧ tRun s l = tRun s A
  | [], s => ⟨[], [], rfl, trivial, rfl⟩
  | x :: l, s => by
    by_cases h : tOk s x = true
    · obtain ⟨A, B, e, h1, h2⟩ := eat l (tNext s x.1)
      exact ⟨x :: A, B, by rw [e]; rfl, ⟨h, h1⟩, by rw [tRun_cons, if_pos h, tRun_cons, if_pos h, h2]⟩
    · exact ⟨[], x :: l, rfl, trivial, by rw [tRun_cons, if_neg h]; rfl⟩
/-- How far a state has come. -/
def Gi (s : TSt) (k : Nat) : Prop := s.en + (if s.ah.last then 0 else s.ah.i + 1) = k ∧ (s.rs.length : Int) = (if s.ah.last then s.ah.n else s.ah.n - 1)
theorem Gi.start : Gi tStart 0 := ⟨by decide, by decide⟩
theorem Gi.next {s : TSt} {k : Nat} {x : Pb} (h : Gi s k) (ho : tOk s x = true) : Gi (tNext s x.1) (k + 1) := by
  obtain ⟨h1, h2⟩ := h
  unfold tOk at ho
  rw [Bool.and_eq_true] at ho
  have hf := ho.2
  have hl : x.1.last = decide (x.1.i = x.1.c - 1) := rfl
  have hal : s.ah.last = decide (s.ah.i = s.ah.c - 1) := rfl
  have ha : (tNext s x.1).ah = x.1 := by unfold tNext; split <;> rfl
  have hen : (tNext s x.1).en = if x.1.last then s.en + x.1.c else s.en := by unfold tNext; split <;> rfl
  have hrs : ((tNext s x.1).rs.length : Int) = if x.1.last then (s.rs.length : Int) + 1 else s.rs.length := by
    rw [tNext_rs]
    cases x.1.last <;> simp
  unfold Gi
  rw [ha, hen, hrs]
  unfold Prt.fol at hf
  cases ea : s.ah.last with
  | true =>
    rw [ea] at hf h1 h2
    simp only [if_true, Bool.and_eq_true, decide_eq_true_eq] at hf h1 h2
    obtain ⟨f1, f2, f3⟩ := hf
    cases el : x.1.last with
    | true =>
      rw [el] at hl
      have := of_decide_eq_true hl.symm
      simp only [if_true]
      omega
    | false =>
      simp only [Bool.false_eq_true, if_false]
      omega
  | false =>
    rw [ea] at hf h1 h2
    simp only [Bool.false_eq_true, if_false, Bool.and_eq_true, decide_eq_true_eq] at hf h1 h2
    obtain ⟨f1, f2, f3, f4⟩ := hf
    cases el : x.1.last with
    | true =>
      rw [el] at hl
      have := of_decide_eq_true hl.symm
      simp only [if_true]
      omega
    | false =>
      simp only [Bool.false_eq_true, if_false]
      omega
theorem Gi.run : ∀ (l : List Pb) {s : TSt} {k : Nat}, Gi s k → tAll s l → Gi (tRun s l) (k + l.length)
  | [], s, k, h, _ => h
  | x :: l, s, k, h, ha => by
    rw [tRun_cons, if_pos ha.1]
    have := Gi.run l (h.next ha.1) ha.2
    rw [List.length_cons, show k + (l.length + 1) = k + 1 + l.length by omega]
    exact this
/-- The told part of a row: whole records. -/
theorem cut_tell : ∀ (l : List Pb) (s : TSt), ∃ A B, l = A ++ B ∧ tAll s A ∧ (tRun s A).rs = (tRun s l).rs ∧ (tRun s A).en = (tRun s l).en ∧ (A = [] ∨ (tRun s A).ah.last = true)
  | [], s => ⟨[], [], rfl, trivial, rfl, rfl, .inl rfl⟩
  | x :: l, s => by
    by_cases h : tOk s x = true
    · obtain ⟨A, B, e, h1, h2, h3, h4⟩ := cut_tell l (tNext s x.1)
      have go : (tRun s (x :: l)) = tRun (tNext s x.1) l := by rw [tRun_cons, if_pos h]
      have ha : (tNext s x.1).ah = x.1 := by unfold tNext; split <;> rfl
      by_cases hA : A = [] ∧ x.1.last = false
      · obtain ⟨hA, hx⟩ := hA
        subst hA
        refine ⟨[], x :: l, rfl, trivial, ?_, ?_, .inl rfl⟩
        · rw [go, ← h2]
          show s.rs = (tNext s x.1).rs
          rw [tNext_rs, hx]; simp
        · rw [go, ← h3]
          show s.en = (tNext s x.1).en
          unfold tNext; rw [hx]; rfl
      · have go2 : tRun s (x :: A) = tRun (tNext s x.1) A := by rw [tRun_cons, if_pos h]
        refine ⟨x :: A, B, by rw [e]; rfl, ⟨h, h1⟩, by rw [go, go2, h2], by rw [go, go2, h3], .inr ?_⟩
        rw [go2]
        rcases h4 with h4 | h4
        · subst h4
          show (tNext s x.1).ah.last = true
          rw [ha]
          cases hx : x.1.last with
          | true => rfl
          | false => exact absurd ⟨rfl, hx⟩ hA
        · exact h4
    · exact ⟨[], x :: l, rfl, trivial, by rw [tRun_cons, if_neg h]; rfl, by rw [tRun_cons, if_neg h]; rfl, .inl rfl⟩
/-- Where a row begins with whole records, it goes on from there. -/
theorem tell_split {l : List Pb} : ∃ k, k ≤ l.length ∧ tAll tStart (l.take k) ∧ (tRun tStart (l.take k)).rs = (tRun tStart l).rs ∧ (tRun tStart l).en = k ∧ (tRun tStart (l.take k)).ah.last = true ∧ (tRun tStart (l.take k)).en = k ∧ (tRun (tRun tStart (l.take k)) (l.drop k)).rs = (tRun tStart l).rs := by
  obtain ⟨A, B, e, h1, h2, h3, h4⟩ := cut_tell l tStart
  have hk : l.take A.length = A ∧ l.drop A.length = B := by rw [e]; simp
  have hl : (tRun tStart A).ah.last = true := by
    rcases h4 with h4 | h4
    · subst h4; decide
    · exact h4
  have hg := Gi.run A Gi.start h1
  rw [Nat.zero_add] at hg
  have hen : (tRun tStart A).en = A.length := by
    have := hg.1
    rw [hl] at this
    simpa using this
  refine ⟨A.length, by rw [e]; simp, ?_⟩
  rw [hk.1, hk.2]
  refine ⟨h1, h2, by rw [← h3]; exact hen, hl, hen, ?_⟩
  rw [← tRun_append A B _ h1, ← e]
/-- A record's parts. -/
def recPt (e n : Int) (b : Bt) (i : Nat) : Prt := ⟨e, n, cntS b, i, (b.drop (i * 43)).take 43⟩
def recP (e n : Int) (b : Bt) : List Pb := (List.range (cntS b)).map fun i => (recPt e n b i, true)
theorem recP_length (e n : Int) (b : Bt) : (recP e n b).length = cntS b := by simp [recP]
theorem cntS_pos (b : Bt) : 1 ≤ cntS b ∧ b.length ≤ cntS b * 43 := by unfold cntS; omega
theorem recP_take (e n : Int) (b : Bt) (k : Nat) (h : k < cntS b) : (recP e n b).take (k + 1) = (recP e n b).take k ++ [(recPt e n b k, true)] := by
  rw [List.take_add_one]
  congr 1
  unfold recP
  rw [List.getElem?_map, List.getElem?_range h]
  rfl
def recSt (s : TSt) (e n : Int) (b : Bt) (k : Nat) : TSt := if k = 0 then s else ⟨recPt e n b (k - 1), b.take (k * 43), if k = cntS b then s.rs ++ [b] else s.rs, if k = cntS b then s.en + cntS b else s.en⟩
theorem rec_run (s : TSt) (e n : Int) (b : Bt) (hs : s.ah.last = true) (hn : n = s.ah.n + 1) (he : s.ah.e ≤ e) : ∀ k, k ≤ cntS b → tAll s ((recP e n b).take k) ∧ tRun s ((recP e n b).take k) = recSt s e n b k
  | 0, _ => ⟨trivial, rfl⟩
  | k + 1, hk => by
    obtain ⟨h1, h2⟩ := rec_run s e n b hs hn he k (by omega)
    have hc := (cntS_pos b).1
    have hlast : (recPt e n b k).last = decide (k + 1 = cntS b) := by
      show decide ((k : Int) = (cntS b : Int) - 1) = _
      by_cases q : k + 1 = cntS b
      · rw [decide_eq_true q]; exact decide_eq_true (by omega)
      · rw [decide_eq_false q]; exact decide_eq_false (by omega)
    have hrec : recN (recSt s e n b k) (recPt e n b k) = b.take ((k + 1) * 43) := by
      unfold recN
      have hi : (recPt e n b k).i = (k : Int) := rfl
      have hb : (recPt e n b k).b = (b.drop (k * 43)).take 43 := rfl
      rw [hi, hb]
      by_cases q : k = 0
      · subst q; simp
      · rw [if_neg (by omega)]
        unfold recSt
        rw [if_neg q]
        show b.take (k * 43) ++ _ = _
        rw [show (k + 1) * 43 = k * 43 + 43 by omega, List.take_add]
    have hok : tOk (recSt s e n b k) (recPt e n b k, true) = true := by
      unfold tOk
      rw [Bool.true_and]
      unfold Prt.fol
      by_cases q : k = 0
      · subst q
        unfold recSt
        rw [if_pos rfl, hs]
        simp only [if_true, Bool.and_eq_true, decide_eq_true_eq]
        exact ⟨rfl, hn, he⟩
      · unfold recSt
        rw [if_neg q]
        have hl : (recPt e n b (k - 1)).last = false := by
          show decide (((k - 1 : Nat) : Int) = (cntS b : Int) - 1) = false
          exact decide_eq_false (by omega)
        simp only [hl, Bool.false_eq_true, if_false, Bool.and_eq_true, decide_eq_true_eq]
        refine ⟨?_, rfl, rfl, rfl⟩
        show (k : Int) = ((k - 1 : Nat) : Int) + 1
        omega
    rw [recP_take e n b k (by omega)]
    obtain ⟨q1, q2⟩ := tAll_snoc _ s (recPt e n b k, true) h1 (by rw [h2]; exact hok)
    refine ⟨q1, ?_⟩
    rw [q2, h2]
    have hrs : (recSt s e n b k).rs = s.rs ∧ (recSt s e n b k).en = s.en := by
      unfold recSt
      by_cases q : k = 0
      · rw [if_pos q]; exact ⟨rfl, rfl⟩
      · rw [if_neg q, if_neg (by omega), if_neg (by omega)]; exact ⟨rfl, rfl⟩
    show tNext (recSt s e n b k) (recPt e n b k) = recSt s e n b (k + 1)
    unfold tNext
    rw [hrec, hrs.1, hrs.2, hlast]
    unfold recSt
    rw [if_neg (by omega : ¬ k + 1 = 0)]
    by_cases q : k + 1 = cntS b
    · rw [decide_eq_true q, if_pos rfl, if_pos q, if_pos q, Nat.add_sub_cancel]
      have : b.take ((k + 1) * 43) = b := List.take_of_length_le (by rw [q]; exact (cntS_pos b).2)
      rw [this]
      rfl
    · rw [decide_eq_false q, if_neg (by simp), if_neg q, if_neg q, Nat.add_sub_cancel]
/-- A part as a sector, and back. -/
theorem split4 {α : Type} {X Y Z U V : List α} (hX : X.length = 8) (hY : Y.length = 8) (hZ : Z.length = 5) :
    ((X ++ (Y ++ (Z ++ (U ++ V)))).take 8 = X) ∧ ((X ++ (Y ++ (Z ++ (U ++ V)))).drop 8 = Y ++ (Z ++ (U ++ V))) ∧ ((X ++ (Y ++ (Z ++ (U ++ V)))).drop 16 = Z ++ (U ++ V)) ∧ ((X ++ (Y ++ (Z ++ (U ++ V)))).drop 21 = U ++ V) := by
  have e1 : (X ++ (Y ++ (Z ++ (U ++ V)))).drop 8 = Y ++ (Z ++ (U ++ V)) := by rw [← hX]; exact List.drop_left
  have e2 : (X ++ (Y ++ (Z ++ (U ++ V)))).drop 16 = Z ++ (U ++ V) := by
    rw [show 16 = 8 + 8 from rfl, ← List.drop_drop, e1, ← hY]; exact List.drop_left
  refine ⟨by rw [← hX]; exact List.take_left, e1, e2, ?_⟩
  rw [show 21 = 16 + 5 from rfl, ← List.drop_drop, e2, ← hZ]; exact List.drop_left
theorem part_sec (p : Prt) (h : p.sm) (hb : p.b.length ≤ 43) : partS (fillS (secB p)) = (p, p.may) := by
  obtain ⟨pe, pn, pc, pi, pb⟩ := p
  obtain ⟨⟨a1, a2⟩, ⟨a3, a4⟩, ⟨a5, a6⟩, ⟨a7, a8⟩, a9⟩ := h
  simp only at a1 a2 a3 a4 a5 a6 a7 a8 a9 hb
  have hform : secB ⟨pe, pn, pc, pi, pb⟩ = be64 pe ++ (be64 pn ++ (byts [pi / 256, pi % 256, pc / 256, pc % 256, (pb.length : Int)] ++ (pb ++ List.replicate (43 - pb.length) 0))) := by
    unfold secB ints
    simp [List.flatMap_cons, List.append_assoc]
  obtain ⟨q1, q2, q3, q4⟩ := split4 (U := pb) (V := List.replicate (43 - pb.length) (0 : UInt8)) (be64_length pe) (be64_length pn) (show (byts [pi / 256, pi % 256, pc / 256, pc % 256, (pb.length : Int)]).length = 5 from rfl)
  rw [← hform] at q1 q2 q3 q4
  have hlen : (secB ⟨pe, pn, pc, pi, pb⟩).length = 64 := by
    rw [hform]
    simp only [List.length_append, be64_length, List.length_replicate]
    show 8 + (8 + (5 + _)) = 64
    omega
  have hpad : padB (secB ⟨pe, pn, pc, pi, pb⟩) = secB ⟨pe, pn, pc, pi, pb⟩ := by unfold padB; rw [hlen]; simp
  have hB : ∀ x : Int, 0 ≤ x → x ≤ 255 → (UInt8.ofNat x.toNat).toNat = x.toNat := fun x h1 h2 => by rw [UInt8.toNat_ofNat']; omega
  have hsz : szS (secB ⟨pe, pn, pc, pi, pb⟩) = pb.length := by
    unfold szS
    have : (secB ⟨pe, pn, pc, pi, pb⟩).getD 20 0 = UInt8.ofNat (pb.length : Int).toNat := by
      have e := congrArg (fun l => l.getD 4 0) q3
      simp only [List.getD_eq_getElem?_getD, List.getElem?_drop] at e
      rw [List.getD_eq_getElem?_getD, e]
      rfl
    rw [this, hB _ (by omega) (by omega)]
    omega
  have hrest : restS (secB ⟨pe, pn, pc, pi, pb⟩) = [] := by
    unfold restS
    rw [hsz, q4, List.drop_left]
    exact (trimB_nil _ _).2 fun x hx => List.eq_of_mem_replicate hx
  have hprt : prtS (secB ⟨pe, pn, pc, pi, pb⟩) = ⟨pe, pn, pc, pi, pb⟩ := by
    unfold prtS
    rw [q1, q2, q4, hsz, List.take_left, ← be64_length pn, List.take_left, back_int _ a1 a2, back_int _ a3 a4]
    have e18 : ((secB ⟨pe, pn, pc, pi, pb⟩).drop 18).take 2 = [UInt8.ofNat (pc / 256).toNat, UInt8.ofNat (pc % 256).toNat] := by
      rw [show 18 = 16 + 2 from rfl, ← List.drop_drop, q3]; rfl
    have e16 : ((secB ⟨pe, pn, pc, pi, pb⟩).drop 16).take 2 = [UInt8.ofNat (pi / 256).toNat, UInt8.ofNat (pi % 256).toNat] := by
      rw [q3]; rfl
    rw [e18, e16, num_two, num_two, hB _ (by omega) (by omega), hB _ (by omega) (by omega), hB _ (by omega) (by omega), hB _ (by omega) (by omega)]
    congr 1 <;> omega
  unfold partS fillS
  simp only [hpad]
  rw [if_neg (by simp [hlen]), if_neg (by rw [hsz, hrest]; simp; omega), hprt]
theorem recPt_may (e n : Int) (b : Bt) (he : stmpB e = true) (hn : stmpB n = true) (hb : b.length ≤ 176128) (i : Nat) (hi : i < cntS b) : (recPt e n b i).may = true ∧ (recPt e n b i).sm ∧ (recPt e n b i).b.length ≤ 43 := by
  have hc : cntS b ≤ 4096 := by unfold cntS; omega
  have hl : (recPt e n b i).b.length = min 43 (b.length - i * 43) := by
    show ((b.drop (i * 43)).take 43).length = _
    simp
  have he2 := he
  have hn2 := hn
  unfold stmpB at he2 hn2
  simp only [Bool.and_eq_true, decide_eq_true_eq] at he2 hn2
  refine ⟨?_, ⟨⟨by show _ ≤ e; omega, by show e ≤ _; omega⟩, ⟨by show _ ≤ n; omega, by show n ≤ _; omega⟩, ⟨by show 0 ≤ (cntS b : Int); omega, by show (cntS b : Int) ≤ _; omega⟩, ⟨by show 0 ≤ (i : Int); omega, by show (i : Int) ≤ _; omega⟩, by rw [hl]; omega⟩, by rw [hl]; omega⟩
  unfold Prt.may
  have e1 : stmpB (recPt e n b i).e = true := he
  have e2 : stmpB (recPt e n b i).n = true := hn
  have e3 : decide (4096 < (recPt e n b i).c) = false := decide_eq_false (by show ¬ (4096 < (cntS b : Int)); omega)
  have e4 : decide ((recPt e n b i).c ≤ (recPt e n b i).i) = false := decide_eq_false (by show ¬ ((cntS b : Int) ≤ (i : Int)); omega)
  rw [e1, e2, e3, e4]
  simp only [Bool.true_and, Bool.not_false]
  have hla : (recPt e n b i).last = decide (i + 1 = cntS b) := by
    show decide ((i : Int) = (cntS b : Int) - 1) = _
    by_cases q : i + 1 = cntS b
    · rw [decide_eq_true q]; exact decide_eq_true (by omega)
    · rw [decide_eq_false q]; exact decide_eq_false (by omega)
  rw [hla, hl]
  have hcl : cntS b = max ((b.length + 42) / 43) 1 := rfl
  by_cases q : i + 1 = cntS b
  · rw [decide_eq_true q, if_pos rfl]
    simp only [Bool.or_eq_true, decide_eq_true_eq]
    by_cases z : i = 0
    · exact .inr (by show (i : Int) = 0; omega)
    · exact .inl (by omega)
  · rw [decide_eq_false q, if_neg (by simp)]
    exact decide_eq_true (by omega)
theorem rec_parts (e n : Int) (b : Bt) (he : stmpB e = true) (hn : stmpB n = true) (hb : b.length ≤ 176128) : (splitL e n b).map (fun x => partS (fillS x)) = recP e n b := by
  unfold splitL recP
  rw [List.map_map]
  apply List.map_congr_left
  intro i hi
  obtain ⟨h1, h2, h3⟩ := recPt_may e n b he hn hb i (List.mem_range.1 hi)
  show partS (fillS (secB (recPt e n b i))) = _
  rw [part_sec _ h2 h3, h1]
end Go.Proofs.YthmjejmignangaaGreatDoor
