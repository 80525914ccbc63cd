/- The document's In, Out, Takes and Find; op.Find. asm.Read. -/
import Derived.Test.YtbjipcpoiiegkaaGreatDoorOI
import Derived.Test.YtbjipcpoiiegkaaGreatDoorOT
import Derived.Test.YtbjipcpoiiegkaaGreatDoorAK
import Derived.Test.YtbjipcpoiiegkaaGreatDoorCR
namespace Go.Proofs.YtbjipcpoiiegkaaGreatDoor
open Go.RowKit
attribute [local go_sem high] eq_val eq_val0
theorem in_digits : ∀ k : Fin 54, (inS.getD k.1 []).length ≤ 10 ∧ (inS.getD k.1 []).map (fun x => ((x.toNat : Int) - 48) % 256) = inTab.getD k.1 [] := by decide +kernel
theorem out_digits : ∀ k : Fin 54, (outS.getD k.1 []).length ≤ 10 ∧ (outS.getD k.1 []).map (fun x => ((x.toNat : Int) - 48) % 256) = outTab.getD k.1 [] := by decide +kernel
/-- What Find answers, from the operation k on. -/
def findFrom (s : List UInt8) (k : Nat) : Int × Bool := if k ≤ 53 then (if nameT k = s then (k, true) else findFrom s (k + 1)) else (0, false)
termination_by 54 - k
theorem find_yes {s : List UInt8} {k : Nat} (h : k ≤ 53) (e : nameT k = s) : findFrom s k = ((k : Int), true) := by rw [findFrom, if_pos h, if_pos e]
theorem find_on {s : List UInt8} {k : Nat} (h : k ≤ 53) (e : nameT k ≠ s) : findFrom s k = findFrom s (k + 1) := by rw [findFrom, if_pos h, if_neg e]
theorem find_no {s : List UInt8} {k : Nat} (h : ¬ k ≤ 53) : findFrom s k = (0, false) := by rw [findFrom, if_neg h]
set_option maxHeartbeats 1000000 in
theorem find_any (s : List UInt8) (w : World) : Calls Tryz.prog 25 #[.string ⟨s.toArray⟩] w fun e w' => e = .returned (.tuple #[.int .i64 (findFrom s 1).1, .bool (findFrom s 1).2]) ∧ Below w.heap.size w w' := by
  go_enter Tryz.func25, Tryz.ntmps25
  go_wp2
  go_loopw [4] (fun i wr => ∃ k : Nat, 1 ≤ k ∧ k ≤ 54 ∧ i = .int .i64 k ∧ findFrom s 1 = findFrom s k ∧ Below w.heap.size w wr) (fun i _ => 54 - (intOf i).toNat)
  case atStart => exact ⟨1, by omega, by omega, rfl, rfl, Below.refl _ _⟩
  case round =>
    obtain ⟨k, hk0, hk, rfl, hf, hb⟩ := hrel
    by_cases hlt : k ≤ 53
    · have hN := name_any (k : Int)
      by_cases e : nameT k = s
      · have HF : Hid (findFrom s 1 = ((k : Int), true)) := hidV (hf.trans (find_yes hlt e))
        rw [e] at hN
        clear hf e
        go_wp2_with (go_at_call 31; refine (hN _).mono ?_; rintro e w2 ⟨rfl, hb2⟩; subst hb2; have hb2 := hb)
        go_ret2
        exact ⟨by rw [HF.out]; rfl, hb2⟩
      · have HF : Hid (findFrom s 1 = findFrom s (k + 1)) := hidV (hf.trans (find_on hlt e))
        have e' : (nameT k == s) = false := by simp [e]
        clear hf
        generalize nameT k = r at *
        go_wp2_with (go_at_call 31; refine (hN _).mono ?_; rintro e w2 ⟨rfl, hb2⟩; subst hb2; have hb2 := hb)
        refine ⟨⟨k + 1, by omega, by omega, by go_num, HF.out, hb2⟩, by simp [intOf]; omega⟩
    · have HF : Hid (findFrom s 1 = (0, false)) := hidV (hf.trans (find_no hlt))
      clear hf
      go_wp2
      go_ret2
      exact ⟨by rw [HF.out]; rfl, hb⟩
set_option maxHeartbeats 1000000 in
theorem rfind_any (s : List UInt8) (w : World) : Calls Tryz.prog 29 #[.string ⟨s.toArray⟩] w fun e w' => e = .returned (.tuple #[.int .i64 (findFrom s 1).1, .bool (findFrom s 1).2]) ∧ Below w.heap.size w w' := by
  go_enter Tryz.func29, Tryz.ntmps29
  go_wp2
  go_loopw [4] (fun i wr => ∃ k : Nat, 1 ≤ k ∧ k ≤ 54 ∧ i = .int .i64 k ∧ findFrom s 1 = findFrom s k ∧ Below w.heap.size w wr) (fun i _ => 54 - (intOf i).toNat)
  case atStart => exact ⟨1, by omega, by omega, rfl, rfl, Below.refl _ _⟩
  case round =>
    obtain ⟨k, hk0, hk, rfl, hf, hb⟩ := hrel
    by_cases hlt : k ≤ 53
    · have hN := rname_any (k : Int)
      by_cases e : nameT k = s
      · have HF : Hid (findFrom s 1 = ((k : Int), true)) := hidV (hf.trans (find_yes hlt e))
        rw [e] at hN
        clear hf e
        go_wp2_with (go_at_call 35; refine (hN _).mono ?_; rintro e w2 ⟨rfl, hb2⟩; replace hb2 := hb.trans (hb2.mono hb.size))
        go_ret2
        exact ⟨by rw [HF.out]; rfl, hb2⟩
      · have HF : Hid (findFrom s 1 = findFrom s (k + 1)) := hidV (hf.trans (find_on hlt e))
        have e' : (nameT k == s) = false := by simp [e]
        clear hf
        generalize nameT k = r at *
        go_wp2_with (go_at_call 35; refine (hN _).mono ?_; rintro e w2 ⟨rfl, hb2⟩; replace hb2 := hb.trans (hb2.mono hb.size))
        refine ⟨⟨k + 1, by omega, by omega, by go_num, HF.out, hb2⟩, by simp [intOf]; omega⟩
    · have HF : Hid (findFrom s 1 = (0, false)) := hidV (hf.trans (find_no hlt))
      clear hf
      go_wp2
      go_ret2
      exact ⟨by rw [HF.out]; rfl, hb⟩
theorem names_apart : ∀ k : Fin 54, k.1 = 1 ∨ k.1 = 2 ∨ k.1 = 9 ∨ k.1 = 10 ∨ k.1 = 51 ∨ k.1 = 53 ∨ (nameTab.getD k.1 [] ≠ [105, 110, 116] ∧ nameTab.getD k.1 [] ≠ [99, 111, 110, 115, 116] ∧ nameTab.getD k.1 [] ≠ [103, 101, 116] ∧ nameTab.getD k.1 [] ≠ [115, 101, 116] ∧ nameTab.getD k.1 [] ≠ [108, 111, 111, 112] ∧ nameTab.getD k.1 [] ≠ [99, 97, 108, 108]) := by decide +kernel
set_option maxHeartbeats 1000000 in
theorem rtakes_of (n t : Int) (r : List UInt8) (w : World) (hN : Calls Tryz.prog 35 #[.int .i64 n] w fun e w' => e = .returned (.string ⟨r.toArray⟩) ∧ Below w.heap.size w w') (hr : (r = [105, 110, 116] ∧ t = 1) ∨ (r = [99, 111, 110, 115, 116] ∧ t = 2) ∨ (r = [103, 101, 116] ∧ t = 3) ∨ (r = [115, 101, 116] ∧ t = 3) ∨ (r = [108, 111, 111, 112] ∧ t = 4) ∨ (r = [99, 97, 108, 108] ∧ t = 5) ∨ (t = 0 ∧ r ≠ [105, 110, 116] ∧ r ≠ [99, 111, 110, 115, 116] ∧ r ≠ [103, 101, 116] ∧ r ≠ [115, 101, 116] ∧ r ≠ [108, 111, 111, 112] ∧ r ≠ [99, 97, 108, 108])) : Calls Tryz.prog 36 #[.int .i64 n] w fun e w' => e = .returned (.int .i64 t) ∧ Below w.heap.size w w' := by
  rcases hr with ⟨rfl, rfl⟩ | ⟨rfl, rfl⟩ | ⟨rfl, rfl⟩ | ⟨rfl, rfl⟩ | ⟨rfl, rfl⟩ | ⟨rfl, rfl⟩ | ⟨rfl, h1, h2, h3, h4, h5, h6⟩
  iterate 6
    · as_aux_lemma =>
      go_enter Tryz.func36, Tryz.ntmps36
      go_wp2_with (go_at_call 35; refine hN.mono ?_; rintro e w2 ⟨rfl, hb2⟩)
      go_ret
      exact ⟨rfl, hb2⟩
  · rw [← beq_eq_false_iff_ne] at h1 h2 h3 h4 h5 h6
    go_enter Tryz.func36, Tryz.ntmps36
    go_wp2_with (go_at_call 35; refine hN.mono ?_; rintro e w2 ⟨rfl, hb2⟩)
    go_ret
    exact ⟨rfl, hb2⟩
theorem rtakes_any (n : Int) (w : World) : Calls Tryz.prog 36 #[.int .i64 n] w fun e w' => e = .returned (.int .i64 (takesT n)) ∧ Below w.heap.size w w' := by
  refine rtakes_of n _ _ w (rname_any n w) ?_
  by_cases h : n < 1 ∨ 53 < n
  · rw [show takesT n = 0 from rowOf_none _ _ n h, show nameT n = [] from rowOf_none _ _ n h]
    simp
  · obtain ⟨k, rfl⟩ : ∃ k : Nat, n = k := ⟨n.toNat, by omega⟩
    have hk : k < 54 := by omega
    have ht : takesT k = takesTab.getD k 0 := by unfold takesT rowOf; rw [if_pos (by omega)]; simp
    have hm : nameT k = nameTab.getD k [] := by unfold nameT rowOf; rw [if_pos (by omega)]; simp
    rw [ht, hm]
    have H : ∀ k : Fin 54, k.1 = 0 ∨ ((nameTab.getD k.1 [] = [105, 110, 116] ∧ takesTab.getD k.1 0 = 1) ∨ (nameTab.getD k.1 [] = [99, 111, 110, 115, 116] ∧ takesTab.getD k.1 0 = 2) ∨ (nameTab.getD k.1 [] = [103, 101, 116] ∧ takesTab.getD k.1 0 = 3) ∨ (nameTab.getD k.1 [] = [115, 101, 116] ∧ takesTab.getD k.1 0 = 3) ∨ (nameTab.getD k.1 [] = [108, 111, 111, 112] ∧ takesTab.getD k.1 0 = 4) ∨ (nameTab.getD k.1 [] = [99, 97, 108, 108] ∧ takesTab.getD k.1 0 = 5) ∨ (takesTab.getD k.1 0 = 0 ∧ nameTab.getD k.1 [] ≠ [105, 110, 116] ∧ nameTab.getD k.1 [] ≠ [99, 111, 110, 115, 116] ∧ nameTab.getD k.1 [] ≠ [103, 101, 116] ∧ nameTab.getD k.1 [] ≠ [115, 101, 116] ∧ nameTab.getD k.1 [] ≠ [108, 111, 111, 112] ∧ nameTab.getD k.1 [] ≠ [99, 97, 108, 108])) := by decide +kernel
    rcases H ⟨k, hk⟩ with h0 | h0
    · simp only at h0; omega
    · exact h0
end Go.Proofs.YtbjipcpoiiegkaaGreatDoor
namespace Go.Proofs.YtbjipcpoiiegkaaGreatDoor
open Go.RowKit Go.Shelf
/-- The instruction whose line this is. -/
def insS (s : List UInt8) : Option (Int × Int) :=
  if (findFrom (cutAt s 32).1 1).2 = false then none
  else if (cutAt s 32).2.2 ≠ (takesN (findFrom (cutAt s 32).1 1).1 != 0) then none
  else if (cutAt s 32).2.2 = false then some ((findFrom (cutAt s 32).1 1).1, 0)
  else (oneV (cutAt s 32).2.1 1).map fun v => ((findFrom (cutAt s 32).1 1).1, v.n)
def InsEnd (r : Option (Int × Int)) (w : World) (e : Ending) (w' : World) : Prop := e = .returned (.tuple #[.agg #[.int .i64 (r.getD (0, 0)).1, .int .i64 (r.getD (0, 0)).2], .bool r.isSome]) ∧ Below w.heap.size w w'
theorem load_ins5 {w : World} {b : Nat} {x0 x1 : Value} (h0 : w.cell? ⟨b, 0, none⟩ = some x0) (h1 : w.cell? ⟨b, 1, none⟩ = some x1) : (loadVar 23 ⟨b, 0, none⟩).run Tryz.prog w = .ok (.agg #[x0, x1]) w := by
  simp [loadVar, go_sem, h0, h1]
theorem ret_ins {fn : Func} {w W : World} {a : Act} {t u : Tmp} {x y : Value} {n m : Int} {ok : Bool} (r : Option (Int × Int)) (hb : W.heap[w.heap.size]? = some (.cells #[x, y] 23 (0, 0))) (hbe : Below w.heap.size w W) (h : fn.results = #[.cell t 23, .tmp u]) (ha : a.tmps[t]?.getD undef = .pointer (some ⟨w.heap.size, 0, none⟩)) (hd : a.defers = []) (hu : a.tmps[u]?.getD undef = .bool ok) (h1 : r.getD (0, 0) = (n, m)) (h2 : r.isSome = ok) :
    bodyPost Tryz.prog fn (InsEnd r w) .ret a ((W.setCell ⟨w.heap.size, 0, none⟩ (.int .i64 n)).setCell ⟨w.heap.size, 1, none⟩ (.int .i64 m)) := by
  have hh : ((W.setCell ⟨w.heap.size, 0, none⟩ (.int .i64 n)).setCell ⟨w.heap.size, 1, none⟩ (.int .i64 m)).heap[w.heap.size]? = some (.cells #[.int .i64 n, .int .i64 m] 23 (0, 0)) := by
    simp [World.setCell, Array.getElem?_modify, hb]
  refine bodyPost_ret (by rw [results_mixed h _ _ _ _ _ ha (load_ins5 (by rw [Lib.cell_of_heap hh]; rfl) (by rw [Lib.cell_of_heap hh]; rfl)), hu]) hd ⟨by rw [h1, h2]; rfl, ?_⟩
  exact (hbe.setCell (p := ⟨w.heap.size, 0, none⟩) (Nat.le_refl _) _).setCell (p := ⟨w.heap.size, 1, none⟩) (Nat.le_refl _) _
set_option maxRecDepth 100000 in
set_option maxHeartbeats 1000000 in
theorem read_any (s : List UInt8) (hs : s.length ≤ 1048576) (w : World) (hL : Laid w) : Calls Tryz.prog 8 #[.string ⟨s.toArray⟩] w (InsEnd (insS s) w) := by
  obtain ⟨W1, hW1⟩ : ∃ W1, W1 = w.alloc (.cells #[.int .i64 0, .int .i64 0] 23) := ⟨_, rfl⟩
  have hb1 : Below w.heap.size w W1 := by rw [hW1]; exact (Below.refl _ w).alloc (Nat.le_refl _) _
  have bA : W1.heap[w.heap.size]? = some (.cells #[.int .i64 0, .int .i64 0] 23 (0, 0)) := by rw [hW1]; exact heap_alloc_new w _
  have box : ∀ W, Below W1.heap.size W1 W → W.heap[w.heap.size]? = some (.cells #[.int .i64 0, .int .i64 0] 23 (0, 0)) := fun W hW => (hW.block _ (lt_of_block bA)).trans bA
  have hC := cut_any s 32 hs W1
  have hlen := cutAt_len s 32
  have HI : Hid (insS s = if (findFrom (cutAt s 32).1 1).2 = false then none else if (cutAt s 32).2.2 ≠ (takesN (findFrom (cutAt s 32).1 1).1 != 0) then none else if (cutAt s 32).2.2 = false then some ((findFrom (cutAt s 32).1 1).1, 0) else (oneV (cutAt s 32).2.1 1).map fun v => ((findFrom (cutAt s 32).1 1).1, v.n)) := hid rfl
  generalize cutAt s 32 = c at hC HI hlen
  obtain ⟨nm, rest, more⟩ := c
  simp only at hC HI hlen
  have hF := find_any nm
  generalize findFrom nm 1 = f at hF HI
  obtain ⟨n, ok⟩ := f
  simp only at hF HI
  have hS := fun W hW => single_any rest 1 (by omega) W hW
  have hT := takes_all n
  generalize hb : (takesN n != 0) = tb at HI
  generalize takesN n = tk at hT hb
  cases ok with
  | false =>
    have H1 : Hid (insS s = none) := hid (HI.out.trans (by simp))
    go_enter Tryz.func8, Tryz.ntmps8
    go_wp2_with fail
    rw [← hW1]
    refine hC.mono ?_
    rintro e w2 ⟨rfl, hb2⟩
    have b2 := box w2 hb2
    go_wp2_with (go_at_call 25; refine (hF _).mono ?_; rintro e w3 ⟨rfl, hb3'⟩; have hb3 := hb2.trans (hb3'.mono hb2.size); have b3 := box w3 hb3; obtain ⟨p0, p1, z0, z1⟩ := cells2 b3)
    exact ret_ins _ b3 (hb1.trans (hb3.mono hb1.size)) rfl rfl rfl rfl (by rw [H1.out]; rfl) (by rw [H1.out]; rfl)
  | true =>
    simp only [Bool.true_eq_false, if_false] at HI
    cases more <;> cases tb
    · have H1 : Hid (insS s = some (n, 0)) := hid (HI.out.trans (by simp))
      go_enter Tryz.func8, Tryz.ntmps8
      go_wp2_with fail
      rw [← hW1]
      refine hC.mono ?_
      rintro e w2 ⟨rfl, hb2⟩
      have b2 := box w2 hb2
      go_wp2_with (first | (go_at_call 25; refine (hF _).mono ?_; rintro e w3 ⟨rfl, hb3'⟩; have hb3 := hb2.trans (hb3'.mono hb2.size); have b3 := box w3 hb3; obtain ⟨p0, p1, z0, z1⟩ := cells2 b3) | (go_at_call 26; refine (hT _).mono ?_; rintro e w4 ⟨rfl, rfl⟩))
      exact ret_ins _ b3 (hb1.trans (hb3.mono hb1.size)) rfl rfl rfl rfl (by rw [H1.out]; rfl) (by rw [H1.out]; rfl)
    · have H1 : Hid (insS s = none) := hid (HI.out.trans (by simp))
      go_enter Tryz.func8, Tryz.ntmps8
      go_wp2_with fail
      rw [← hW1]
      refine hC.mono ?_
      rintro e w2 ⟨rfl, hb2⟩
      have b2 := box w2 hb2
      go_wp2_with (first | (go_at_call 25; refine (hF _).mono ?_; rintro e w3 ⟨rfl, hb3'⟩; have hb3 := hb2.trans (hb3'.mono hb2.size); have b3 := box w3 hb3; obtain ⟨p0, p1, z0, z1⟩ := cells2 b3) | (go_at_call 26; refine (hT _).mono ?_; rintro e w4 ⟨rfl, rfl⟩))
      exact ret_ins _ b3 (hb1.trans (hb3.mono hb1.size)) rfl rfl rfl rfl (by rw [H1.out]; rfl) (by rw [H1.out]; rfl)
    · have H1 : Hid (insS s = none) := hid (HI.out.trans (by simp))
      go_enter Tryz.func8, Tryz.ntmps8
      go_wp2_with fail
      rw [← hW1]
      refine hC.mono ?_
      rintro e w2 ⟨rfl, hb2⟩
      have b2 := box w2 hb2
      go_wp2_with (first | (go_at_call 25; refine (hF _).mono ?_; rintro e w3 ⟨rfl, hb3'⟩; have hb3 := hb2.trans (hb3'.mono hb2.size); have b3 := box w3 hb3; obtain ⟨p0, p1, z0, z1⟩ := cells2 b3) | (go_at_call 26; refine (hT _).mono ?_; rintro e w4 ⟨rfl, rfl⟩))
      exact ret_ins _ b3 (hb1.trans (hb3.mono hb1.size)) rfl rfl rfl rfl (by rw [H1.out]; rfl) (by rw [H1.out]; rfl)
    · have H1 : Hid (insS s = (oneV rest 1).map fun v => (n, v.n)) := hid (HI.out.trans (by simp))
      clear HI
      generalize oneV rest 1 = q at hS H1
      have hLW : ∀ W, Below W1.heap.size W1 W → Laid W := fun W h => hL.keep (hb1.trans (h.mono hb1.size))
      cases q with
      | none =>
        have H2 : Hid (insS s = none) := hid H1.out
        go_enter Tryz.func8, Tryz.ntmps8
        go_wp2_with fail
        rw [← hW1]
        refine hC.mono ?_
        rintro e w2 ⟨rfl, hb2⟩
        have b2 := box w2 hb2
        go_wp2_with (first | (go_at_call 25; refine (hF _).mono ?_; rintro e w3 ⟨rfl, hb3'⟩; have hb3 := hb2.trans (hb3'.mono hb2.size); have b3 := box w3 hb3; obtain ⟨p0, p1, z0, z1⟩ := cells2 b3) | (go_at_call 26; refine (hT _).mono ?_; rintro e w4 ⟨rfl, rfl⟩) | (go_at_call 27; refine (hS _ (hLW _ hb3)).mono ?_; rintro e w5 ⟨rfl, hb5'⟩; have hb5 := hb3.trans (hb5'.mono hb3.size); have b5 := box w5 hb5; have b6 := (Below.heap_alloc w5 (.cells #[.int .i64 0, .int .i64 0, .string ⟨#[]⟩] 54) _ (lt_of_block b5)).trans b5; obtain ⟨y0, y1, y2, y3⟩ := cells2 b6; simp only [Option.getD_none, Option.isSome_none, Val.v]))
        have hb6 : Below w.heap.size w w5 := hb1.trans (hb5.mono hb1.size)
        exact ret_ins _ b6 (hb6.alloc hb6.size _) rfl rfl rfl rfl (by rw [H2.out]; rfl) (by rw [H2.out]; rfl)
      | some v =>
        have H2 : Hid (insS s = some (n, v.n)) := hid H1.out
        go_enter Tryz.func8, Tryz.ntmps8
        go_wp2_with fail
        rw [← hW1]
        refine hC.mono ?_
        rintro e w2 ⟨rfl, hb2⟩
        have b2 := box w2 hb2
        go_wp2_with (first | (go_at_call 25; refine (hF _).mono ?_; rintro e w3 ⟨rfl, hb3'⟩; have hb3 := hb2.trans (hb3'.mono hb2.size); have b3 := box w3 hb3; obtain ⟨p0, p1, z0, z1⟩ := cells2 b3) | (go_at_call 26; refine (hT _).mono ?_; rintro e w4 ⟨rfl, rfl⟩) | (go_at_call 27; refine (hS _ (hLW _ hb3)).mono ?_; rintro e w5 ⟨rfl, hb5'⟩; have hb5 := hb3.trans (hb5'.mono hb3.size); have b5 := box w5 hb5; have b6 := (Below.heap_alloc w5 (.cells #[.int .i64 v.t, .int .i64 v.n, .string ⟨v.b.toArray⟩] 54) _ (lt_of_block b5)).trans b5; obtain ⟨y0, y1, y2, y3⟩ := cells2 b6; simp only [Option.getD_some, Option.isSome_some, Val.v]))
        have hb6 : Below w.heap.size w w5 := hb1.trans (hb5.mono hb1.size)
        exact ret_ins _ b6 (hb6.alloc hb6.size _) rfl rfl rfl rfl (by rw [H2.out]; rfl) (by rw [H2.out]; rfl)
end Go.Proofs.YtbjipcpoiiegkaaGreatDoor
