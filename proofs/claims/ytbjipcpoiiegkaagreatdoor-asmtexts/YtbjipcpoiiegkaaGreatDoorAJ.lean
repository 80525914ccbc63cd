/- asm.joined, asm.Line. asm's words of types, and the document's. The document's row of types, Head. -/
import Derived.Test.YtbjipcpoiiegkaaGreatDoorPA
import Derived.Test.YtbjipcpoiiegkaaGreatDoorAN
namespace Go.Proofs.YtbjipcpoiiegkaaGreatDoor
open Go.RowKit
theorem joined_any (bk o c n : Nat) (xs : List (List UInt8)) (hn : xs.length = n) (w : World) (hcells : ∀ j (h : j < xs.length), w.cell? ⟨bk, o + j, none⟩ = some (.string ⟨xs[j].toArray⟩)) (hbk : bk < w.heap.size) (hN : n ≤ 140737488355328) (hcap : n ≤ c) (hlen : (Lib.join xs [32]).length ≤ 140737488355328) :
    Calls Tryz.prog 32 #[.slice (some ⟨bk, o, none⟩) n c] w fun e w' => e = .returned (.string ⟨(Lib.join xs [32]).toArray⟩) ∧ Below w.heap.size w w' := by
  subst hn
  have hE : (xs.map fun x => (⟨x.toArray⟩ : ByteArray)).map (·.data.toList) = xs := by simp [Function.comp_def]
  have hJ := Tryz.strings_Join bk o c (xs.map fun x => (⟨x.toArray⟩ : ByteArray)) ⟨#[32]⟩ w (by
    intro j x hj
    obtain ⟨hj', rfl⟩ := List.getElem?_eq_some_iff.1 hj
    simp only [List.length_map] at hj'
    simp [hcells j hj']) hbk (by simpa using hN) (by simpa using hcap) (by rw [hE]; exact hlen)
  rw [List.length_map, hE] at hJ
  have hJ' : Calls Tryz.prog 59 #[.slice (some ⟨bk, o, none⟩) xs.length c, .string ⟨#[32]⟩] w fun e w' => e = .returned (.string ⟨(Lib.join xs [32]).toArray⟩) ∧ Below w.heap.size w w' := hJ
  clear hJ hcells hE hN hcap hlen
  generalize xs.length = n at hJ'
  generalize Lib.join xs [32] = r at hJ'
  go_enter Tryz.func32, Tryz.ntmps32
  go_wp2_with (go_at_call 59; refine hJ'.mono ?_; rintro e w5 ⟨rfl, hb5⟩)
  go_ret
  exact ⟨rfl, hb5⟩
theorem join_pair (a b : List UInt8) : Lib.join [a, b] [32] = a ++ 32 :: b := by simp [Lib.join]
theorem print_num (a : Int) : printOf [⟨1, a, []⟩] = Lib.itoa a := by simp [printOf, Val.right, printList, Lib.join, wordOf]
theorem joined_two (a b : List UInt8) (h : a.length + b.length ≤ 1000000) (w : World) : Calls Tryz.prog 32 #[.slice (some ⟨w.heap.size, 0, none⟩) 2 2] (w.alloc (.cells #[.string ⟨a.toArray⟩, .string ⟨b.toArray⟩] 9)) fun e w' => e = .returned (.string ⟨(a ++ 32 :: b).toArray⟩) ∧ Below w.heap.size w w' := by
  have hc := heap_alloc_new w (.cells #[.string ⟨a.toArray⟩, .string ⟨b.toArray⟩] 9)
  have := joined_any w.heap.size 0 2 2 [a, b] rfl (w.alloc (.cells #[.string ⟨a.toArray⟩, .string ⟨b.toArray⟩] 9)) (by
    intro j hj
    rw [Nat.zero_add, Lib.cell_of_heap hc j]
    rcases j with _ | _ | j
    · rfl
    · rfl
    · simp at hj; omega) (lt_of_block hc) (by omega) (by omega) (by rw [join_pair]; simp; omega)
  rw [join_pair] at this
  refine this.mono ?_
  rintro e w' ⟨rfl, hb⟩
  have h0 := (Below.refl _ w).alloc (Nat.le_refl _) (.cells #[.string ⟨a.toArray⟩, .string ⟨b.toArray⟩] 9)
  exact ⟨rfl, h0.trans (hb.mono h0.size)⟩
set_option maxRecDepth 100000 in
set_option maxHeartbeats 1000000 in
theorem line_any (o a : Int) (h0 : -9223372036854775808 ≤ a) (h1 : a ≤ 9223372036854775807) (w : World) (hP : Pow w) : Calls Tryz.prog 10 #[.agg #[.int .i64 o, .int .i64 a]] w fun e w' => e = .returned (.string ⟨(lineS (o, a)).toArray⟩) ∧ Below w.heap.size w w' := by
  obtain ⟨W2, hW2⟩ : ∃ W2, W2 = w.alloc (.cells #[.int .i64 o, .int .i64 a] 23) := ⟨_, rfl⟩
  have hb2 : Below w.heap.size w W2 := by rw [hW2]; exact (Below.refl _ w).alloc (Nat.le_refl _) _
  have bA : W2.heap[w.heap.size]? = some (.cells #[.int .i64 o, .int .i64 a] 23 (0, 0)) := by rw [hW2]; exact heap_alloc_new w _
  have box : ∀ W, Below W2.heap.size W2 W → W.cell? ⟨w.heap.size, 0, none⟩ = some (.int .i64 o) ∧ W.cell? ⟨w.heap.size, 1, none⟩ = some (.int .i64 a) := fun W hW => by
    obtain ⟨q0, q1, _, _⟩ := cells2 ((hW.block _ (lt_of_block bA)).trans bA)
    exact ⟨q0, q1⟩
  have hN := name_any o W2
  have hT := takes_all o W2
  rw [← takes_same] at hT
  have hlen := nameT_len o
  have hlen2 := itoa_le a h0 h1
  have HL : Hid (lineS (o, a) = if nameT o = [] then [] else if takesT o ≠ 0 then nameT o ++ 32 :: Lib.itoa a else if a ≠ 0 then [] else nameT o) := hid rfl
  obtain ⟨p0, p1⟩ := box W2 (Below.refl _ _)
  by_cases hn : nameT o = []
  · rw [hn] at hN
    have H1 := hid (HL.out.trans (if_pos hn))
    go_enter Tryz.func10, Tryz.ntmps10
    go_wp2_with fail
    rw [← hW2]
    clear hW2
    refine hN.mono ?_
    rintro e w3 ⟨rfl, rfl⟩
    go_wp2_with fail
    go_ret
    exact ⟨by rw [H1.out]; rfl, hb2⟩
  have q : (nameT o == []) = false := by simp [hn]
  have H1 := hid (HL.out.trans (if_neg hn))
  clear HL
  generalize nameT o = nm at hN H1 q hlen
  by_cases ht : takesT o = 0
  · rw [ht] at hT
    have H2 := hid (H1.out.trans (if_neg (by simp [ht])))
    clear H1
    by_cases ha : a = 0
    · subst ha
      have H3 := hid (H2.out.trans (if_neg (by simp)))
      go_enter Tryz.func10, Tryz.ntmps10
      go_wp2_with fail
      rw [← hW2]
      clear hW2
      refine hN.mono ?_
      rintro e w3 ⟨rfl, rfl⟩
      go_wp2_with (go_at_call 26; refine hT.mono ?_; rintro e w4 ⟨rfl, rfl⟩)
      go_ret
      exact ⟨by rw [H3.out]; rfl, hb2⟩
    · have q2 : (a != 0) = true := by simp [ha]
      have H3 := hid (H2.out.trans (if_pos ha))
      go_enter Tryz.func10, Tryz.ntmps10
      go_wp2_with fail
      rw [← hW2]
      clear hW2
      refine hN.mono ?_
      rintro e w3 ⟨rfl, rfl⟩
      go_wp2_with (go_at_call 26; refine hT.mono ?_; rintro e w4 ⟨rfl, rfl⟩)
      go_ret
      exact ⟨by rw [H3.out]; rfl, hb2⟩
  · have q2 : (takesT o != 0) = true := by simp [ht]
    have H2 := hid (H1.out.trans (if_pos ht))
    clear H1
    generalize takesT o = tk at hT q2
    obtain ⟨W3, hW3⟩ : ∃ W3, W3 = W2.alloc (Val.box ⟨1, a, []⟩) := ⟨_, rfl⟩
    have hNum : Calls Tryz.prog 34 #[.int .i64 a] W2 fun e w' => e = .returned (.agg #[.int .i64 1, .int .i64 a, .string ⟨#[]⟩]) ∧ w' = W3 := by rw [hW3]; exact number_any' a W2
    have hb3 : Below w.heap.size w W3 := by rw [hW3]; exact hb2.alloc hb2.size _
    clear hW3
    obtain ⟨W4, hW4⟩ : ∃ W4, W4 = W3.alloc (.cells #[.int .i64 1, .int .i64 a, .string ⟨#[]⟩] 54) := ⟨_, rfl⟩
    have hb4 : Below w.heap.size w W4 := by rw [hW4]; exact hb3.alloc hb3.size _
    have hV4 : Vs W4 (some ⟨W3.heap.size, 0, none⟩) [⟨1, a, []⟩] := by rw [hW4]; exact vsOne W3 ⟨1, a, []⟩ _ rfl
    have hPr := print_any (some ⟨W3.heap.size, 0, none⟩) 1 1 [⟨1, a, []⟩] rfl W4 (hP.keep hb4) hV4 (fun x hx => by rw [List.mem_singleton] at hx; subst hx; exact ⟨by simp, h0, h1⟩) (by omega) (by show (Lib.join [wordOf ⟨1, a, []⟩] [32]).length ≤ _; simp [Lib.join, wordOf]; omega)
    rw [print_num] at hPr
    generalize Lib.itoa a = ds at hPr H2 hlen2
    go_enter Tryz.func10, Tryz.ntmps10
    go_wp2_with fail
    rw [← hW2]
    clear hW2
    refine hN.mono ?_
    rintro e w3 ⟨rfl, rfl⟩
    go_wp2_with (first | (go_at_call 26; refine hT.mono ?_; rintro e w4 ⟨rfl, rfl⟩) | (go_at_call 34; refine hNum.mono ?_; rintro e w4 ⟨rfl, rfl⟩) | (go_at_call 33; rw [← hW4]; refine hPr.mono ?_; rintro e w5 ⟨rfl, hb5'⟩; have hb5 := hb4.trans (hb5'.mono hb4.size)) | (go_at_call 32; refine (joined_two nm ds (by omega) _).mono ?_; rintro e w6 ⟨rfl, hb6'⟩; have hb6 := hb5.trans (hb6'.mono hb5.size)))
    go_ret
    refine ⟨?_, hb6⟩
    rw [H2.out]
    rfl
end Go.Proofs.YtbjipcpoiiegkaaGreatDoor
namespace Go.Proofs.YtbjipcpoiiegkaaGreatDoor
open Go.RowKit
/-- A type's word. -/
def kindW (k : Int) : List UInt8 := if k = 1 then [105, 110, 116] else if k = 2 then [98, 121, 116, 101, 115] else if k = 3 then [98, 111, 111, 108] else []
/-- The type of a word; 0: none. -/
def kindOf (s : List UInt8) : Int := if s = [105, 110, 116] then 1 else if s = [98, 121, 116, 101, 115] then 2 else if s = [98, 111, 111, 108] then 3 else 0
theorem kindW_1 : kindW 1 = [105, 110, 116] := by decide
theorem kindW_2 : kindW 2 = [98, 121, 116, 101, 115] := by decide
theorem kindW_3 : kindW 3 = [98, 111, 111, 108] := by decide
theorem kindW_no {k : Int} (h : k ≠ 1) (h2 : k ≠ 2) (h3 : k ≠ 3) : kindW k = [] := by unfold kindW; rw [if_neg h, if_neg h2, if_neg h3]
theorem typeWord_any (k : Int) (w : World) : Calls Tryz.prog 41 #[.int .i64 k] w fun e w' => e = .returned (.string ⟨(kindW k).toArray⟩) ∧ w' = w := by
  by_cases h1 : k = 1
  · subst h1
    go_enter Tryz.func41, Tryz.ntmps41
    go_wp2
    go_ret
    exact ⟨rfl, rfl⟩
  by_cases h2 : k = 2
  · subst h2
    go_enter Tryz.func41, Tryz.ntmps41
    go_wp2
    go_ret
    exact ⟨rfl, rfl⟩
  by_cases h3 : k = 3
  · subst h3
    go_enter Tryz.func41, Tryz.ntmps41
    go_wp2
    go_ret
    exact ⟨rfl, rfl⟩
  · have e1 : (k == 1) = false := by simp [h1]
    have e2 : (k == 2) = false := by simp [h2]
    have e3 : (k == 3) = false := by simp [h3]
    rw [kindW_no h1 h2 h3]
    go_enter Tryz.func41, Tryz.ntmps41
    go_wp2
    go_ret
    exact ⟨rfl, rfl⟩
theorem rkind_any (k : Int) (w : World) : Calls Tryz.prog 63 #[.int .i64 k] w fun e w' => e = .returned (.string ⟨(kindW k).toArray⟩) ∧ w' = w := by
  by_cases h1 : k = 1
  · subst h1
    go_enter Tryz.func63, Tryz.ntmps63
    go_wp2
    go_ret
    exact ⟨rfl, rfl⟩
  by_cases h2 : k = 2
  · subst h2
    go_enter Tryz.func63, Tryz.ntmps63
    go_wp2
    go_ret
    exact ⟨rfl, rfl⟩
  by_cases h3 : k = 3
  · subst h3
    go_enter Tryz.func63, Tryz.ntmps63
    go_wp2
    go_ret
    exact ⟨rfl, rfl⟩
  · have e1 : (k == 1) = false := by simp [h1]
    have e2 : (k == 2) = false := by simp [h2]
    have e3 : (k == 3) = false := by simp [h3]
    rw [kindW_no h1 h2 h3]
    go_enter Tryz.func63, Tryz.ntmps63
    go_wp2
    go_ret
    exact ⟨rfl, rfl⟩
set_option maxRecDepth 100000 in
theorem typeOf_any (s : List UInt8) (w : World) : Calls Tryz.prog 39 #[.string ⟨s.toArray⟩] w fun e w' => e = .returned (.tuple #[.int .i64 (kindOf s), .bool (decide (kindOf s ≠ 0))]) ∧ w' = w := by
  go_enter Tryz.func39, Tryz.ntmps39
  go_wp2
  go_loopw [4] (fun i wr => ∃ k : Nat, 1 ≤ k ∧ k ≤ 4 ∧ i = .int .i64 k ∧ Hid (∀ j : Nat, 1 ≤ j → j < k → kindW j ≠ s) ∧ wr = w) (fun i _ => 4 - (intOf i).toNat)
  case atStart => exact ⟨1, by omega, by omega, rfl, hid (fun j h1 h2 => by omega), rfl⟩
  case round =>
    obtain ⟨k, h1, h4, rfl, HJ, rfl⟩ := hrel
    by_cases hlt : k ≤ 3
    · have hT := typeWord_any (k : Int)
      by_cases he : kindW k = s
      · have hk : kindOf s = k ∧ kindOf s ≠ 0 := by
          rw [← he]
          have : k = 1 ∨ k = 2 ∨ k = 3 := by omega
          rcases this with rfl | rfl | rfl <;> decide
        have HK := hid hk
        rw [he] at hT
        clear HJ hk he
        go_wp2_with (go_at_call 41; refine (hT _).mono ?_; rintro e w' ⟨rfl, hw'⟩; subst hw')
        go_ret2
        exact ⟨by rw [decide_eq_true HK.out.2, HK.out.1]; rfl, rfl⟩
      · have HJ' : Hid (∀ j : Nat, 1 ≤ j → j < k + 1 → kindW j ≠ s) := hid (fun j a b => by
          rcases Nat.lt_or_ge j k with h | h
          · exact HJ.out j a h
          · obtain rfl : j = k := by omega
            exact he)
        have q : (kindW k == s) = false := by simp [he]
        generalize kindW k = x at hT q
        clear HJ he
        go_wp2_with (go_at_call 41; refine (hT _).mono ?_; rintro e w' ⟨rfl, hw'⟩; subst hw')
        exact ⟨⟨k + 1, by omega, by omega, by go_num, HJ', trivial⟩, by simp [intOf]; omega⟩
    · have H0 : Hid (kindOf s = 0) := hid (by
        have a1 := HJ.out 1 (by omega) (by omega)
        have a2 := HJ.out 2 (by omega) (by omega)
        have a3 := HJ.out 3 (by omega) (by omega)
        unfold kindOf
        rw [if_neg (fun e => a1 (by rw [e]; decide)), if_neg (fun e => a2 (by rw [e]; decide)), if_neg (fun e => a3 (by rw [e]; decide))])
      clear HJ
      go_wp2
      go_ret2
      exact ⟨by rw [H0.out]; rfl, rfl⟩
end Go.Proofs.YtbjipcpoiiegkaaGreatDoor
namespace Go.Proofs.YtbjipcpoiiegkaaGreatDoor
open Go.RowKit
def rowOk (ns : List Int) : Bool := ns.all fun k => decide (kindW k ≠ [])
def rowW (ns : List Int) : List UInt8 := ns.flatMap fun k => 32 :: kindW k
def rowS (ns : List Int) : List UInt8 := if rowOk ns = true then rowW ns else []
theorem kindW_len (k : Int) : (kindW k).length ≤ 5 := by
  unfold kindW
  split
  · decide
  split
  · decide
  split
  · decide
  · decide
theorem rowW_len (ns : List Int) : (rowW ns).length ≤ 6 * ns.length := by
  induction ns with
  | nil => simp [rowW]
  | cons x r ih =>
    have := kindW_len x
    unfold rowW at ih ⊢
    simp only [List.flatMap_cons, List.length_append, List.length_cons]
    omega
theorem rowW_snoc (ns : List Int) (k : Nat) (h : k < ns.length) : rowW (ns.take (k + 1)) = rowW (ns.take k) ++ 32 :: kindW ns[k] := by
  unfold rowW
  rw [List.take_add_one, List.getElem?_eq_getElem h]
  show List.flatMap _ (ns.take k ++ [ns[k]]) = _
  rw [List.flatMap_append, List.flatMap_cons, List.flatMap_nil, List.append_nil]
theorem ba_append (a b : List UInt8) : (⟨a.toArray⟩ : ByteArray) ++ ⟨b.toArray⟩ = ⟨(a ++ b).toArray⟩ := by
  apply ByteArray.ext
  simp
theorem ba_three (a b : List UInt8) : (⟨a.toArray⟩ : ByteArray) ++ ⟨#[32]⟩ ++ ⟨b.toArray⟩ = ⟨(a ++ 32 :: b).toArray⟩ := by
  apply ByteArray.ext
  simp
set_option maxRecDepth 100000 in
set_option maxHeartbeats 1000000 in
theorem rrow_any (a : Option Addr) (n c : Nat) (ns : List Int) (hn : ns.length = n) (w : World) (hN : NsAt w.cell? a ns) (hl : n ≤ 1048576) : Calls Tryz.prog 42 #[.slice a n c] w fun e w' => e = .returned (.tuple #[.string ⟨(rowS ns).toArray⟩, .bool (rowOk ns)]) ∧ Below w.heap.size w w' := by
  go_enter Tryz.func42, Tryz.ntmps42
  go_wp2
  go_loopw [4, 5] (fun s i wr => ∃ k : Nat, k ≤ n ∧ i = .int .i64 k ∧ s = .string ⟨(rowW (ns.take k)).toArray⟩ ∧ Hid (rowOk (ns.take k) = true) ∧ Below w.heap.size w wr) (fun _ i _ => n - (intOf i).toNat)
  case atStart => exact ⟨0, Nat.zero_le _, rfl, rfl, hid rfl, Below.refl _ _⟩
  case round =>
    obtain ⟨k, hk, rfl, rfl, HO, hb⟩ := hrel
    by_cases hlt : k < n
    · rcases hN with h0 | ⟨b, off, hao, hc⟩
      · subst h0; simp at hn; omega
      subst hao
      have kl : k < ns.length := by omega
      have q0 := below_keep hb _ _ (hc k kl)
      have HS := hid (rowW_snoc ns k kl)
      have hlen := rowW_len (ns.take k)
      rw [List.length_take] at hlen
      have hT := rkind_any ns[k]
      have HA : Hid (rowOk (ns.take (k + 1)) = (rowOk (ns.take k) && decide (kindW ns[k] ≠ []))) := hid (by unfold rowOk; rw [List.take_add_one, List.getElem?_eq_getElem kl]; show List.all (ns.take k ++ [ns[k]]) _ = _; rw [List.all_append]; simp)
      have HNo : Hid (kindW ns[k] = [] → rowOk ns = false) := hid (fun h => by
        unfold rowOk
        rw [List.all_eq_false]
        exact ⟨ns[k], by simp, by simp [h]⟩)
      have hkl := kindW_len ns[k]
      generalize ns[k] = x at q0 HS hT HA HNo hkl
      generalize rowW (ns.take k) = ys at HS hlen ⊢
      by_cases he : kindW x = []
      · rw [he] at hT
        have H1 := hid (HNo.out he)
        clear HNo HA HS hc
        go_wp2_with (go_at_call 63; refine (hT _).mono ?_; rintro e w' ⟨rfl, hw'⟩; subst hw')
        go_ret2
        exact ⟨by unfold rowS; rw [H1.out]; rfl, hb⟩
      · have H1 : Hid (rowOk (ns.take (k + 1)) = true) := hid (by rw [HA.out, HO.out, decide_eq_true he]; rfl)
        have q : (kindW x == []) = false := by simp [he]
        generalize kindW x = kw at hT HS q hkl
        clear HNo HA HO hc he
        go_wp2_with (go_at_call 63; refine (hT _).mono ?_; rintro e w' ⟨rfl, hw'⟩; subst hw')
        refine ⟨⟨k + 1, by omega, by go_num, ?_, H1, hb⟩, by simp [intOf]; omega⟩
        rw [HS.out, ba_three]
    · have htk : ns.take k = ns := List.take_of_length_le (by omega)
      rw [htk] at HO ⊢
      have H1 : Hid (rowS ns = rowW ns) := hid (by unfold rowS; rw [HO.out]; rfl)
      go_wp2
      go_ret2
      exact ⟨by rw [H1.out, HO.out]; rfl, hb⟩
/-- A function's head; none, if a type is none. -/
def headOk (f : Fn) : Bool := rowOk f.p && rowOk f.r && rowOk f.l
def headW (f : Fn) : List UInt8 := [102, 117, 110, 99] ++ rowW f.p ++ [32, 45, 62] ++ rowW f.r ++ [32, 59] ++ rowW f.l
def headS (f : Fn) : List UInt8 := if headOk f = true then headW f else []
theorem ba_head (a b c : List UInt8) : (⟨#[102, 117, 110, 99]⟩ : ByteArray) ++ ⟨a.toArray⟩ ++ ⟨#[32, 45, 62]⟩ ++ ⟨b.toArray⟩ ++ ⟨#[32, 59]⟩ ++ ⟨c.toArray⟩ = ⟨([102, 117, 110, 99] ++ a ++ [32, 45, 62] ++ b ++ [32, 59] ++ c).toArray⟩ := by
  apply ByteArray.ext
  simp
set_option maxRecDepth 100000 in
set_option maxHeartbeats 1000000 in
theorem rhead_any (f : Fn) (v0 v1 v2 v3 : Value) (w : World) (hf : FnIs w.cell? f v0 v1 v2 v3) (hb : f.p.length ≤ 1048576 ∧ f.r.length ≤ 1048576 ∧ f.l.length ≤ 1048576) : Calls Tryz.prog 17 #[.agg #[v0, v1, v2, v3]] w fun e w' => e = .returned (.string ⟨(headS f).toArray⟩) ∧ Below w.heap.size w w' := by
  obtain ⟨⟨a0, c0, rfl, F0⟩, ⟨a1, c1, rfl, F1⟩, ⟨a2, c2, rfl, F2⟩, ⟨a3, c3, rfl, F3⟩⟩ := hf
  have h0 : ∀ W, Below w.heap.size w W → _ := fun W hW => rrow_any a0 _ c0 f.p rfl W (F0.keep (below_keep hW)) hb.1
  have h1 : ∀ W, Below w.heap.size w W → _ := fun W hW => rrow_any a1 _ c1 f.r rfl W (F1.keep (below_keep hW)) hb.2.1
  have h2 : ∀ W, Below w.heap.size w W → _ := fun W hW => rrow_any a2 _ c2 f.l rfl W (F2.keep (below_keep hW)) hb.2.2
  have HH : Hid (headS f = if (rowOk f.p && rowOk f.r && rowOk f.l) = true then [102, 117, 110, 99] ++ rowS f.p ++ [32, 45, 62] ++ rowS f.r ++ [32, 59] ++ rowS f.l else []) := hid (by
    unfold headS headOk
    cases e0 : rowOk f.p <;> cases e1 : rowOk f.r <;> cases e2 : rowOk f.l <;> simp [rowS, headW, e0, e1, e2])
  have l0 : (rowS f.p).length ≤ 6 * 1048576 := by unfold rowS; split; exact Nat.le_trans (rowW_len _) (by omega); simp
  have l1 : (rowS f.r).length ≤ 6 * 1048576 := by unfold rowS; split; exact Nat.le_trans (rowW_len _) (by omega); simp
  have l2 : (rowS f.l).length ≤ 6 * 1048576 := by unfold rowS; split; exact Nat.le_trans (rowW_len _) (by omega); simp
  generalize rowS f.p = s0 at *
  generalize rowS f.r = s1 at *
  generalize rowS f.l = s2 at *
  generalize rowOk f.p = o0 at *
  generalize rowOk f.r = o1 at *
  generalize rowOk f.l = o2 at *
  generalize f.p.length = n0 at *
  generalize f.r.length = n1 at *
  generalize f.l.length = n2 at *
  generalize f.code.length = n3 at *
  obtain ⟨W2, hW2⟩ : ∃ W2, W2 = w.alloc (.cells #[.slice a0 n0 c0, .slice a1 n1 c1, .slice a2 n2 c2, .slice a3 n3 c3] 32) := ⟨_, rfl⟩
  have hb2 : Below w.heap.size w W2 := by rw [hW2]; exact (Below.refl _ w).alloc (Nat.le_refl _) _
  have bA : W2.heap[w.heap.size]? = some (.cells #[.slice a0 n0 c0, .slice a1 n1 c1, .slice a2 n2 c2, .slice a3 n3 c3] 32 (0, 0)) := by rw [hW2]; exact heap_alloc_new w _
  have box : ∀ W, Below W2.heap.size W2 W → W.cell? ⟨w.heap.size, 0, none⟩ = some (.slice a0 n0 c0) ∧ W.cell? ⟨w.heap.size, 1, none⟩ = some (.slice a1 n1 c1) ∧ W.cell? ⟨w.heap.size, 2, none⟩ = some (.slice a2 n2 c2) := fun W hW => by
    have e := (hW.block _ (lt_of_block bA)).trans bA
    exact ⟨by rw [Lib.cell_of_heap e]; rfl, by rw [Lib.cell_of_heap e]; rfl, by rw [Lib.cell_of_heap e]; rfl⟩
  have lift : ∀ W, Below W2.heap.size W2 W → Below w.heap.size w W := fun W h => hb2.trans (h.mono hb2.size)
  have u0 := h0 W2 hb2
  clear h0
  have key : ∀ (p q r : Bool) , (p && q && r) = true → p = true ∧ q = true ∧ r = true := fun p q r h => by cases p <;> cases q <;> cases r <;> simp at h ⊢
  go_enter Tryz.func17, Tryz.ntmps17
  go_wp2_with fail
  rw [← hW2]
  clear hW2
  refine u0.mono ?_
  rintro e w3 ⟨rfl, hb3⟩
  obtain ⟨p0, p1, p2⟩ := box w3 hb3
  have u1 := h1 w3 (lift _ hb3)
  clear h1 u0
  go_wp2_with fail
  refine u1.mono ?_
  rintro e w4 ⟨rfl, hb4'⟩
  have hb4 := hb3.trans (hb4'.mono hb3.size)
  obtain ⟨q0, q1, q2⟩ := box w4 hb4
  have u2 := h2 w4 (lift _ hb4)
  clear h2 u1
  go_wp2_with fail
  refine u2.mono ?_
  rintro e w5 ⟨rfl, hb5'⟩
  have hb5 := hb4.trans (hb5'.mono hb4.size)
  clear u2
  cases o0 with
  | false =>
    go_wp2_with fail
    go_ret
    exact ⟨by rw [HH.out]; rfl, lift _ hb5⟩
  | true =>
    cases o1 with
    | false =>
      go_wp2_with fail
      go_ret
      exact ⟨by rw [HH.out]; rfl, lift _ hb5⟩
    | true =>
      cases o2 with
      | false =>
        go_wp2_with fail
        go_ret
        exact ⟨by rw [HH.out]; rfl, lift _ hb5⟩
      | true =>
        go_wp2_with fail
        go_ret
        refine ⟨?_, lift _ hb5⟩
        rw [HH.out, ba_head]
        rfl
end Go.Proofs.YtbjipcpoiiegkaaGreatDoor
