/- The document's Name, Takes. The document's types, instr, rightFunc, Right. -/
import Derived.Test.YtodagpmcmjleaaaGreatXM
import Derived.Deep.RegionWith
namespace Go.Proofs.YtodagpmcmjleaaaGreat
open Go.RowKit
theorem cell_name4 (w : World) (k : Nat) (hk : k < 54) : (w.alloc (.cells #[.string ⟨#[]⟩, .string ⟨#[105, 110, 116]⟩, .string ⟨#[99, 111, 110, 115, 116]⟩, .string ⟨#[116, 114, 117, 101]⟩, .string ⟨#[102, 97, 108, 115, 101]⟩, .string ⟨#[100, 114, 111, 112]⟩, .string ⟨#[100, 117, 112]⟩, .string ⟨#[115, 119, 97, 112]⟩, .string ⟨#[111, 118, 101, 114]⟩, .string ⟨#[103, 101, 116]⟩, .string ⟨#[115, 101, 116]⟩, .string ⟨#[97, 100, 100]⟩, .string ⟨#[115, 117, 98]⟩, .string ⟨#[109, 117, 108]⟩, .string ⟨#[100, 105, 118]⟩, .string ⟨#[114, 101, 109]⟩, .string ⟨#[110, 101, 103]⟩, .string ⟨#[97, 110, 100]⟩, .string ⟨#[111, 114]⟩, .string ⟨#[120, 111, 114]⟩, .string ⟨#[105, 110, 118]⟩, .string ⟨#[115, 104, 108]⟩, .string ⟨#[115, 104, 114]⟩, .string ⟨#[101, 113]⟩, .string ⟨#[110, 101]⟩, .string ⟨#[108, 116]⟩, .string ⟨#[108, 101]⟩, .string ⟨#[103, 116]⟩, .string ⟨#[103, 101]⟩, .string ⟨#[98, 111, 116, 104]⟩, .string ⟨#[101, 105, 116, 104, 101, 114]⟩, .string ⟨#[110, 111, 116]⟩, .string ⟨#[108, 101, 110]⟩, .string ⟨#[106, 111, 105, 110]⟩, .string ⟨#[99, 117, 116]⟩, .string ⟨#[97, 116]⟩, .string ⟨#[115, 97, 109, 101]⟩, .string ⟨#[108, 101, 115, 115]⟩, .string ⟨#[112, 97, 99, 107]⟩, .string ⟨#[117, 110, 112, 97, 99, 107]⟩, .string ⟨#[111, 110, 101]⟩, .string ⟨#[108, 111, 97, 100]⟩, .string ⟨#[104, 97, 115]⟩, .string ⟨#[115, 97, 118, 101]⟩, .string ⟨#[119, 105, 112, 101]⟩, .string ⟨#[110, 101, 120, 116]⟩, .string ⟨#[101, 109, 105, 116]⟩, .string ⟨#[97, 98, 111, 114, 116]⟩, .string ⟨#[105, 102]⟩, .string ⟨#[101, 108, 115, 101]⟩, .string ⟨#[101, 110, 100]⟩, .string ⟨#[108, 111, 111, 112]⟩, .string ⟨#[108, 101, 97, 118, 101]⟩, .string ⟨#[99, 97, 108, 108]⟩] 9)).cell? ⟨w.heap.size, k, none⟩ = some (.string ⟨(nameTab.getD k []).toArray⟩) := by
  rw [cell_of_row _ _ k _ _ (0, 0) (heap_alloc_new w _)]
  have e : (#[.string ⟨#[]⟩, .string ⟨#[105, 110, 116]⟩, .string ⟨#[99, 111, 110, 115, 116]⟩, .string ⟨#[116, 114, 117, 101]⟩, .string ⟨#[102, 97, 108, 115, 101]⟩, .string ⟨#[100, 114, 111, 112]⟩, .string ⟨#[100, 117, 112]⟩, .string ⟨#[115, 119, 97, 112]⟩, .string ⟨#[111, 118, 101, 114]⟩, .string ⟨#[103, 101, 116]⟩, .string ⟨#[115, 101, 116]⟩, .string ⟨#[97, 100, 100]⟩, .string ⟨#[115, 117, 98]⟩, .string ⟨#[109, 117, 108]⟩, .string ⟨#[100, 105, 118]⟩, .string ⟨#[114, 101, 109]⟩, .string ⟨#[110, 101, 103]⟩, .string ⟨#[97, 110, 100]⟩, .string ⟨#[111, 114]⟩, .string ⟨#[120, 111, 114]⟩, .string ⟨#[105, 110, 118]⟩, .string ⟨#[115, 104, 108]⟩, .string ⟨#[115, 104, 114]⟩, .string ⟨#[101, 113]⟩, .string ⟨#[110, 101]⟩, .string ⟨#[108, 116]⟩, .string ⟨#[108, 101]⟩, .string ⟨#[103, 116]⟩, .string ⟨#[103, 101]⟩, .string ⟨#[98, 111, 116, 104]⟩, .string ⟨#[101, 105, 116, 104, 101, 114]⟩, .string ⟨#[110, 111, 116]⟩, .string ⟨#[108, 101, 110]⟩, .string ⟨#[106, 111, 105, 110]⟩, .string ⟨#[99, 117, 116]⟩, .string ⟨#[97, 116]⟩, .string ⟨#[115, 97, 109, 101]⟩, .string ⟨#[108, 101, 115, 115]⟩, .string ⟨#[112, 97, 99, 107]⟩, .string ⟨#[117, 110, 112, 97, 99, 107]⟩, .string ⟨#[111, 110, 101]⟩, .string ⟨#[108, 111, 97, 100]⟩, .string ⟨#[104, 97, 115]⟩, .string ⟨#[115, 97, 118, 101]⟩, .string ⟨#[119, 105, 112, 101]⟩, .string ⟨#[110, 101, 120, 116]⟩, .string ⟨#[101, 109, 105, 116]⟩, .string ⟨#[97, 98, 111, 114, 116]⟩, .string ⟨#[105, 102]⟩, .string ⟨#[101, 108, 115, 101]⟩, .string ⟨#[101, 110, 100]⟩, .string ⟨#[108, 111, 111, 112]⟩, .string ⟨#[108, 101, 97, 118, 101]⟩, .string ⟨#[99, 97, 108, 108]⟩] : Array Value) = (nameTab.map fun x => .string ⟨x.toArray⟩).toArray := rfl
  rw [e]
  have hl : k < nameTab.length := hk
  simp [List.getD, hl]
set_option maxHeartbeats 1000000 in
theorem rname4 (n : Int) (w : World) : Calls Tryz.prog 79 #[.int .i64 n] w fun e w' => e = .returned (.string ⟨(nameT n).toArray⟩) ∧ Below w.heap.size w w' := by
  by_cases h1 : n < 1
  · rw [show nameT n = [] from rowOf_none _ _ n (.inl h1)]
    go_enter Tryz.func79, Tryz.ntmps79
    go_wp2
    go_ret
    exact ⟨rfl, (Below.refl _ w).alloc (Nat.le_refl _) _⟩
  by_cases h2 : 53 < n
  · rw [show nameT n = [] from rowOf_none _ _ n (.inr h2)]
    go_enter Tryz.func79, Tryz.ntmps79
    go_wp2
    go_ret
    exact ⟨rfl, (Below.refl _ w).alloc (Nat.le_refl _) _⟩
  obtain ⟨k, rfl⟩ : ∃ k : Nat, n = k := ⟨n.toNat, by omega⟩
  have hk : k < 54 := by omega
  have hc := cell_name4 w k hk
  rw [show nameT k = nameTab.getD k [] from by unfold nameT rowOf; rw [if_pos (by omega)]; simp]
  generalize nameTab.getD k [] = r at *
  go_enter Tryz.func79, Tryz.ntmps79
  go_wp2
  go_ret
  exact ⟨rfl, (Below.refl _ w).alloc (Nat.le_refl _) _⟩
set_option maxHeartbeats 1000000 in
theorem rtakes_of4 (n t : Int) (r : List UInt8) (w : World) (hN : Calls Tryz.prog 79 #[.int .i64 n] w fun e w' => e = .returned (.string ⟨r.toArray⟩) ∧ Below w.heap.size w w') (hr : (r = [105, 110, 116] ∧ t = 1) ∨ (r = [99, 111, 110, 115, 116] ∧ t = 2) ∨ (r = [103, 101, 116] ∧ t = 3) ∨ (r = [115, 101, 116] ∧ t = 3) ∨ (r = [108, 111, 111, 112] ∧ t = 4) ∨ (r = [99, 97, 108, 108] ∧ t = 5) ∨ (t = 0 ∧ r ≠ [105, 110, 116] ∧ r ≠ [99, 111, 110, 115, 116] ∧ r ≠ [103, 101, 116] ∧ r ≠ [115, 101, 116] ∧ r ≠ [108, 111, 111, 112] ∧ r ≠ [99, 97, 108, 108])) : Calls Tryz.prog 70 #[.int .i64 n] w fun e w' => e = .returned (.int .i64 t) ∧ Below w.heap.size w w' := by
  rcases hr with ⟨rfl, rfl⟩ | ⟨rfl, rfl⟩ | ⟨rfl, rfl⟩ | ⟨rfl, rfl⟩ | ⟨rfl, rfl⟩ | ⟨rfl, rfl⟩ | ⟨rfl, h1, h2, h3, h4, h5, h6⟩
  iterate 6
    · as_aux_lemma =>
      go_enter Tryz.func70, Tryz.ntmps70
      go_wp2_with (go_at_call 79; refine hN.mono ?_; rintro e w2 ⟨rfl, hb2⟩)
      go_ret
      exact ⟨rfl, hb2⟩
  · rw [← beq_eq_false_iff_ne] at h1 h2 h3 h4 h5 h6
    go_enter Tryz.func70, Tryz.ntmps70
    go_wp2_with (go_at_call 79; refine hN.mono ?_; rintro e w2 ⟨rfl, hb2⟩)
    go_ret
    exact ⟨rfl, hb2⟩
theorem rtakes4 (n : Int) (w : World) : Calls Tryz.prog 70 #[.int .i64 n] w fun e w' => e = .returned (.int .i64 (takesT n)) ∧ Below w.heap.size w w' := by
  refine rtakes_of4 n _ _ w (rname4 n w) ?_
  by_cases h : n < 1 ∨ 53 < n
  · rw [show takesT n = 0 from rowOf_none _ _ n h, show nameT n = [] from rowOf_none _ _ n h]
    simp
  · obtain ⟨k, rfl⟩ : ∃ k : Nat, n = k := ⟨n.toNat, by omega⟩
    have hk : k < 54 := by omega
    have ht : takesT k = takesTab.getD k 0 := by unfold takesT rowOf; rw [if_pos (by omega)]; simp
    have hm : nameT k = nameTab.getD k [] := by unfold nameT rowOf; rw [if_pos (by omega)]; simp
    rw [ht, hm]
    have H : ∀ k : Fin 54, k.1 = 0 ∨ ((nameTab.getD k.1 [] = [105, 110, 116] ∧ takesTab.getD k.1 0 = 1) ∨ (nameTab.getD k.1 [] = [99, 111, 110, 115, 116] ∧ takesTab.getD k.1 0 = 2) ∨ (nameTab.getD k.1 [] = [103, 101, 116] ∧ takesTab.getD k.1 0 = 3) ∨ (nameTab.getD k.1 [] = [115, 101, 116] ∧ takesTab.getD k.1 0 = 3) ∨ (nameTab.getD k.1 [] = [108, 111, 111, 112] ∧ takesTab.getD k.1 0 = 4) ∨ (nameTab.getD k.1 [] = [99, 97, 108, 108] ∧ takesTab.getD k.1 0 = 5) ∨ (takesTab.getD k.1 0 = 0 ∧ nameTab.getD k.1 [] ≠ [105, 110, 116] ∧ nameTab.getD k.1 [] ≠ [99, 111, 110, 115, 116] ∧ nameTab.getD k.1 [] ≠ [103, 101, 116] ∧ nameTab.getD k.1 [] ≠ [115, 101, 116] ∧ nameTab.getD k.1 [] ≠ [108, 111, 111, 112] ∧ nameTab.getD k.1 [] ≠ [99, 97, 108, 108])) := by decide +kernel
    rcases H ⟨k, hk⟩ with h0 | h0
    · simp only at h0; omega
    · exact h0
theorem takes_same (n : Int) : takesT n = takesN n := by
  unfold takesT rowOf
  by_cases h : 1 ≤ n ∧ n ≤ 53
  · rw [if_pos h]
    have H : ∀ k : Fin 54, takesTab.getD k.1 0 = takesN (k.1 : Int) := by decide +kernel
    have := H ⟨n.toNat, by omega⟩
    simp only at this
    rw [this, show ((n.toNat : Nat) : Int) = n by omega]
  · rw [if_neg h]
    unfold takesN
    rw [if_neg (by omega), if_neg (by omega), if_neg (by omega), if_neg (by omega), if_neg (by omega), if_neg (by omega)]
end Go.Proofs.YtodagpmcmjleaaaGreat
namespace Go.Proofs.YtodagpmcmjleaaaGreat
open Go.RowKit
set_option maxRecDepth 100000 in
set_option maxHeartbeats 1000000 in
theorem rtypes_any (a : Option Addr) (c n : Nat) (ns : List Int) (most : Int) (hn : ns.length = n) (w : World) (ha : NsAt w.cell? a ns) (hl : n ≤ 17592186044416) : Calls Tryz.prog 57 #[.slice a n c, .int .i64 most] w fun e w' => e = .returned (.bool (ns.all kindOk && decide ((n : Int) ≤ most))) ∧ w' = w := by
  go_enter Tryz.func57, Tryz.ntmps57
  go_wp2
  go_loopw [5] (fun i wr => ∃ k : Nat, k ≤ n ∧ i = .int .i64 k ∧ Hid (∀ (j : Nat) (h : j < ns.length), j < k → kindOk ns[j] = true) ∧ wr = w) (fun i _ => n - (intOf i).toNat)
  case atStart => exact ⟨0, Nat.zero_le _, rfl, hid (by omega), rfl⟩
  case round =>
    obtain ⟨k, hk, rfl, hr, rfl⟩ := hrel
    by_cases hlt : k < n
    · rcases ha with h0 | ⟨b0, off0, rfl, hc0⟩
      · subst h0; simp at hn; omega
      have kl : k < ns.length := by omega
      have c0 := hc0 k kl
      have HS : Hid (kindOk ns[k] = false → (ns.all kindOk && decide ((n : Int) ≤ most)) = false) := hid fun h => by rw [all_stop kl h]; rfl
      have HT : Hid (kindOk ns[k] = true → ∀ (j : Nat) (h : j < ns.length), j < k + 1 → kindOk ns[j] = true) := hid fun h j h1 hjk => by
        rcases Nat.lt_or_ge j k with h3 | h3
        · exact hr.out j h1 h3
        · obtain rfl : j = k := by omega
          exact h
      generalize ns[k] = y at c0 HS HT
      clear hc0
      by_cases y1 : 1 ≤ y
      · have y1' : ¬ y < 1 := by omega
        have y1d : decide (y < 1) = false := decide_eq_false y1'
        by_cases y3 : y ≤ 3
        · have HE := hid (HT.out (by simp [kindOk, y1, y3]))
          clear HS HT
          go_wp2
          exact ⟨⟨k + 1, by omega, by go_num, HE, by first | rfl | trivial⟩, by simp [intOf]; omega⟩
        · have y3' : 3 < y := by omega
          have HE := hid (HS.out (by simp [kindOk, y3]))
          clear HS HT
          go_wp2
          go_ret
          exact ⟨by rw [HE.out]; rfl, rfl⟩
      · have y1' : y < 1 := by omega
        have y1d : decide (y < 1) = true := decide_eq_true y1'
        have HE := hid (HS.out (by simp [kindOk, y1]))
        clear HS HT
        go_wp2
        go_ret
        exact ⟨by rw [HE.out]; rfl, rfl⟩
    · have HE : Hid ((ns.all kindOk && decide ((n : Int) ≤ most)) = decide ((n : Int) ≤ most)) := hid (by
        have : ns.all kindOk = true := List.all_eq_true.2 fun z hz => by
          obtain ⟨i, hi, rfl⟩ := List.getElem_of_mem hz
          exact hr.out i hi (by omega)
        rw [this]
        rfl)
      go_wp2
      go_ret
      exact ⟨by rw [HE.out]; rfl, rfl⟩
def insR (nc nf : Nat) (sl : Int) (x : Int × Int) : Bool := decide (1 ≤ x.1) && decide (x.1 ≤ 53) && (if takesN x.1 = 1 then true else if takesN x.1 = 2 then decide (0 ≤ x.2) && decide (x.2 < (nc : Int)) else if takesN x.1 = 3 then decide (0 ≤ x.2) && decide (x.2 < sl) else if takesN x.1 = 4 then decide (1 ≤ x.2) && decide (x.2 ≤ 64) else if takesN x.1 = 5 then decide (0 ≤ x.2) && decide (x.2 < (nf : Int)) else decide (x.2 = 0))
theorem insR_same (nc nf sl : Nat) (x : Int × Int) (h0 : -9223372036854775808 ≤ x.2) (h1 : x.2 ≤ 9223372036854775807) : insR nc nf sl x = insOk nc nf sl x := by
  unfold insR insOk boundsN
  by_cases t1 : takesN x.1 = 1
  · simp [t1, h0, h1]
  by_cases t2 : takesN x.1 = 2
  · simp [t2, Int.le_sub_one_iff, Bool.and_assoc]
  by_cases t3 : takesN x.1 = 3
  · simp [t3, Int.le_sub_one_iff, Bool.and_assoc]
  by_cases t4 : takesN x.1 = 4
  · simp [t4, Bool.and_assoc]
  by_cases t5 : takesN x.1 = 5
  · simp [t5, Int.le_sub_one_iff, Bool.and_assoc]
  · simp only [t1, t2, t3, t4, t5, if_false]
    by_cases h : x.2 = 0
    · simp [h]
    · have : (decide (0 ≤ x.2) && decide (x.2 ≤ 0)) = false := by
        cases hh : (decide (0 ≤ x.2) && decide (x.2 ≤ 0)) with
        | false => rfl
        | true => simp at hh; omega
      rw [decide_eq_false h, Bool.and_assoc (decide (1 ≤ x.1) && decide (x.1 ≤ 53)), this]
set_option maxRecDepth 100000 in
set_option maxHeartbeats 1000000 in
theorem rinstr_any (s : Scr) (V0 V1 : Value) (sl : Int) (xo xa : Int) (w : World) (hs : ScIs w.cell? s V0 V1) (hsf : s.fits) : Calls Tryz.prog 58 #[.agg #[V0, V1], .int .i64 sl, .agg #[.int .i64 xo, .int .i64 xa]] w fun e w' => e = .returned (.bool (insR s.consts.length s.funcs.length sl (xo, xa))) ∧ Below w.heap.size w w' := by
  obtain ⟨⟨A0, C0, rfl, _⟩, ⟨A1, C1, rfl, _⟩⟩ := hs
  have z0 := hsf.1
  have z1 := hsf.2.1
  clear hsf
  generalize s.consts.length = nc at *
  generalize s.funcs.length = nf at *
  have hT := fun W => rtakes4 xo W
  rw [takes_same] at hT
  have HI : Hid (insR nc nf sl (xo, xa) = (decide (1 ≤ xo) && decide (xo ≤ 53) && (if takesN xo = 1 then true else if takesN xo = 2 then decide (0 ≤ xa) && decide (xa < (nc : Int)) else if takesN xo = 3 then decide (0 ≤ xa) && decide (xa < sl) else if takesN xo = 4 then decide (1 ≤ xa) && decide (xa ≤ 64) else if takesN xo = 5 then decide (0 ≤ xa) && decide (xa < (nf : Int)) else decide (xa = 0)))) := hid rfl
  generalize takesN xo = tk at hT HI
  have hb : ∀ (X Y : Obj), Below w.heap.size w ((w.alloc X).alloc Y) := fun X Y => ((Below.refl _ w).alloc (Nat.le_refl _) _).alloc (by simp) _
  obtain ⟨W2, hW2⟩ : ∃ W2, W2 = (w.alloc (.cells #[.slice A0 nc C0, .slice A1 nf C1] 25)).alloc (.cells #[.int .i64 xo, .int .i64 xa] 49) := ⟨_, rfl⟩
  have hb2 : Below w.heap.size w W2 := by rw [hW2]; exact hb _ _
  have bA : W2.heap[w.heap.size]? = some (.cells #[.slice A0 nc C0, .slice A1 nf C1] 25 (0, 0)) := by rw [hW2, Below.heap_alloc _ _ _ (by simp)]; exact heap_alloc_new w _
  have bB : W2.heap[w.heap.size + 1]? = some (.cells #[.int .i64 xo, .int .i64 xa] 49 (0, 0)) := by
    have := heap_alloc_new (w.alloc (.cells #[.slice A0 nc C0, .slice A1 nf C1] 25)) (.cells #[.int .i64 xo, .int .i64 xa] 49)
    rw [hW2]; simpa using this
  have lA := (Array.getElem?_eq_some_iff.1 bA).1
  have lB := (Array.getElem?_eq_some_iff.1 bB).1
  by_cases hok : 1 ≤ xo ∧ xo ≤ 53
  · obtain ⟨o1, o2⟩ := hok
    rw [decide_eq_true o1, decide_eq_true o2] at HI
    simp only [Bool.and_true, Bool.true_and] at HI
    by_cases t1 : tk = 1
    · subst t1
      have HE : Hid (insR nc nf sl (xo, xa) = true) := hid (by rw [HI.out]; rfl)
      clear HI
      go_enter Tryz.func58, Tryz.ntmps58
      go_wp2_with (go_at_call 70; refine (hT _).mono ?_; rintro e w3 ⟨rfl, hb3⟩; rw [← hW2] at hb3; have eA := (hb3.block _ lA).trans bA; have eB := (hb3.block _ lB).trans bB; have s0 : w3.cell? ⟨w.heap.size, 0, none⟩ = some (.slice A0 nc C0) := (by rw [Lib.cell_of_heap eA]; rfl); have s1 : w3.cell? ⟨w.heap.size, 1, none⟩ = some (.slice A1 nf C1) := (by rw [Lib.cell_of_heap eA]; rfl); have x1 : w3.cell? ⟨w.heap.size + 1, 1, none⟩ = some (.int .i64 xa) := (by rw [Lib.cell_of_heap eB]; rfl); have hbw := hb2.trans (hb3.mono hb2.size); clear hT hW2)
      go_ret
      exact ⟨by rw [HE.out]; rfl, hbw⟩
    by_cases t2 : tk = 2
    · subst t2
      have HE : Hid (insR nc nf sl (xo, xa) = (decide (0 ≤ xa) && decide (xa < (nc : Int)))) := hid (by rw [HI.out]; rfl)
      clear HI
      by_cases q0 : 0 ≤ xa
      · rw [decide_eq_true q0, Bool.true_and] at HE
        go_enter Tryz.func58, Tryz.ntmps58
        go_wp2_with (go_at_call 70; refine (hT _).mono ?_; rintro e w3 ⟨rfl, hb3⟩; rw [← hW2] at hb3; have eA := (hb3.block _ lA).trans bA; have eB := (hb3.block _ lB).trans bB; have s0 : w3.cell? ⟨w.heap.size, 0, none⟩ = some (.slice A0 nc C0) := (by rw [Lib.cell_of_heap eA]; rfl); have s1 : w3.cell? ⟨w.heap.size, 1, none⟩ = some (.slice A1 nf C1) := (by rw [Lib.cell_of_heap eA]; rfl); have x1 : w3.cell? ⟨w.heap.size + 1, 1, none⟩ = some (.int .i64 xa) := (by rw [Lib.cell_of_heap eB]; rfl); have hbw := hb2.trans (hb3.mono hb2.size); clear hT hW2)
        go_ret
        exact ⟨by rw [HE.out]; rfl, hbw⟩
      · rw [decide_eq_false q0, Bool.false_and] at HE
        go_enter Tryz.func58, Tryz.ntmps58
        go_wp2_with (go_at_call 70; refine (hT _).mono ?_; rintro e w3 ⟨rfl, hb3⟩; rw [← hW2] at hb3; have eA := (hb3.block _ lA).trans bA; have eB := (hb3.block _ lB).trans bB; have s0 : w3.cell? ⟨w.heap.size, 0, none⟩ = some (.slice A0 nc C0) := (by rw [Lib.cell_of_heap eA]; rfl); have s1 : w3.cell? ⟨w.heap.size, 1, none⟩ = some (.slice A1 nf C1) := (by rw [Lib.cell_of_heap eA]; rfl); have x1 : w3.cell? ⟨w.heap.size + 1, 1, none⟩ = some (.int .i64 xa) := (by rw [Lib.cell_of_heap eB]; rfl); have hbw := hb2.trans (hb3.mono hb2.size); clear hT hW2)
        go_ret
        exact ⟨by rw [HE.out]; rfl, hbw⟩
    by_cases t3 : tk = 3
    · subst t3
      have HE : Hid (insR nc nf sl (xo, xa) = (decide (0 ≤ xa) && decide (xa < sl))) := hid (by rw [HI.out]; rfl)
      clear HI
      by_cases q0 : 0 ≤ xa
      · rw [decide_eq_true q0, Bool.true_and] at HE
        go_enter Tryz.func58, Tryz.ntmps58
        go_wp2_with (go_at_call 70; refine (hT _).mono ?_; rintro e w3 ⟨rfl, hb3⟩; rw [← hW2] at hb3; have eA := (hb3.block _ lA).trans bA; have eB := (hb3.block _ lB).trans bB; have s0 : w3.cell? ⟨w.heap.size, 0, none⟩ = some (.slice A0 nc C0) := (by rw [Lib.cell_of_heap eA]; rfl); have s1 : w3.cell? ⟨w.heap.size, 1, none⟩ = some (.slice A1 nf C1) := (by rw [Lib.cell_of_heap eA]; rfl); have x1 : w3.cell? ⟨w.heap.size + 1, 1, none⟩ = some (.int .i64 xa) := (by rw [Lib.cell_of_heap eB]; rfl); have hbw := hb2.trans (hb3.mono hb2.size); clear hT hW2)
        go_ret
        exact ⟨by rw [HE.out]; rfl, hbw⟩
      · rw [decide_eq_false q0, Bool.false_and] at HE
        go_enter Tryz.func58, Tryz.ntmps58
        go_wp2_with (go_at_call 70; refine (hT _).mono ?_; rintro e w3 ⟨rfl, hb3⟩; rw [← hW2] at hb3; have eA := (hb3.block _ lA).trans bA; have eB := (hb3.block _ lB).trans bB; have s0 : w3.cell? ⟨w.heap.size, 0, none⟩ = some (.slice A0 nc C0) := (by rw [Lib.cell_of_heap eA]; rfl); have s1 : w3.cell? ⟨w.heap.size, 1, none⟩ = some (.slice A1 nf C1) := (by rw [Lib.cell_of_heap eA]; rfl); have x1 : w3.cell? ⟨w.heap.size + 1, 1, none⟩ = some (.int .i64 xa) := (by rw [Lib.cell_of_heap eB]; rfl); have hbw := hb2.trans (hb3.mono hb2.size); clear hT hW2)
        go_ret
        exact ⟨by rw [HE.out]; rfl, hbw⟩
    by_cases t4 : tk = 4
    · subst t4
      have HE : Hid (insR nc nf sl (xo, xa) = (decide (1 ≤ xa) && decide (xa ≤ 64))) := hid (by rw [HI.out]; rfl)
      clear HI
      by_cases q0 : 1 ≤ xa
      · rw [decide_eq_true q0, Bool.true_and] at HE
        go_enter Tryz.func58, Tryz.ntmps58
        go_wp2_with (go_at_call 70; refine (hT _).mono ?_; rintro e w3 ⟨rfl, hb3⟩; rw [← hW2] at hb3; have eA := (hb3.block _ lA).trans bA; have eB := (hb3.block _ lB).trans bB; have s0 : w3.cell? ⟨w.heap.size, 0, none⟩ = some (.slice A0 nc C0) := (by rw [Lib.cell_of_heap eA]; rfl); have s1 : w3.cell? ⟨w.heap.size, 1, none⟩ = some (.slice A1 nf C1) := (by rw [Lib.cell_of_heap eA]; rfl); have x1 : w3.cell? ⟨w.heap.size + 1, 1, none⟩ = some (.int .i64 xa) := (by rw [Lib.cell_of_heap eB]; rfl); have hbw := hb2.trans (hb3.mono hb2.size); clear hT hW2)
        go_ret
        exact ⟨by rw [HE.out]; rfl, hbw⟩
      · rw [decide_eq_false q0, Bool.false_and] at HE
        go_enter Tryz.func58, Tryz.ntmps58
        go_wp2_with (go_at_call 70; refine (hT _).mono ?_; rintro e w3 ⟨rfl, hb3⟩; rw [← hW2] at hb3; have eA := (hb3.block _ lA).trans bA; have eB := (hb3.block _ lB).trans bB; have s0 : w3.cell? ⟨w.heap.size, 0, none⟩ = some (.slice A0 nc C0) := (by rw [Lib.cell_of_heap eA]; rfl); have s1 : w3.cell? ⟨w.heap.size, 1, none⟩ = some (.slice A1 nf C1) := (by rw [Lib.cell_of_heap eA]; rfl); have x1 : w3.cell? ⟨w.heap.size + 1, 1, none⟩ = some (.int .i64 xa) := (by rw [Lib.cell_of_heap eB]; rfl); have hbw := hb2.trans (hb3.mono hb2.size); clear hT hW2)
        go_ret
        exact ⟨by rw [HE.out]; rfl, hbw⟩
    by_cases t5 : tk = 5
    · subst t5
      have HE : Hid (insR nc nf sl (xo, xa) = (decide (0 ≤ xa) && decide (xa < (nf : Int)))) := hid (by rw [HI.out]; rfl)
      clear HI
      by_cases q0 : 0 ≤ xa
      · rw [decide_eq_true q0, Bool.true_and] at HE
        go_enter Tryz.func58, Tryz.ntmps58
        go_wp2_with (go_at_call 70; refine (hT _).mono ?_; rintro e w3 ⟨rfl, hb3⟩; rw [← hW2] at hb3; have eA := (hb3.block _ lA).trans bA; have eB := (hb3.block _ lB).trans bB; have s0 : w3.cell? ⟨w.heap.size, 0, none⟩ = some (.slice A0 nc C0) := (by rw [Lib.cell_of_heap eA]; rfl); have s1 : w3.cell? ⟨w.heap.size, 1, none⟩ = some (.slice A1 nf C1) := (by rw [Lib.cell_of_heap eA]; rfl); have x1 : w3.cell? ⟨w.heap.size + 1, 1, none⟩ = some (.int .i64 xa) := (by rw [Lib.cell_of_heap eB]; rfl); have hbw := hb2.trans (hb3.mono hb2.size); clear hT hW2)
        go_ret
        exact ⟨by rw [HE.out]; rfl, hbw⟩
      · rw [decide_eq_false q0, Bool.false_and] at HE
        go_enter Tryz.func58, Tryz.ntmps58
        go_wp2_with (go_at_call 70; refine (hT _).mono ?_; rintro e w3 ⟨rfl, hb3⟩; rw [← hW2] at hb3; have eA := (hb3.block _ lA).trans bA; have eB := (hb3.block _ lB).trans bB; have s0 : w3.cell? ⟨w.heap.size, 0, none⟩ = some (.slice A0 nc C0) := (by rw [Lib.cell_of_heap eA]; rfl); have s1 : w3.cell? ⟨w.heap.size, 1, none⟩ = some (.slice A1 nf C1) := (by rw [Lib.cell_of_heap eA]; rfl); have x1 : w3.cell? ⟨w.heap.size + 1, 1, none⟩ = some (.int .i64 xa) := (by rw [Lib.cell_of_heap eB]; rfl); have hbw := hb2.trans (hb3.mono hb2.size); clear hT hW2)
        go_ret
        exact ⟨by rw [HE.out]; rfl, hbw⟩
    have HE : Hid (insR nc nf sl (xo, xa) = (xa == 0)) := hid (by
      rw [HI.out, if_neg t1, if_neg t2, if_neg t3, if_neg t4, if_neg t5]
      by_cases h : xa = 0 <;> simp [h])
    have e1 : (tk == 1) = false := by simp [t1]
    have e2 : (tk == 2) = false := by simp [t2]
    have e3 : (tk == 3) = false := by simp [t3]
    have e4 : (tk == 4) = false := by simp [t4]
    have e5 : (tk == 5) = false := by simp [t5]
    clear HI
    go_enter Tryz.func58, Tryz.ntmps58
    go_wp2_with (go_at_call 70; refine (hT _).mono ?_; rintro e w3 ⟨rfl, hb3⟩; rw [← hW2] at hb3; have eA := (hb3.block _ lA).trans bA; have eB := (hb3.block _ lB).trans bB; have s0 : w3.cell? ⟨w.heap.size, 0, none⟩ = some (.slice A0 nc C0) := (by rw [Lib.cell_of_heap eA]; rfl); have s1 : w3.cell? ⟨w.heap.size, 1, none⟩ = some (.slice A1 nf C1) := (by rw [Lib.cell_of_heap eA]; rfl); have x1 : w3.cell? ⟨w.heap.size + 1, 1, none⟩ = some (.int .i64 xa) := (by rw [Lib.cell_of_heap eB]; rfl); have hbw := hb2.trans (hb3.mono hb2.size); clear hT hW2)
    go_ret
    exact ⟨by rw [HE.out]; rfl, hbw⟩
  · have HE : Hid (insR nc nf sl (xo, xa) = false) := hid (by
      rw [HI.out]
      have : (decide (1 ≤ xo) && decide (xo ≤ 53)) = false := by
        cases h : (decide (1 ≤ xo) && decide (xo ≤ 53)) with
        | false => rfl
        | true => simp at h; exact absurd h hok
      rw [this]
      rfl)
    clear HI
    by_cases o1 : 1 ≤ xo
    · have o2 : 53 < xo := by omega
      go_enter Tryz.func58, Tryz.ntmps58
      go_wp2_with fail
      go_ret
      exact ⟨by rw [HE.out]; rfl, hb _ _⟩
    · have o1' : xo < 1 := by omega
      go_enter Tryz.func58, Tryz.ntmps58
      go_wp2_with fail
      go_ret
      exact ⟨by rw [HE.out]; rfl, hb _ _⟩
end Go.Proofs.YtodagpmcmjleaaaGreat
