/- Layer 17: which messages and records may be. Layer 17: message.Right, RightRecord. -/
import Derived.Test.YtaonchdpnllhpaaMP
import Derived.Test.YtaonchdpnllhpaaCA
namespace Go.Proofs.Ytaonchdpnllhpaa
open Go.RowKit
/-- Entries lie there. -/
def EsAt (C : Addr → Option Value) (ao : Option Addr) (L : List Ent) : Prop := L = [] ∨ ∃ b off, ao = some ⟨b, off, none⟩ ∧ ∀ j (h : j < L.length), C ⟨b, off + j * 2, none⟩ = some (.int .i64 L[j].v) ∧ C ⟨b, off + j * 2 + 1, none⟩ = some (.string ⟨L[j].d.toArray⟩)
theorem EsAt.keep {C C' : Addr → Option Value} {ao : Option Addr} {L : List Ent} (h : EsAt C ao L) (hk : ∀ a v, C a = some v → C' a = some v) : EsAt C' ao L := by
  rcases h with h | ⟨b, off, h, hc⟩
  · exact .inl h
  · exact .inr ⟨b, off, h, fun j hj => ⟨hk _ _ (hc j hj).1, hk _ _ (hc j hj).2⟩⟩
theorem EsAt.get {C : Addr → Option Value} {ao : Option Addr} {L : List Ent} (h : EsAt C ao L) {j : Nat} (hj : j < L.length) : ∃ b off, ao = some ⟨b, off, none⟩ ∧ C ⟨b, off + j * 2, none⟩ = some (.int .i64 L[j].v) ∧ C ⟨b, off + j * 2 + 1, none⟩ = some (.string ⟨L[j].d.toArray⟩) := by
  rcases h with h | ⟨b, off, h, hc⟩
  · subst h; simp at hj
  · exact ⟨b, off, h, hc j hj⟩
theorem all_upto {p : Int → Bool} {ns : List Int} (h : ∀ j (hj : j < ns.length), p ns[j] = true) : ns.all p = true := by
  rw [List.all_eq_true]
  intro x hx
  obtain ⟨j, hj, rfl⟩ := List.mem_iff_getElem.1 hx
  exact h j hj
theorem all_not {α : Type} {p : α → Bool} {ns : List α} {j : Nat} (hj : j < ns.length) (h : p ns[j] = false) : ns.all p = false := by
  cases e : ns.all p with
  | false => rfl
  | true => rw [List.all_eq_true] at e; rw [e _ (List.getElem_mem hj)] at h; cases h
theorem inB_lo {lo hi z : Int} (h : z < lo) : inB lo hi z = false := by
  simp only [inB, Bool.and_eq_false_iff, decide_eq_false_iff_not]; omega
theorem inB_hi {lo hi z : Int} (h : z > hi) : inB lo hi z = false := by
  simp only [inB, Bool.and_eq_false_iff, decide_eq_false_iff_not]; omega
theorem inB_in {lo hi z : Int} (h : ¬ z < lo) (h2 : ¬ z > hi) : inB lo hi z = true := inB_iff.2 ⟨by omega, by omega⟩
set_option maxRecDepth 100000 in
set_option maxHeartbeats 1000000 in
theorem within_any (lo hi : Int) (a : Option Addr) (n c : Nat) (ns : List Int) (w : World) (hn : ns.length = n) (hm : n ≤ 100000) (hN : NsAt w.cell? a ns) : Calls Try.prog 67 #[.int .i64 lo, .int .i64 hi, .slice a n c] w fun e w' => e = .returned (.bool (ns.all (inB lo hi))) ∧ w' = w := by
  have HN := hid hn
  have HZ := hid hN
  clear hn hN
  go_enter Try.func67, Try.ntmps67
  go_wp2_with fail
  go_loopw [11] (fun iv wr => ∃ k : Nat, iv = .int .i64 k ∧ k ≤ n ∧ wr = w ∧ Hid (∀ j (hj : j < ns.length), j < k → inB lo hi ns[j] = true)) (fun iv _ => n - (intOf iv).toNat)
  case atStart => exact ⟨0, rfl, Nat.zero_le _, rfl, hid fun j _ h => by omega⟩
  case round =>
    obtain ⟨k, rfl, hk, rfl, HP⟩ := hrel
    by_cases hlt : k < n
    · have hkl : k < ns.length := by rw [HN.out]; exact hlt
      obtain ⟨zb, zo, e1, z1⟩ : ∃ zb zo, a = some ⟨zb, zo, none⟩ ∧ wr.cell? ⟨zb, zo + k, none⟩ = some (.int .i64 ns[k]) := by
        rcases HZ.out with h | ⟨b, o, e, h⟩
        · rw [h] at hkl; cases hkl
        · exact ⟨b, o, e, h k hkl⟩
      subst e1
      by_cases h1 : ns[k] < lo
      · have HE := hid (all_not hkl (inB_lo (hi := hi) h1))
        generalize ns[k] = z at *
        clear HP HZ
        go_wp2_with fail
        go_ret
        exact ⟨by rw [HE.out]; rfl, rfl⟩
      · by_cases h2 : ns[k] > hi
        · have HE := hid (all_not hkl (inB_hi (lo := lo) h2))
          generalize ns[k] = z at *
          clear HP HZ
          go_wp2_with fail
          go_ret
          exact ⟨by rw [HE.out]; rfl, rfl⟩
        · have HP2 : Hid (∀ j (hj : j < ns.length), j < k + 1 → inB lo hi ns[j] = true) := hid fun j hj hjk => by
            by_cases e : j = k
            · subst e; exact inB_in h1 h2
            · exact HP.out j hj (by omega)
          generalize ns[k] = z at *
          clear HP HZ
          go_wp2_with fail
          exact ⟨⟨k + 1, by go_num, by omega, trivial, HP2⟩, by simp [intOf]; omega⟩
    · have HE : Hid (ns.all (inB lo hi) = true) := hid (all_upto fun j hj => HP.out j hj (by rw [HN.out] at hj; omega))
      clear HP HZ
      go_wp2_with fail
      go_ret
      exact ⟨by rw [HE.out]; rfl, rfl⟩
theorem within_new (lo hi : Int) (ns : List Int) (n : Nat) (hn : ns.length = n) (hm : n ≤ 100000) (vs : Array Value) (hv : vs = (ns.map fun x => Value.int .i64 x).toArray) (W : World) (B : Nat) (hB : W.heap.size = B) : Calls Try.prog 67 #[.int .i64 lo, .int .i64 hi, .slice (some ⟨B, 0, none⟩) n n] (W.alloc (.cells vs 3)) fun e w' => e = .returned (.bool (ns.all (inB lo hi))) ∧ w' = W.alloc (.cells vs 3) := by
  subst hB hv
  refine within_any lo hi _ n n ns _ hn hm (.inr ⟨W.heap.size, 0, rfl, fun j hj => ?_⟩)
  rw [Lib.cell_of_heap (heap_alloc_new W _)]
  simp [hj]
set_option maxRecDepth 100000 in
set_option maxHeartbeats 1000000 in
theorem indexN_any (x : Int) (a : Option Addr) (n c : Nat) (ns : List Int) (w : World) (hn : ns.length = n) (hm : n ≤ 100000) (hN : NsAt w.cell? a ns) : Calls Try.prog 28 #[.slice a n c, .int .i64 x] w fun e w' => (∃ z : Int, e = .returned (.int .i64 z) ∧ decide (0 ≤ z) = ns.contains x) ∧ w' = w := by
  have HN := hid hn
  have HZ := hid hN
  clear hn hN
  go_enter Try.func28, Try.ntmps28
  go_wp2_with fail
  go_loopw [8] (fun iv wr => ∃ k : Nat, iv = .int .i64 k ∧ k ≤ n ∧ wr = w ∧ Hid (∀ j (hj : j < ns.length), j < k → ns[j] ≠ x)) (fun iv _ => n - (intOf iv).toNat)
  case atStart => exact ⟨0, rfl, Nat.zero_le _, rfl, hid fun j _ h => by omega⟩
  case round =>
    obtain ⟨k, rfl, hk, rfl, HP⟩ := hrel
    by_cases hlt : k < n
    · have hkl : k < ns.length := by rw [HN.out]; exact hlt
      obtain ⟨zb, zo, e1, z1⟩ : ∃ zb zo, a = some ⟨zb, zo, none⟩ ∧ wr.cell? ⟨zb, zo + k, none⟩ = some (.int .i64 ns[k]) := by
        rcases HZ.out with h | ⟨b, o, e, h⟩
        · rw [h] at hkl; cases hkl
        · exact ⟨b, o, e, h k hkl⟩
      subst e1
      by_cases h1 : x = ns[k]
      · have HE : Hid (∀ k : Nat, decide ((0 : Int) ≤ (k : Int)) = ns.contains x) := hid fun q => by
          rw [decide_eq_true (by omega)]
          exact (List.contains_iff_mem.2 (by rw [h1]; exact List.getElem_mem hkl)).symm
        generalize ns[k] = z at *
        subst h1
        clear HP HZ
        go_wp2_with fail
        go_ret
        exact ⟨⟨_, rfl, HE.out k⟩, rfl⟩
      · have HP2 : Hid (∀ j (hj : j < ns.length), j < k + 1 → ns[j] ≠ x) := hid fun j hj hjk => by
          by_cases e : j = k
          · subst e; exact fun e => h1 e.symm
          · exact HP.out j hj (by omega)
        generalize ns[k] = z at *
        clear HP HZ
        go_wp2_with fail
        exact ⟨⟨k + 1, by go_num, by omega, trivial, HP2⟩, by simp [intOf]; omega⟩
    · have HE : Hid (decide ((0 : Int) ≤ -1) = ns.contains x) := hid (by
        rw [decide_eq_false (by omega)]
        refine (Bool.eq_false_iff.2 fun h => ?_).symm
        obtain ⟨j, hj, e⟩ := List.mem_iff_getElem.1 (List.contains_iff_mem.1 h)
        exact HP.out j hj (by rw [HN.out] at hj; omega) e)
      clear HP HZ
      go_wp2_with fail
      go_ret
      exact ⟨⟨_, rfl, HE.out⟩, rfl⟩
set_option maxRecDepth 100000 in
set_option maxHeartbeats 1000000 in
theorem containsN_any (x : Int) (a : Option Addr) (n c : Nat) (ns : List Int) (w : World) (hn : ns.length = n) (hm : n ≤ 100000) (hN : NsAt w.cell? a ns) : Calls Try.prog 15 #[.slice a n c, .int .i64 x] w fun e w' => e = .returned (.bool (ns.contains x)) ∧ w' = w := by
  have hC := indexN_any x a n c ns w hn hm hN
  clear hn hN
  go_enter Try.func15, Try.ntmps15
  go_wp2_with (go_at_call 28; refine hC.mono ?_; clear hC; rintro e w' ⟨⟨z, rfl, hz⟩, hw⟩; replace hw := hw.symm; subst hw)
  go_ret
  exact ⟨congrArg (fun b => Ending.returned (.bool b)) (by simp), rfl⟩
set_option maxRecDepth 100000 in
set_option maxHeartbeats 1000000 in
theorem rightLog_any (a : Option Addr) (n c : Nat) (L : List Ent) (w : World) (hn : L.length = n) (hN : EsAt w.cell? a L) (hs : ∀ x ∈ L, x.d.length ≤ 9223372036854775807) : Calls Try.prog 77 #[.slice a n c] w fun e w' => e = .returned (.bool (logOk L)) ∧ Below w.heap.size w w' := by
  have HN := hid hn
  have HZ := hid hN
  have HS := hid hs
  clear hn hN hs
  by_cases hbig : n > 2048
  · have HE : Hid (logOk L = false) := hid (by unfold logOk; rw [decide_eq_false (by rw [HN.out]; omega), Bool.false_and])
    clear HZ HS
    go_enter Try.func77, Try.ntmps77
    go_wp2_with fail
    go_ret
    exact ⟨by rw [HE.out]; rfl, Below.refl _ _⟩
  go_enter Try.func77, Try.ntmps77
  go_wp2_with fail
  go_loopw [10] (fun iv wr => ∃ k : Nat, iv = .int .i64 k ∧ k ≤ n ∧ Hid (Below w.heap.size w wr) ∧ Hid (∀ j (hj : j < L.length), j < k → L[j].ok = true)) (fun iv _ => n - (intOf iv).toNat)
  case atStart => exact ⟨0, rfl, Nat.zero_le _, hid (Below.refl _ _), hid fun j _ h => by omega⟩
  case round =>
    obtain ⟨k, rfl, hk, HB, HP⟩ := hrel
    by_cases hlt : k < n
    · have hkl : k < L.length := by rw [HN.out]; exact hlt
      obtain ⟨zb, zo, e1, z0, z1⟩ := (HZ.out.keep (below_keep HB.out)).get hkl
      subst e1
      have hl := HS.out L[k] (List.getElem_mem hkl)
      have HO : Hid (L[k].ok = (inB 0 1099511627776 L[k].v && decide (L[k].d.length ≤ 16384))) := hid rfl
      have HF : Hid (L[k].ok = false → logOk L = false) := hid fun h => by unfold logOk; rw [all_not hkl h, Bool.and_false]
      have HP2 : Hid (L[k].ok = true → ∀ j (hj : j < L.length), j < k + 1 → L[j].ok = true) := hid fun h j hj hjk => by
        by_cases e : j = k
        · subst e; exact h
        · exact HP.out j hj (by omega)
      generalize L[k].ok = ok at *
      generalize L[k].v = x at *
      generalize L[k].d = d at *
      clear HP HZ HS
      have hC := within_new 0 1099511627776 [x] 1 rfl (by omega) #[.int .i64 x] rfl (wr.alloc (.cells #[.int .i64 x, .string ⟨d.toArray⟩] 56)) (wr.heap.size + 1) (by simp)
      rw [show [x].all (inB 0 1099511627776) = inB 0 1099511627776 x by simp] at hC
      have HB1 : Hid (Below w.heap.size w ((wr.alloc (.cells #[.int .i64 x, .string ⟨d.toArray⟩] 56)).alloc (.cells #[.int .i64 x] 3))) := hid ((HB.out.alloc HB.out.size _).alloc (by have := HB.out.size; simp; omega) _)
      cases hi : inB 0 1099511627776 x with
      | false =>
        rw [hi] at hC HO
        have HE := hid (HF.out (by rw [HO.out, Bool.false_and]))
        go_wp2_with (go_at_call 67; refine hC.mono ?_; clear hC; rintro e w' ⟨rfl, hw⟩; replace hw := hw.symm; subst hw)
        go_ret
        exact ⟨by rw [HE.out]; rfl, HB1.out⟩
      | true =>
        rw [hi] at hC HO
        by_cases hd : d.length ≤ 16384
        · have HP3 := hid (HP2.out (by rw [HO.out, Bool.true_and]; exact decide_eq_true hd))
          go_wp2_with (go_at_call 67; refine hC.mono ?_; clear hC; rintro e w' ⟨rfl, hw⟩; replace hw := hw.symm; subst hw)
          exact ⟨⟨k + 1, by go_num, by omega, HB1, HP3⟩, by simp [intOf]; omega⟩
        · have HE := hid (HF.out (by rw [HO.out, Bool.true_and]; exact decide_eq_false hd))
          go_wp2_with (go_at_call 67; refine hC.mono ?_; clear hC; rintro e w' ⟨rfl, hw⟩; replace hw := hw.symm; subst hw)
          go_ret
          exact ⟨by rw [HE.out]; rfl, HB1.out⟩
    · have HE : Hid (logOk L = true) := hid (by
        unfold logOk
        rw [decide_eq_true (by rw [HN.out]; omega), Bool.true_and, List.all_eq_true]
        intro x hx
        obtain ⟨j, hj, rfl⟩ := List.mem_iff_getElem.1 hx
        exact HP.out j hj (by rw [HN.out] at hj; omega))
      clear HP HZ HS
      go_wp2_with fail
      go_ret
      exact ⟨by rw [HE.out]; rfl, HB.out⟩
end Go.Proofs.Ytaonchdpnllhpaa
namespace Go.Proofs.Ytaonchdpnllhpaa
open Go.RowKit
def headOk (most : Int) (ws : List Int) (kd vw nm op : Int) (L : List Ent) : Bool := inB 1 most kd && (inB 0 1099511627776 vw && inB 0 1099511627776 nm && inB 0 1099511627776 op) && (decide (L.length = 0) || ws.contains kd) && logOk L
set_option maxRecDepth 100000 in
set_option maxHeartbeats 1000000 in
theorem rightHead_any (most kd vw nm op : Int) (a : Option Addr) (n c : Nat) (L : List Ent) (wa : Option Addr) (wn wc : Nat) (ws : List Int) (w : World) (hn : L.length = n) (hN : EsAt w.cell? a L) (hs : ∀ x ∈ L, x.d.length ≤ 9223372036854775807) (hw : ws.length = wn) (hwm : wn ≤ 100000) (hW : NsAt w.cell? wa ws) : Calls Try.prog 64 #[.agg #[.int .i64 kd, .int .i64 vw, .int .i64 nm, .int .i64 op, .slice a n c], .int .i64 most, .slice wa wn wc] w fun e w' => e = .returned (.bool (headOk most ws kd vw nm op L)) ∧ Below w.heap.size w w' := by
  obtain ⟨W1, hW1⟩ : ∃ W, W = w.alloc (.cells #[.int .i64 kd, .int .i64 vw, .int .i64 nm, .int .i64 op, .slice a n c] 94) := ⟨_, rfl⟩
  have hb1 : Below w.heap.size w W1 := by rw [hW1]; exact (Below.refl _ w).alloc (Nat.le_refl _) _
  have hB1 : W1.heap[w.heap.size]? = some (.cells #[.int .i64 kd, .int .i64 vw, .int .i64 nm, .int .i64 op, .slice a n c] 94 (0, 0)) := by rw [hW1]; exact heap_alloc_new w _
  have hz1 : W1.heap.size = w.heap.size + 1 := by rw [hW1]; simp
  have box : ∀ W, Below W1.heap.size W1 W → W.cell? ⟨w.heap.size, 0, none⟩ = some (.int .i64 kd) ∧ W.cell? ⟨w.heap.size, 1, none⟩ = some (.int .i64 vw) ∧ W.cell? ⟨w.heap.size, 2, none⟩ = some (.int .i64 nm) ∧ W.cell? ⟨w.heap.size, 3, none⟩ = some (.int .i64 op) ∧ W.cell? ⟨w.heap.size, 4, none⟩ = some (.slice a n c) := fun W h => by
    have e := (h.block _ (by omega)).trans hB1
    refine ⟨?_, ?_, ?_, ?_, ?_⟩ <;> (rw [Lib.cell_of_heap e]; rfl)
  have hA := within_new 1 most [kd] 1 rfl (by omega) #[.int .i64 kd] rfl W1 (w.heap.size + 1) hz1
  rw [show [kd].all (inB 1 most) = inB 1 most kd by simp] at hA
  obtain ⟨W2, hW2⟩ : ∃ W, W = W1.alloc (.cells #[.int .i64 kd] 3) := ⟨_, rfl⟩
  have hb2 : Below W1.heap.size W1 W2 := by rw [hW2]; exact (Below.refl _ W1).alloc (Nat.le_refl _) _
  have hB := within_new 0 1099511627776 [vw, nm, op] 3 rfl (by omega) #[.int .i64 vw, .int .i64 nm, .int .i64 op] rfl W2 W2.heap.size rfl
  rw [show [vw, nm, op].all (inB 0 1099511627776) = (inB 0 1099511627776 vw && inB 0 1099511627776 nm && inB 0 1099511627776 op) by simp [Bool.and_assoc]] at hB
  obtain ⟨W3, hW3⟩ : ∃ W, W = W2.alloc (.cells #[.int .i64 vw, .int .i64 nm, .int .i64 op] 3) := ⟨_, rfl⟩
  have hb3 : Below W1.heap.size W1 W3 := by rw [hW3]; exact hb2.alloc hb2.size _
  have hC := containsN_any kd wa wn wc ws W3 hw hwm (hW.keep (below_keep (hb1.trans (hb3.mono hb1.size))))
  have hD := rightLog_any a n c L W3 hn (hN.keep (below_keep (hb1.trans (hb3.mono hb1.size)))) hs
  rw [← hW2] at hA
  rw [← hW3] at hB
  have fin : ∀ W, Below W1.heap.size W1 W → Below w.heap.size w W := fun W h => hb1.trans (h.mono hb1.size)
  obtain ⟨x0, x1, x2, x3, x4⟩ := box W1 (Below.refl _ _)
  obtain ⟨y0, y1, y2, y3, y4⟩ := box W2 hb2
  obtain ⟨u0, u1, u2, u3, u4⟩ := box W3 hb3
  have hok : headOk most ws kd vw nm op L = (inB 1 most kd && (inB 0 1099511627776 vw && inB 0 1099511627776 nm && inB 0 1099511627776 op) && (decide (n = 0) || ws.contains kd) && logOk L) := by unfold headOk; rw [hn]
  rw [hok]
  clear hok hn hN hs hW hB1 box hb1 hw hz1
  generalize inB 1 most kd = k1 at *
  generalize (inB 0 1099511627776 vw && inB 0 1099511627776 nm && inB 0 1099511627776 op) = k2 at *
  generalize ws.contains kd = k3 at *
  generalize logOk L = k4 at *
  cases k1 with
  | false =>
    go_enter Try.func64, Try.ntmps64
    go_wp2_with fail
    rw [← hW1]
    clear hW1
    go_wp2_with (go_at_call 67; rw [← hW2]; refine hA.mono ?_; clear hA; rintro e w' ⟨rfl, hw⟩; replace hw := hw.symm; subst hw; clear hW2)
    go_ret
    exact ⟨rfl, fin _ hb2⟩
  | true =>
    cases k2 with
    | false =>
      go_enter Try.func64, Try.ntmps64
      go_wp2_with fail
      rw [← hW1]
      clear hW1
      go_wp2_with (go_at_call 67; first | (rw [← hW2]; refine hA.mono ?_; clear hA; rintro e w' ⟨rfl, hw⟩; replace hw := hw.symm; subst hw; clear hW2) | (rw [← hW3]; refine hB.mono ?_; clear hB; rintro e w' ⟨rfl, hw⟩; replace hw := hw.symm; subst hw; clear hW3))
      go_ret
      exact ⟨rfl, fin _ hb3⟩
    | true =>
      by_cases h0 : n = 0
      · subst h0
        go_enter Try.func64, Try.ntmps64
        go_wp2_with fail
        rw [← hW1]
        clear hW1
        go_wp2_with (first | (go_at_call 67; first | (rw [← hW2]; refine hA.mono ?_; clear hA; rintro e w' ⟨rfl, hw⟩; replace hw := hw.symm; subst hw; clear hW2) | (rw [← hW3]; refine hB.mono ?_; clear hB; rintro e w' ⟨rfl, hw⟩; replace hw := hw.symm; subst hw; clear hW3)) | (go_at_call 77; refine hD.mono ?_; clear hD; rintro e w4 ⟨rfl, hb4⟩))
        go_ret
        exact ⟨rfl, fin _ (hb3.trans (hb4.mono hb3.size))⟩
      · have hz : (decide (n = 0)) = false := decide_eq_false h0
        rw [hz]
        cases k3 with
        | false =>
          go_enter Try.func64, Try.ntmps64
          go_wp2_with fail
          rw [← hW1]
          clear hW1
          go_wp2_with (first | (go_at_call 67; first | (rw [← hW2]; refine hA.mono ?_; clear hA; rintro e w' ⟨rfl, hw⟩; replace hw := hw.symm; subst hw; clear hW2) | (rw [← hW3]; refine hB.mono ?_; clear hB; rintro e w' ⟨rfl, hw⟩; replace hw := hw.symm; subst hw; clear hW3)) | (go_at_call 15; refine hC.mono ?_; clear hC; rintro e w' ⟨rfl, hw⟩; replace hw := hw.symm; subst hw))
          go_ret
          exact ⟨rfl, fin _ hb3⟩
        | true =>
          go_enter Try.func64, Try.ntmps64
          go_wp2_with fail
          rw [← hW1]
          clear hW1
          go_wp2_with (first | (go_at_call 67; first | (rw [← hW2]; refine hA.mono ?_; clear hA; rintro e w' ⟨rfl, hw⟩; replace hw := hw.symm; subst hw; clear hW2) | (rw [← hW3]; refine hB.mono ?_; clear hB; rintro e w' ⟨rfl, hw⟩; replace hw := hw.symm; subst hw; clear hW3)) | (go_at_call 15; refine hC.mono ?_; clear hC; rintro e w' ⟨rfl, hw⟩; replace hw := hw.symm; subst hw) | (go_at_call 77; refine hD.mono ?_; clear hD; rintro e w4 ⟨rfl, hb4⟩))
          go_ret
          exact ⟨rfl, fin _ (hb3.trans (hb4.mono hb3.size))⟩
/-- Messages, letters, records, notes as values. -/
abbrev hdV (kd vw nm op : Int) (sl : Value) : Value := .agg #[.int .i64 kd, .int .i64 vw, .int .i64 nm, .int .i64 op, sl]
abbrev letV (kd fr tt vw op cm nm : Int) (sl : Value) : Value := .agg #[.int .i64 kd, .int .i64 vw, .int .i64 nm, .int .i64 op, sl, .int .i64 fr, .int .i64 tt, .int .i64 cm]
abbrev msgV (kd fr tt vw op cm nm : Int) (sl : Value) : Value := .agg #[.int .i64 kd, .int .i64 fr, .int .i64 tt, .int .i64 vw, .int .i64 op, .int .i64 cm, .int .i64 nm, sl]
abbrev recV (kd vw nm op : Int) (sl : Value) : Value := .agg #[.int .i64 kd, .int .i64 vw, .int .i64 nm, .int .i64 op, sl]
set_option maxRecDepth 100000 in
set_option maxHeartbeats 1000000 in
theorem noteRight_any (kd vw nm op : Int) (a : Option Addr) (n c : Nat) (L : List Ent) (w : World) (hn : L.length = n) (hN : EsAt w.cell? a L) (hs : ∀ x ∈ L, x.d.length ≤ 9223372036854775807) : Calls Try.prog 45 #[recV kd vw nm op (.slice a n c)] w fun e w' => e = .returned (.bool (headOk 3 [2] kd vw nm op L)) ∧ Below w.heap.size w w' := by
  obtain ⟨W2, hW2⟩ : ∃ W, W = (w.alloc (.cells #[.int .i64 kd, .int .i64 vw, .int .i64 nm, .int .i64 op, .slice a n c] 96)).alloc (.cells #[.int .i64 2] 3) := ⟨_, rfl⟩
  have hb : Below w.heap.size w W2 := by rw [hW2]; exact ((Below.refl _ w).alloc (Nat.le_refl _) _).alloc (by simp) _
  have hC := rightHead_any 3 kd vw nm op a n c L (some ⟨w.heap.size + 1, 0, none⟩) 1 1 [2] W2 hn (hN.keep (below_keep hb)) hs rfl (by omega) (.inr ⟨_, _, rfl, fun j hj => by
    match j, hj with
    | 0, _ => rw [hW2, Lib.cell_of_heap (by have := heap_alloc_new (w.alloc (.cells #[.int .i64 kd, .int .i64 vw, .int .i64 nm, .int .i64 op, .slice a n c] 96)) (.cells #[.int .i64 2] 3); simpa using this)]; rfl⟩)
  clear hn hN hs
  generalize headOk 3 [2] kd vw nm op L = ok at *
  go_enter Try.func45, Try.ntmps45
  go_wp2_with (go_at_call 64; rw [← hW2]; refine hC.mono ?_; clear hC; rintro e w3 ⟨rfl, hb3⟩)
  go_ret
  exact ⟨rfl, hb.trans (hb3.mono hb.size)⟩
theorem within_bel (lo hi : Int) (ns : List Int) (n : Nat) (hn : ns.length = n) (hm : n ≤ 100000) (vs : Array Value) (hv : vs = (ns.map fun x => Value.int .i64 x).toArray) (b : Bool) (hb : ns.all (inB lo hi) = b) (W : World) : Calls Try.prog 67 #[.int .i64 lo, .int .i64 hi, .slice (some ⟨W.heap.size, 0, none⟩) n n] (W.alloc (.cells vs 3)) fun e w' => e = .returned (.bool b) ∧ Below W.heap.size W w' := by
  refine (within_new lo hi ns n hn hm vs hv W _ rfl).mono ?_
  rintro e w' ⟨rfl, rfl⟩
  exact ⟨by rw [hb], (Below.refl _ W).alloc (Nat.le_refl _) _⟩
set_option maxRecDepth 100000 in
set_option maxHeartbeats 1000000 in
theorem letRight_any (kd fr tt vw op cm nm : Int) (a : Option Addr) (n c : Nat) (L : List Ent) (w : World) (hn : L.length = n) (hN : EsAt w.cell? a L) (hs : ∀ x ∈ L, x.d.length ≤ 9223372036854775807) : Calls Try.prog 51 #[letV kd fr tt vw op cm nm (.slice a n c)] w fun e w' => e = .returned (.bool (headOk 8 [1, 5, 6, 8] kd vw nm op L && (inB 0 7 fr && inB 0 7 tt) && inB 0 1099511627776 cm)) ∧ Below w.heap.size w w' := by
  obtain ⟨W1, hW1⟩ : ∃ W, W = w.alloc (.cells #[.int .i64 kd, .int .i64 vw, .int .i64 nm, .int .i64 op, .slice a n c, .int .i64 fr, .int .i64 tt, .int .i64 cm] 105) := ⟨_, rfl⟩
  obtain ⟨W2, hW2⟩ : ∃ W, W = W1.alloc (.cells #[.int .i64 1, .int .i64 5, .int .i64 6, .int .i64 8] 3) := ⟨_, rfl⟩
  have hz1 : W1.heap.size = w.heap.size + 1 := by rw [hW1]; simp
  have hb1 : Below w.heap.size w W1 := by rw [hW1]; exact (Below.refl _ w).alloc (Nat.le_refl _) _
  have hb2 : Below w.heap.size w W2 := by rw [hW2]; exact hb1.alloc hb1.size _
  have hB2 : W2.heap[w.heap.size]? = some (.cells #[.int .i64 kd, .int .i64 vw, .int .i64 nm, .int .i64 op, .slice a n c, .int .i64 fr, .int .i64 tt, .int .i64 cm] 105 (0, 0)) := by rw [hW2, Below.heap_alloc _ _ _ (by omega), hW1]; exact heap_alloc_new w _
  have hS2 : W2.heap[w.heap.size + 1]? = some (.cells #[.int .i64 1, .int .i64 5, .int .i64 6, .int .i64 8] 3 (0, 0)) := by rw [hW2, ← hz1]; exact heap_alloc_new W1 _
  have box : ∀ W, Below W2.heap.size W2 W → W.cell? ⟨w.heap.size, 5, none⟩ = some (.int .i64 fr) ∧ W.cell? ⟨w.heap.size, 6, none⟩ = some (.int .i64 tt) ∧ W.cell? ⟨w.heap.size, 7, none⟩ = some (.int .i64 cm) := fun W h => by
    have e := (h.block _ (lt_of_block hB2)).trans hB2
    refine ⟨?_, ?_, ?_⟩ <;> (rw [Lib.cell_of_heap e]; rfl)
  have hC := rightHead_any 8 kd vw nm op a n c L (some ⟨w.heap.size + 1, 0, none⟩) 4 4 [1, 5, 6, 8] W2 hn (hN.keep (below_keep hb2)) hs rfl (by omega) (.inr ⟨_, _, rfl, fun j hj => by
    match j, hj with
    | 0, _ => rw [Lib.cell_of_heap hS2]; rfl
    | 1, _ => rw [Lib.cell_of_heap hS2]; rfl
    | 2, _ => rw [Lib.cell_of_heap hS2]; rfl
    | 3, _ => rw [Lib.cell_of_heap hS2]; rfl⟩)
  have hF := within_bel 0 7 [fr, tt] 2 rfl (by omega) #[.int .i64 fr, .int .i64 tt] rfl (inB 0 7 fr && inB 0 7 tt) (by simp)
  have hG := within_bel 0 1099511627776 [cm] 1 rfl (by omega) #[.int .i64 cm] rfl (inB 0 1099511627776 cm) (by simp)
  have fin : ∀ W, Below W2.heap.size W2 W → Below w.heap.size w W := fun W h => hb2.trans (h.mono hb2.size)
  clear hn hN hs hB2 hS2 hb1 hb2 hz1
  subst hW1
  generalize headOk 8 [1, 5, 6, 8] kd vw nm op L = k1 at *
  generalize (inB 0 7 fr && inB 0 7 tt) = k2 at *
  generalize inB 0 1099511627776 cm = k3 at *
  cases k1 with
  | false =>
    go_enter Try.func51, Try.ntmps51
    go_wp2_with (go_at_call 64; rw [← hW2]; refine hC.mono ?_; clear hC; rintro e w3 ⟨rfl, hb3⟩)
    go_ret
    exact ⟨rfl, fin _ hb3⟩
  | true =>
    cases k2 with
    | false =>
      go_enter Try.func51, Try.ntmps51
      go_wp2_with (first | (go_at_call 64; rw [← hW2]; refine hC.mono ?_; clear hC; rintro e w3 ⟨rfl, hb3⟩; obtain ⟨x0, x1, x2⟩ := box _ hb3) | (go_at_call 67; refine (hF _).mono ?_; clear hF; rintro e w4 ⟨rfl, hb4'⟩; have hb4 := hb3.trans (hb4'.mono hb3.size)))
      go_ret
      exact ⟨rfl, fin _ hb4⟩
    | true =>
      go_enter Try.func51, Try.ntmps51
      go_wp2_with (first | (go_at_call 64; rw [← hW2]; refine hC.mono ?_; clear hC; rintro e w3 ⟨rfl, hb3⟩; obtain ⟨x0, x1, x2⟩ := box _ hb3) | (go_at_call 67; first | (refine (hF _).mono ?_; clear hF; rintro e w4 ⟨rfl, hb4'⟩; have hb4 := hb3.trans (hb4'.mono hb3.size); obtain ⟨y0, y1, y2⟩ := box _ hb4) | (refine (hG _).mono ?_; clear hG; rintro e w5 ⟨rfl, hb5'⟩; have hb5 := hb4.trans (hb5'.mono hb4.size))))
      go_ret
      exact ⟨by simp, fin _ hb5⟩
end Go.Proofs.Ytaonchdpnllhpaa
