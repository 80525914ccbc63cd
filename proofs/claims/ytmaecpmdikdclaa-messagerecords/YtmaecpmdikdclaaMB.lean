/- Layer 17: which messages and records may be. -/
import Derived.Test.YtmaecpmdikdclaaMP
import Derived.Test.YtmaecpmdikdclaaCA
namespace Go.Proofs.Ytmaecpmdikdclaa
open Go.RowKit
/-- Entries lie there. -/
def EsAt (C : Addr → Option Value) (ao : Option Addr) (L : List Ent) : Prop := L = [] ∨ ∃ b off, ao = some ⟨b, off, none⟩ ∧ ∀ j (h : j < L.length), C ⟨b, off + j * 2, none⟩ = some (.int .i64 L[j].v) ∧ C ⟨b, off + j * 2 + 1, none⟩ = some (.string ⟨L[j].d.toArray⟩)
theorem EsAt.keep {C C' : Addr → Option Value} {ao : Option Addr} {L : List Ent} (h : EsAt C ao L) (hk : ∀ a v, C a = some v → C' a = some v) : EsAt C' ao L := by
  rcases h with h | ⟨b, off, h, hc⟩
  · exact .inl h
  · exact .inr ⟨b, off, h, fun j hj => ⟨hk _ _ (hc j hj).1, hk _ _ (hc j hj).2⟩⟩
theorem EsAt.get {C : Addr → Option Value} {ao : Option Addr} {L : List Ent} (h : EsAt C ao L) {j : Nat} (hj : j < L.length) : ∃ b off, ao = some ⟨b, off, none⟩ ∧ C ⟨b, off + j * 2, none⟩ = some (.int .i64 L[j].v) ∧ C ⟨b, off + j * 2 + 1, none⟩ = some (.string ⟨L[j].d.toArray⟩) := by
  rcases h with h | ⟨b, off, h, hc⟩
  · subst h; simp at hj
  · exact ⟨b, off, h, hc j hj⟩
theorem all_upto {p : Int → Bool} {ns : List Int} (h : ∀ j (hj : j < ns.length), p ns[j] = true) : ns.all p = true := by
  rw [List.all_eq_true]
  intro x hx
  obtain ⟨j, hj, rfl⟩ := List.mem_iff_getElem.1 hx
  exact h j hj
theorem all_not {α : Type} {p : α → Bool} {ns : List α} {j : Nat} (hj : j < ns.length) (h : p ns[j] = false) : ns.all p = false := by
  cases e : ns.all p with
  | false => rfl
  | true => rw [List.all_eq_true] at e; rw [e _ (List.getElem_mem hj)] at h; cases h
theorem inB_lo {lo hi z : Int} (h : z < lo) : inB lo hi z = false := by
  simp only [inB, Bool.and_eq_false_iff, decide_eq_false_iff_not]; omega
theorem inB_hi {lo hi z : Int} (h : z > hi) : inB lo hi z = false := by
  simp only [inB, Bool.and_eq_false_iff, decide_eq_false_iff_not]; omega
theorem inB_in {lo hi z : Int} (h : ¬ z < lo) (h2 : ¬ z > hi) : inB lo hi z = true := inB_iff.2 ⟨by omega, by omega⟩
set_option maxRecDepth 100000 in
set_option maxHeartbeats 1000000 in
theorem within_any (lo hi : Int) (a : Option Addr) (n c : Nat) (ns : List Int) (w : World) (hn : ns.length = n) (hm : n ≤ 100000) (hN : NsAt w.cell? a ns) : Calls Try.prog 60 #[.int .i64 lo, .int .i64 hi, .slice a n c] w fun e w' => e = .returned (.bool (ns.all (inB lo hi))) ∧ w' = w := by
  have HN := hid hn
  have HZ := hid hN
  clear hn hN
  go_enter Try.func60, Try.ntmps60
  go_wp2_with fail
  go_loopw [11] (fun iv wr => ∃ k : Nat, iv = .int .i64 k ∧ k ≤ n ∧ wr = w ∧ Hid (∀ j (hj : j < ns.length), j < k → inB lo hi ns[j] = true)) (fun iv _ => n - (intOf iv).toNat)
  case atStart => exact ⟨0, rfl, Nat.zero_le _, rfl, hid fun j _ h => by omega⟩
  case round =>
    obtain ⟨k, rfl, hk, rfl, HP⟩ := hrel
    by_cases hlt : k < n
    · have hkl : k < ns.length := by rw [HN.out]; exact hlt
      obtain ⟨zb, zo, e1, z1⟩ : ∃ zb zo, a = some ⟨zb, zo, none⟩ ∧ wr.cell? ⟨zb, zo + k, none⟩ = some (.int .i64 ns[k]) := by
        rcases HZ.out with h | ⟨b, o, e, h⟩
        · rw [h] at hkl; cases hkl
        · exact ⟨b, o, e, h k hkl⟩
      subst e1
      by_cases h1 : ns[k] < lo
      · have HE := hid (all_not hkl (inB_lo (hi := hi) h1))
        generalize ns[k] = z at *
        clear HP HZ
        go_wp2_with fail
        go_ret
        exact ⟨by rw [HE.out]; rfl, rfl⟩
      · by_cases h2 : ns[k] > hi
        · have HE := hid (all_not hkl (inB_hi (lo := lo) h2))
          generalize ns[k] = z at *
          clear HP HZ
          go_wp2_with fail
          go_ret
          exact ⟨by rw [HE.out]; rfl, rfl⟩
        · have HP2 : Hid (∀ j (hj : j < ns.length), j < k + 1 → inB lo hi ns[j] = true) := hid fun j hj hjk => by
            by_cases e : j = k
            · subst e; exact inB_in h1 h2
            · exact HP.out j hj (by omega)
          generalize ns[k] = z at *
          clear HP HZ
          go_wp2_with fail
          exact ⟨⟨k + 1, by go_num, by omega, trivial, HP2⟩, by simp [intOf]; omega⟩
    · have HE : Hid (ns.all (inB lo hi) = true) := hid (all_upto fun j hj => HP.out j hj (by rw [HN.out] at hj; omega))
      clear HP HZ
      go_wp2_with fail
      go_ret
      exact ⟨by rw [HE.out]; rfl, rfl⟩
theorem within_new (lo hi : Int) (ns : List Int) (n : Nat) (hn : ns.length = n) (hm : n ≤ 100000) (vs : Array Value) (hv : vs = (ns.map fun x => Value.int .i64 x).toArray) (W : World) (B : Nat) (hB : W.heap.size = B) : Calls Try.prog 60 #[.int .i64 lo, .int .i64 hi, .slice (some ⟨B, 0, none⟩) n n] (W.alloc (.cells vs 3)) fun e w' => e = .returned (.bool (ns.all (inB lo hi))) ∧ w' = W.alloc (.cells vs 3) := by
  subst hB hv
  refine within_any lo hi _ n n ns _ hn hm (.inr ⟨W.heap.size, 0, rfl, fun j hj => ?_⟩)
  rw [Lib.cell_of_heap (heap_alloc_new W _)]
  simp [hj]
set_option maxRecDepth 100000 in
set_option maxHeartbeats 1000000 in
theorem indexN_any (x : Int) (a : Option Addr) (n c : Nat) (ns : List Int) (w : World) (hn : ns.length = n) (hm : n ≤ 100000) (hN : NsAt w.cell? a ns) : Calls Try.prog 91 #[.slice a n c, .int .i64 x] w fun e w' => (∃ z : Int, e = .returned (.int .i64 z) ∧ decide (0 ≤ z) = ns.contains x) ∧ w' = w := by
  have HN := hid hn
  have HZ := hid hN
  clear hn hN
  go_enter Try.func91, Try.ntmps91
  go_wp2_with fail
  go_loopw [8] (fun iv wr => ∃ k : Nat, iv = .int .i64 k ∧ k ≤ n ∧ wr = w ∧ Hid (∀ j (hj : j < ns.length), j < k → ns[j] ≠ x)) (fun iv _ => n - (intOf iv).toNat)
  case atStart => exact ⟨0, rfl, Nat.zero_le _, rfl, hid fun j _ h => by omega⟩
  case round =>
    obtain ⟨k, rfl, hk, rfl, HP⟩ := hrel
    by_cases hlt : k < n
    · have hkl : k < ns.length := by rw [HN.out]; exact hlt
      obtain ⟨zb, zo, e1, z1⟩ : ∃ zb zo, a = some ⟨zb, zo, none⟩ ∧ wr.cell? ⟨zb, zo + k, none⟩ = some (.int .i64 ns[k]) := by
        rcases HZ.out with h | ⟨b, o, e, h⟩
        · rw [h] at hkl; cases hkl
        · exact ⟨b, o, e, h k hkl⟩
      subst e1
      by_cases h1 : x = ns[k]
      · have HE : Hid (∀ k : Nat, decide ((0 : Int) ≤ (k : Int)) = ns.contains x) := hid fun q => by
          rw [decide_eq_true (by omega)]
          exact (List.contains_iff_mem.2 (by rw [h1]; exact List.getElem_mem hkl)).symm
        generalize ns[k] = z at *
        subst h1
        clear HP HZ
        go_wp2_with fail
        go_ret
        exact ⟨⟨_, rfl, HE.out k⟩, rfl⟩
      · have HP2 : Hid (∀ j (hj : j < ns.length), j < k + 1 → ns[j] ≠ x) := hid fun j hj hjk => by
          by_cases e : j = k
          · subst e; exact fun e => h1 e.symm
          · exact HP.out j hj (by omega)
        generalize ns[k] = z at *
        clear HP HZ
        go_wp2_with fail
        exact ⟨⟨k + 1, by go_num, by omega, trivial, HP2⟩, by simp [intOf]; omega⟩
    · have HE : Hid (decide ((0 : Int) ≤ -1) = ns.contains x) := hid (by
        rw [decide_eq_false (by omega)]
        refine (Bool.eq_false_iff.2 fun h => ?_).symm
        obtain ⟨j, hj, e⟩ := List.mem_iff_getElem.1 (List.contains_iff_mem.1 h)
        exact HP.out j hj (by rw [HN.out] at hj; omega) e)
      clear HP HZ
      go_wp2_with fail
      go_ret
      exact ⟨⟨_, rfl, HE.out⟩, rfl⟩
set_option maxRecDepth 100000 in
set_option maxHeartbeats 1000000 in
theorem containsN_any (x : Int) (a : Option Addr) (n c : Nat) (ns : List Int) (w : World) (hn : ns.length = n) (hm : n ≤ 100000) (hN : NsAt w.cell? a ns) : Calls Try.prog 82 #[.slice a n c, .int .i64 x] w fun e w' => e = .returned (.bool (ns.contains x)) ∧ w' = w := by
  have hC := indexN_any x a n c ns w hn hm hN
  clear hn hN
  go_enter Try.func82, Try.ntmps82
  go_wp2_with (go_at_call 91; refine hC.mono ?_; clear hC; rintro e w' ⟨⟨z, rfl, hz⟩, hw⟩; replace hw := hw.symm; subst hw)
  go_ret
  exact ⟨congrArg (fun b => Ending.returned (.bool b)) (by simp), rfl⟩
set_option maxRecDepth 100000 in
set_option maxHeartbeats 1000000 in
theorem rightLog_any (a : Option Addr) (n c : Nat) (L : List Ent) (w : World) (hn : L.length = n) (hN : EsAt w.cell? a L) (hs : ∀ x ∈ L, x.d.length ≤ 9223372036854775807) : Calls Try.prog 83 #[.slice a n c] w fun e w' => e = .returned (.bool (logOk L)) ∧ Below w.heap.size w w' := by
  have HN := hid hn
  have HZ := hid hN
  have HS := hid hs
  clear hn hN hs
  by_cases hbig : n > 2048
  · have HE : Hid (logOk L = false) := hid (by unfold logOk; rw [decide_eq_false (by rw [HN.out]; omega), Bool.false_and])
    clear HZ HS
    go_enter Try.func83, Try.ntmps83
    go_wp2_with fail
    go_ret
    exact ⟨by rw [HE.out]; rfl, Below.refl _ _⟩
  go_enter Try.func83, Try.ntmps83
  go_wp2_with fail
  go_loopw [10] (fun iv wr => ∃ k : Nat, iv = .int .i64 k ∧ k ≤ n ∧ Hid (Below w.heap.size w wr) ∧ Hid (∀ j (hj : j < L.length), j < k → L[j].ok = true)) (fun iv _ => n - (intOf iv).toNat)
  case atStart => exact ⟨0, rfl, Nat.zero_le _, hid (Below.refl _ _), hid fun j _ h => by omega⟩
  case round =>
    obtain ⟨k, rfl, hk, HB, HP⟩ := hrel
    by_cases hlt : k < n
    · have hkl : k < L.length := by rw [HN.out]; exact hlt
      obtain ⟨zb, zo, e1, z0, z1⟩ := (HZ.out.keep (below_keep HB.out)).get hkl
      subst e1
      have hl := HS.out L[k] (List.getElem_mem hkl)
      have HO : Hid (L[k].ok = (inB 0 1099511627776 L[k].v && decide (L[k].d.length ≤ 16384))) := hid rfl
      have HF : Hid (L[k].ok = false → logOk L = false) := hid fun h => by unfold logOk; rw [all_not hkl h, Bool.and_false]
      have HP2 : Hid (L[k].ok = true → ∀ j (hj : j < L.length), j < k + 1 → L[j].ok = true) := hid fun h j hj hjk => by
        by_cases e : j = k
        · subst e; exact h
        · exact HP.out j hj (by omega)
      generalize L[k].ok = ok at *
      generalize L[k].v = x at *
      generalize L[k].d = d at *
      clear HP HZ HS
      have hC := within_new 0 1099511627776 [x] 1 rfl (by omega) #[.int .i64 x] rfl (wr.alloc (.cells #[.int .i64 x, .string ⟨d.toArray⟩] 109)) (wr.heap.size + 1) (by simp)
      rw [show [x].all (inB 0 1099511627776) = inB 0 1099511627776 x by simp] at hC
      have HB1 : Hid (Below w.heap.size w ((wr.alloc (.cells #[.int .i64 x, .string ⟨d.toArray⟩] 109)).alloc (.cells #[.int .i64 x] 3))) := hid ((HB.out.alloc HB.out.size _).alloc (by have := HB.out.size; simp; omega) _)
      cases hi : inB 0 1099511627776 x with
      | false =>
        rw [hi] at hC HO
        have HE := hid (HF.out (by rw [HO.out, Bool.false_and]))
        go_wp2_with (go_at_call 60; refine hC.mono ?_; clear hC; rintro e w' ⟨rfl, hw⟩; replace hw := hw.symm; subst hw)
        go_ret
        exact ⟨by rw [HE.out]; rfl, HB1.out⟩
      | true =>
        rw [hi] at hC HO
        by_cases hd : d.length ≤ 16384
        · have HP3 := hid (HP2.out (by rw [HO.out, Bool.true_and]; exact decide_eq_true hd))
          go_wp2_with (go_at_call 60; refine hC.mono ?_; clear hC; rintro e w' ⟨rfl, hw⟩; replace hw := hw.symm; subst hw)
          exact ⟨⟨k + 1, by go_num, by omega, HB1, HP3⟩, by simp [intOf]; omega⟩
        · have HE := hid (HF.out (by rw [HO.out, Bool.true_and]; exact decide_eq_false hd))
          go_wp2_with (go_at_call 60; refine hC.mono ?_; clear hC; rintro e w' ⟨rfl, hw⟩; replace hw := hw.symm; subst hw)
          go_ret
          exact ⟨by rw [HE.out]; rfl, HB1.out⟩
    · have HE : Hid (logOk L = true) := hid (by
        unfold logOk
        rw [decide_eq_true (by rw [HN.out]; omega), Bool.true_and, List.all_eq_true]
        intro x hx
        obtain ⟨j, hj, rfl⟩ := List.mem_iff_getElem.1 hx
        exact HP.out j hj (by rw [HN.out] at hj; omega))
      clear HP HZ HS
      go_wp2_with fail
      go_ret
      exact ⟨by rw [HE.out]; rfl, HB.out⟩
end Go.Proofs.Ytmaecpmdikdclaa
