/- shape.walk, for any visitor. -/
import Derived.Test.YtodagpmcmjleaaaSD
import Derived.Test.YtodagpmcmjleaaaCA
namespace Go.Proofs.Ytodagpmcmjleaaa
open Go.RowKit
/-- The blocks behind these operations; none, where one may not stand. -/
def runS : List Int → Int → List Blk → Option (List Blk)
  | [], _, L => some L
  | n :: ns, x, L => if standS n L = true then runS ns (x + 1) (stepS n x L) else none
theorem runS_append : ∀ (a b : List Int) (x : Int) (L : List Blk), runS (a ++ b) x L = (runS a x L).bind (runS b (x + a.length))
  | [], b, x, L => by simp [runS]
  | n :: a, b, x, L => by
    simp only [List.cons_append, runS]
    split
    · rw [runS_append a b]
      congr 2
      simp; omega
    · rfl
def opsI (cs : List (Int × Int)) : List Int := cs.map Prod.fst
theorem run_next {cs : List (Int × Int)} {k : Nat} {L : List Blk} (hk : k < cs.length) (h : runS (opsI (cs.take k)) 0 [] = some L) (hs : standS cs[k].1 L = true) : runS (opsI (cs.take (k + 1))) 0 [] = some (stepS cs[k].1 k L) := by
  rw [List.take_succ_eq_append_getElem hk, opsI, List.map_append, runS_append, show List.map Prod.fst (cs.take k) = opsI (cs.take k) from rfl, h]
  simp only [Option.bind, List.map_cons, List.map_nil, runS, if_pos hs]
  congr 2
  simp [opsI]; omega
theorem run_stops {cs : List (Int × Int)} {k : Nat} {L : List Blk} (hk : k < cs.length) (h : runS (opsI (cs.take k)) 0 [] = some L) (hs : standS cs[k].1 L = false) : runS (opsI cs) 0 [] = none := by
  have e : cs = cs.take k ++ cs[k] :: cs.drop (k + 1) := by rw [← List.drop_eq_getElem_cons hk, List.take_append_drop]
  have e2 : opsI cs = opsI (cs.take k) ++ cs[k].1 :: opsI (cs.drop (k + 1)) := by
    rw [opsI, opsI, opsI]
    conv => lhs; rw [e]
    rw [List.map_append, List.map_cons]
  rw [e2, runS_append, h]
  simp only [Option.bind, runS, hs]
  rfl
theorem step_len {n x : Int} {L : List Blk} (hl : L.length ≤ 8) (hs : standS n L = true) : (stepS n x L).length ≤ 8 := by
  unfold stepS
  split
  · rename_i h
    simp only [standS, if_pos h, decide_eq_true_eq] at hs
    simp; omega
  · split
    · cases hg : L.getLast? with
      | none => exact hl
      | some b =>
        have : L ≠ [] := by rintro rfl; cases hg
        have := List.length_pos_iff.2 this
        simp; omega
    · split
      · simp; omega
      · exact hl
/-- Boxes of instructions are as they were. -/
def KeptI (W W' : World) : Prop := W.heap.size ≤ W'.heap.size ∧ ∀ (k : Nat) (cur : Array Value) (z : Nat × Nat), W.heap[k]? = some (.cells cur 35 z) → W'.heap[k]? = some (.cells cur 35 z)
theorem KeptI.of_mv {W W' : World} (h : Mv W W') : KeptI W W' := ⟨h.1, fun k cur z hk => h.2 k cur _ z (by decide) (by decide) hk⟩
theorem KeptI.trans {A B C : World} (h : KeptI A B) (g : KeptI B C) : KeptI A C := ⟨Nat.le_trans h.1 g.1, fun k cur z hk => g.2 k cur z (h.2 k cur z hk)⟩
theorem two_cell {w : World} {b : Nat} {x y : Value} {t : TypeId} (h : w.heap[b]? = some (.cells #[x, y] t (0, 0))) : w.cell? ⟨b, 0, none⟩ = some x ∧ w.cell? ⟨b, 1, none⟩ = some y := by
  simp [World.cell?, h]
/-- How walk ends: with a state of the visitor's. -/
def WalkEnd (cs : List (Int × Int)) (J : Nat → World → Prop) (e : Ending) (w' : World) : Prop := e = .returned (.bool (decide (runS (opsI cs) 0 [] = some []))) ∧ ∃ k, J k w' ∧ (runS (opsI cs) 0 [] = some [] → k = cs.length)
set_option maxRecDepth 100000 in
set_option maxHeartbeats 1000000 in
theorem walk_any (cs : List (Int × Int)) (ca : Option Addr) (cc cb co : Nat) (hca : cs = [] ∨ ca = some ⟨cb, co, none⟩) (hn : cs.length ≤ 9000000000000) (W : World) (J : Nat → World → Prop)
    (hJc : ∀ k w, J k w → ∀ j (h : j < cs.length), w.cell? ⟨cb, co + j * 2, none⟩ = some (.int .i64 cs[j].1) ∧ w.cell? ⟨cb, co + j * 2 + 1, none⟩ = some (.int .i64 cs[j].2))
    (hJs : ∀ k w w', J k w → Mv w w' → Below W.heap.size w w' → J k w')
    (F : Nat) (fr : Array Value) (eF : ∀ args w, (callFunc F args).run Try.prog w = .ok (.enter F args) w)
    (hF : ∀ (k : Nat) (hk : k < cs.length) (p : Nat) (L : List Blk) (a : Option Addr) (cap : Nat) (w : World), W.heap.size ≤ p → runS (opsI (cs.take k)) 0 [] = some L → standS cs[k].1 L = true → L.length ≤ 8 → Stk (p + 1) p L a cap w → J k w →
      Calls Try.prog F (#[.int .i64 k, .pointer (some ⟨p, 0, none⟩)] ++ fr) w fun e w' => e = .returned (.tuple #[]) ∧ (∃ a cap, Stk (p + 1) p L a cap w') ∧ J (k + 1) w' ∧ KeptI w w')
    (h0 : J 0 W) : Calls Try.prog 25 #[.slice ca cs.length cc, .func (.func F) #[] fr] W (WalkEnd cs J) := by
  have HW : Hid (Stk (W.heap.size + 1) W.heap.size [] none 0 (W.alloc (.cells #[.slice none 0 0] 77)) ∧ J 0 (W.alloc (.cells #[.slice none 0 0] 77))) := by
    have hb := (Below.refl _ W).alloc (Nat.le_refl _) (.cells #[.slice none 0 0] 77)
    exact hid6 ⟨Stk.new W, hJs _ _ _ h0 (Mv.below hb) hb⟩
  obtain ⟨n, hn'⟩ : ∃ n, n = cs.length := ⟨_, rfl⟩
  have HN := hid6 hn'
  rw [← hn'] at hn ⊢
  have HS := hid6 hJs
  have HF := hid6 hF
  have HC := hid6 hJc
  clear hJs hF hJc hn' h0
  go_enter Try.func25, Try.ntmps25
  go_wp2_with fail
  go_loopw [12] (fun i wr => ∃ (k : Nat) (L : List Blk) (a : Option Addr) (cap : Nat), k ≤ n ∧ i = .int .i64 k ∧ Hid (runS (opsI (cs.take k)) 0 [] = some L ∧ L.length ≤ 8) ∧ Hid (Stk (W.heap.size + 1) W.heap.size L a cap wr ∧ J k wr) ∧ W.heap.size < wr.heap.size) (fun i _ => n - (intOf i).toNat)
  case atStart => exact ⟨0, [], none, 0, Nat.zero_le _, rfl, hid6 ⟨rfl, by simp⟩, HW, by simp⟩
  case round =>
    obtain ⟨k, L, a, cap, hk, rfl, HL, HJ, hsz⟩ := hrel
    clear HW
    by_cases hlt : k < n
    · have kl : k < cs.length := by have := HN.out; omega
      obtain ⟨c0, c1⟩ := HC.out _ _ HJ.out.2 k kl
      have ha : ca = some ⟨cb, co, none⟩ := by
        rcases hca with h | h
        · rw [h] at kl; cases kl
        · exact h
      subst ha
      obtain ⟨nn, hnn⟩ : ∃ nn, nn = cs[k].1 := ⟨_, rfl⟩
      obtain ⟨na, hna⟩ : ∃ na, na = cs[k].2 := ⟨_, rfl⟩
      rw [← hnn] at c0
      rw [← hna] at c1
      have HX := hid6 hnn
      clear hnn hna hca
      have bA := (Below.refl _ wr).alloc (Nat.le_refl _) (.cells #[.int .i64 nn, .int .i64 na] 35)
      have hx0 := hid6 (heap_alloc_new wr (.cells #[.int .i64 nn, .int .i64 na] 35))
      have HA : Hid (Stk (W.heap.size + 1) W.heap.size L a cap (wr.alloc (.cells #[.int .i64 nn, .int .i64 na] 35)) ∧ J k (wr.alloc (.cells #[.int .i64 nn, .int .i64 na] 35))) := hid6 ⟨HJ.out.1.keep bA, HS.out _ _ _ HJ.out.2 (Mv.below bA) (bA.mono (by omega))⟩
      have hl8 := HL.out.2
      have hM := may_any nn _ HA.out.1 (by omega) _ (hid6 rfl)
      cases hst : standS nn L with
      | false =>
        rw [hst] at hM
        have HE : Hid (runS (opsI cs) 0 [] = none) := hid6 (run_stops kl HL.out.1 (by rw [← HX.out]; exact hst))
        clear hst
        go_wp2_with (first | (go_at_call 41; refine hM.mono ?_; rintro e w2 ⟨rfl, hb2⟩) | fail)
        go_ret
        refine ⟨by rw [HE.out]; rfl, k, HS.out _ _ _ HA.out.2 (Mv.below hb2) (hb2.mono (by rw [World.size_alloc]; omega)), fun h => by rw [HE.out] at h; cases h⟩
      | true =>
        rw [hst] at hM
        have HT := hid6 hst
        clear hst bA
        go_wp2_with (first
          | (go_at_call 41; refine hM.mono ?_; rintro e w2 ⟨rfl, hb2⟩; have H2 := hid6 (And.intro (HA.out.1.keep hb2) (HS.out _ _ _ HA.out.2 (Mv.below hb2) (hb2.mono (by rw [World.size_alloc]; omega)))); have hx2 := hid6 ((hb2.block wr.heap.size (by simp)).trans hx0.out); clear hM)
          | (go_at_fn F; refine (HF.out k kl W.heap.size L _ _ _ (Nat.le_refl _) HL.out.1 (by rw [← HX.out]; exact HT.out) hl8 H2.out.1 H2.out.2).mono ?_; rintro e w3 ⟨rfl, ⟨a3, cap3, S3⟩, J3, K3⟩; have hx3 := K3.2 _ _ _ hx2.out; obtain ⟨d0, d1⟩ := two_cell hx3; have H3 := hid6 S3; have hy3 := hid6 hx3; clear S3 hx3)
          | (go_at_call 42; refine (step_any nn (k : Int) _ H3.out (by omega) HT.out).mono ?_; rintro e w4 ⟨rfl, ⟨a4, cap4, S4⟩, b4, m4⟩)
          | fail)
        refine ⟨⟨k + 1, stepS nn k L, a4, cap4, by omega, by simp, hid6 ⟨?_, step_len hl8 HT.out⟩, hid6 ⟨S4, HS.out _ _ _ J3 m4 b4⟩, blk_lt S4.box⟩, ?_⟩
        · have := run_next kl HL.out.1 (by rw [← HX.out]; exact HT.out)
          rw [← HX.out] at this
          exact this
        · simp [intOf]; omega
    · have : k = n := by omega
      subst this
      have hE : Hid (runS (opsI cs) 0 [] = some L) := hid6 (by have := HL.out.1; rwa [List.take_of_length_le (by rw [← HN.out]; exact Nat.le_refl _)] at this)
      have hSz := size6_any _ HJ.out.1
      obtain ⟨q, hq⟩ : ∃ q, q = L.length := ⟨_, rfl⟩
      rw [← hq] at hSz
      have hq8 : q ≤ 8 := by rw [hq]; exact HL.out.2
      have HQ := hid6 hq
      clear hq
      go_wp2_with (first | (go_at_call 43; refine hSz.mono ?_; rintro e w2 ⟨rfl, rfl⟩) | fail)
      go_ret
      refine ⟨?_, k, HJ.out.2, fun _ => HN.out⟩
      rw [hE.out]
      have : ((q : Int) == 0) = decide (some L = some []) := by
        rw [HQ.out]
        cases L with
        | nil => rfl
        | cons x L => simp; omega
      exact congrArg (fun b => Ending.returned (.bool b)) this
end Go.Proofs.Ytodagpmcmjleaaa
