/- The document's last, opened. -/
import Derived.Test.YtodagpmcmjleaaaDA
import Derived.Test.YtodagpmcmjleaaaSN
namespace Go.Proofs.Ytodagpmcmjleaaa
open Go.RowKit
def gI (ms : List Int) (j : Nat) : Int := ms.getD j 0
/-- What is noted, and where: every opener leads to a place. -/
structure Noted (op : Nat → Int) (n : Nat) (ms : List Int) : Prop where
  len : ms.length = n
  rng : ∀ j, j < n → Opn op j → 0 ≤ gI ms j ∧ gI ms j < n
set_option maxRecDepth 100000 in
set_option maxHeartbeats 1000000 in
theorem last6_any (cs : List (Int × Int)) (ms : List Int) (cb co cc g n : Nat) (hn : cs.length = n) (i : Nat) (hi : i < n) (w : World) (hc : IsAt w.cell? (some ⟨cb, co, none⟩) cs) (hm : NumBlk g ms w) (hN : Noted (opA cs) n ms) (ho : Opn (opA cs) i) :
    Calls Try.prog 49 #[.slice (some ⟨cb, co, none⟩) n cc, .slice (some ⟨g, 0, none⟩) n n, .int .i64 i] w fun e w' => e = .returned (.int .i64 (lastS (opA cs) (gI ms) i)) ∧ w' = w := by
  have hv : ∀ j, j < n → w.cell? ⟨g, j, none⟩ = some (.int .i64 (gI ms j)) := fun j hj => by
    have hl := hN.len
    have := (hm.at j (by omega)).1
    rwa [gI, List.getD_eq_getElem?_getD, List.getElem?_eq_getElem (by omega)]
  have m0 := hv i hi
  obtain ⟨r0, r1⟩ := hN.rng i hi ho
  obtain ⟨k, hk⟩ : ∃ k : Nat, gI ms i = k := ⟨(gI ms i).toNat, by omega⟩
  have c0 := cell_op hc k (by omega)
  have m1 := hv k (by omega)
  have HE : Hid (lastS (opA cs) (gI ms) i = if opA cs k = 49 then gI ms k else (k : Int)) := hid6 (by
    unfold lastS
    simp only [hk, Int.toNat_natCast])
  rw [hk] at m0
  have hkn : k < n := by omega
  generalize opA cs k = o at c0 HE
  generalize gI ms k = y at m1 HE
  clear hc hm hN ho hv hn r0 r1 hk
  by_cases h49 : o = 49
  · subst h49
    have HE := hid6 (HE.out.trans (if_pos rfl))
    go_enter Try.func49, Try.ntmps49
    go_wp2
    go_ret
    exact ⟨by rw [HE.out]; rfl, rfl⟩
  · have HE := hid6 (HE.out.trans (if_neg h49))
    go_enter Try.func49, Try.ntmps49
    go_wp2
    go_ret
    exact ⟨by rw [HE.out]; rfl, rfl⟩
def OpenEnd (ns : List Int) (w : World) (e : Ending) (w' : World) : Prop := ∃ a cc, e = .returned (.slice a ns.length cc) ∧ w'.ownsRow w.heap.size 3 1 (.slice a ns.length cc) ns.length (cellsN ns) ∧ Below w.heap.size w w'
set_option maxRecDepth 100000 in
set_option maxHeartbeats 1000000 in
theorem opened_any (cs : List (Int × Int)) (ms : List Int) (cb co cc g n : Nat) (hn : cs.length = n) (bn : n ≤ 1000000000) (i : Nat) (hi : i ≤ n) (w : World) (hc : IsAt w.cell? (some ⟨cb, co, none⟩) cs) (hm : NumBlk g ms w) (hN : Noted (opA cs) n ms) :
    Calls Try.prog 39 #[.slice (some ⟨cb, co, none⟩) n cc, .slice (some ⟨g, 0, none⟩) n n, .int .i64 i] w (OpenEnd ((openS (opA cs) (gI ms) i i).map (fun (j : Nat) => (j : Int))) w) := by
  have HL : Hid (∀ W j, j < i → Opn (opA cs) j → Below w.heap.size w W → Calls Try.prog 49 #[.slice (some ⟨cb, co, none⟩) n cc, .slice (some ⟨g, 0, none⟩) n n, .int .i64 j] W fun e w' => e = .returned (.int .i64 (lastS (opA cs) (gI ms) j)) ∧ w' = W) := hid6 fun W j hj ho hb =>
    last6_any cs ms cb co cc g n hn j (by omega) W (hc.keep fun a v h => (hb.cell (World.block_lt_of_cell? w a h)).trans h) ((hb.block _ (blk_lt hm)).trans hm) hN ho
  have HC : Hid (∀ W j, j < n → Below w.heap.size w W → W.cell? ⟨cb, co + j * 2, none⟩ = some (.int .i64 (opA cs j))) := hid6 fun W j hj hb => cell_op (hc.keep fun a v h => (hb.cell (World.block_lt_of_cell? w a h)).trans h) j (by omega)
  obtain ⟨L, hL⟩ : ∃ L : Nat → List Int, L = fun k => (openS (opA cs) (gI ms) i k).map (fun (j : Nat) => (j : Int)) := ⟨_, rfl⟩
  have HL0 : Hid (L 0 = []) := hid6 (by rw [hL]; rfl)
  have HLl : Hid (∀ k, (L k).length ≤ k) := hid6 (by
    intro k
    rw [hL]
    simp only [List.length_map]
    induction k with
    | zero => exact Nat.zero_le _
    | succ k ih =>
      rw [openS]
      split
      · rw [List.length_append]; exact Nat.succ_le_succ ih
      · omega)
  have HL1 : Hid (∀ k, Opn (opA cs) k → (i : Int) ≤ lastS (opA cs) (gI ms) k → L (k + 1) = L k ++ [(k : Int)]) := hid6 fun k a b => by
    rw [hL]
    simp only [openS, if_pos (And.intro a b), List.map_append, List.map_cons, List.map_nil]
  have HL2 : Hid (∀ k, ¬ (Opn (opA cs) k ∧ (i : Int) ≤ lastS (opA cs) (gI ms) k) → L (k + 1) = L k) := hid6 fun k a => by
    rw [hL]
    simp only [openS, if_neg a]
  rw [show (openS (opA cs) (gI ms) i i).map (fun (j : Nat) => (j : Int)) = L i by rw [hL]]
  clear hL hc hm hN hn
  go_enter Try.func39, Try.ntmps39
  go_wp2
  go_loopw [7, 8] (fun v kv wr => ∃ k : Nat, kv = .int .i64 k ∧ k ≤ i ∧ wr.ownsRow w.heap.size 3 1 v (L k).length (cellsN (L k)) ∧ Below w.heap.size w wr) (fun _ kv _ => i - (intOf kv).toNat)
  case atStart => exact ⟨0, rfl, Nat.zero_le _, by rw [HL0.out]; exact World.ownsRow_nil _ _ _ _, Below.refl _ _⟩
  case round =>
    obtain ⟨k, rfl, hk, hrow, hb⟩ := hrel
    by_cases hki : k < i
    · have c0 := HC.out wr k (by omega) hb
      have hkl := HLl.out k
      by_cases ho : Opn (opA cs) k
      · have hlast := hid6 (HL.out wr k hki ho hb)
        have HL1 := hid6 (HL1.out k ho)
        have HL2 := hid6 (HL2.out k)
        generalize hx : lastS (opA cs) (gI ms) k = x at hlast HL1 HL2
        clear hx
        have hcase : (opA cs k = 48 ∨ opA cs k = 51) := ho
        generalize opA cs k = o at c0 hcase
        have hr := hid6 hrow
        obtain ⟨av, ac, e0, _⟩ := row_form hrow
        clear hrow
        subst e0
        by_cases hix : (i : Int) ≤ x
        · have HE : Hid (L (k + 1) = L k ++ [(k : Int)]) := hid6 (HL1.out hix)
          clear HL1 HL2
          have b1 := hid6 (hb.alloc hb.size (.cells #[.int .i64 (k : Int)] 3))
          have r1 := hid6 (World.ownsRow.alloc hr.out (.cells #[.int .i64 (k : Int)] 3))
          have hbs := hb.size
          rcases hcase with rfl | rfl
          all_goals
            go_wp2_with (first
              | (go_at_call 49; refine hlast.out.mono ?_; clear hlast; rintro e w9 ⟨rfl, w9e⟩; rw [w9e]; clear w9e)
              | (at_builtin; refine wpList_appN _ rfl _ _ 23 rfl elemN_int w.heap.size _ (L k).length (cellsN (L k)) rfl r1.out _ rfl 1 [.int .i64 (k : Int)] (.inr ⟨⟨_, 0, none⟩, 1, rfl, cells_new6 _ [.int .i64 (k : Int)] 3 _ rfl⟩) rfl (by simp [Value.oneCell']) (by unfold maxLen; omega) (by omega) (by simp; omega) ?_; intro v' w6 hr6 hs6)
              | fail)
            refine ⟨⟨k + 1, by go_num, by omega, ?_, b1.out.trans (hs6.below (by simp; omega) fun g e => (r1.out.lt g e).1)⟩, by simp [intOf]; omega⟩
            rw [HE.out, List.length_append, show cellsN (L k ++ [(k : Int)]) = cellsN (L k) ++ [.int .i64 (k : Int)] by simp [cellsN]]
            exact hr6
        · have HE : Hid (L (k + 1) = L k) := hid6 (HL2.out fun h => hix h.2)
          clear HL1 HL2
          rcases hcase with rfl | rfl
          all_goals
            go_wp2_with (first
              | (go_at_call 49; refine hlast.out.mono ?_; clear hlast; rintro e w9 ⟨rfl, w9e⟩; rw [w9e]; clear w9e)
              | fail)
            refine ⟨⟨k + 1, by go_num, by omega, ?_, hb⟩, by simp [intOf]; omega⟩
            rw [HE.out]
            exact hr.out
      · have HE : Hid (L (k + 1) = L k) := hid6 (HL2.out k fun h => ho h.1)
        have o1 : ¬ opA cs k = 48 := fun h => ho (.inl h)
        have o2 : ¬ opA cs k = 51 := fun h => ho (.inr h)
        have hr := hid6 hrow
        obtain ⟨av, ac, e0, _⟩ := row_form hrow
        clear hrow ho
        subst e0
        generalize opA cs k = o at c0 o1 o2
        go_wp2
        refine ⟨⟨k + 1, by go_num, by omega, ?_, hb⟩, by simp [intOf]; omega⟩
        rw [HE.out]
        exact hr.out
    · have hki : k = i := by omega
      subst hki
      have hr := hid6 hrow
      obtain ⟨av, ac, e0, _⟩ := row_form hrow
      clear hrow
      subst e0
      go_wp2
      go_ret
      exact ⟨av, ac, rfl, hr.out, hb⟩
end Go.Proofs.Ytodagpmcmjleaaa
