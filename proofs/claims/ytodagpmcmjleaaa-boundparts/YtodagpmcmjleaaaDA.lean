/- The document's closes. The document's last, opened. What the document's Match notes of leaves; when it says no: plain facts. The document's Match. The document's Match, Depth and Around. -/
import Derived.Test.YtodagpmcmjleaaaSS
import Derived.Test.YtodagpmcmjleaaaSL
import Derived.Test.YtodagpmcmjleaaaSN
import Derived.Test.YtodagpmcmjleaaaSM
import Derived.Test.YtodagpmcmjleaaaSQ
namespace Go.Proofs.Ytodagpmcmjleaaa
open Go.RowKit
theorem cell_op {w : World} {cb co : Nat} {cs : List (Int × Int)} (h : IsAt w.cell? (some ⟨cb, co, none⟩) cs) (j : Nat) (hj : j < cs.length) : w.cell? ⟨cb, co + j * 2, none⟩ = some (.int .i64 (opA cs j)) := is_at h j hj
set_option maxRecDepth 100000 in
set_option maxHeartbeats 1000000 in
theorem closes_any (cs : List (Int × Int)) (cb co cc n : Nat) (hn : cs.length = n) (bn : n ≤ 1000000000) (i : Nat) (hi : i < n) (w : World) (hc : IsAt w.cell? (some ⟨cb, co, none⟩) cs) :
    Calls Try.prog 38 #[.slice (some ⟨cb, co, none⟩) n cc, .int .i64 i] w fun e w' => e = .returned (.tuple #[.int .i64 (closeAt (opA cs) n i).1, .int .i64 (closeAt (opA cs) n i).2]) ∧ w' = w := by
  obtain ⟨r, hr⟩ : ∃ r, r = closeAt (opA cs) n i := ⟨_, rfl⟩
  rw [← hr]
  have HC : Hid (∀ j, j < n → w.cell? ⟨cb, co + j * 2, none⟩ = some (.int .i64 (opA cs j))) := hid6 fun j hj => cell_op hc j (by omega)
  have HR := hid6 hr
  clear hr hc hn
  go_enter Try.func38, Try.ntmps38
  go_wp2
  go_loopw [6, 7, 8] (fun dv ov jv wr => ∃ (d j : Nat) (o : Int), dv = .int .i64 d ∧ ov = .int .i64 o ∧ jv = .int .i64 j ∧ i < j ∧ j ≤ n ∧ d ≤ j ∧ -1 ≤ o ∧ Hid (r = closeS (opA cs) (decide (opA cs i = 48)) (n - j) j d o) ∧ wr = w) (fun _ _ jv _ => n - (intOf jv).toNat)
  case atStart => exact ⟨0, i + 1, -1, rfl, rfl, by go_num, by omega, by omega, by omega, by omega, HR, rfl⟩
  case round =>
    obtain ⟨d, j, o, rfl, rfl, rfl, h1, h2, h3, h4, H5, rfl⟩ := hrel
    by_cases hj : j < n
    · have c0 := HC.out j hj
      have c1 := HC.out i hi
      have H6 := hid6 (H5.out.trans (closeS_succ hj))
      clear H5 HR
      generalize opA cs j = o1 at c0 H6
      generalize hfo : opA cs i = o2 at c1 H6
      clear hfo
      by_cases e1 : o1 = 48
      · subst e1
        have H7 := hid6 (H6.out.trans (if_pos (.inl rfl)))
        go_wp2
        refine ⟨⟨d + 1, j + 1, o, by go_num, rfl, by go_num, by omega, by omega, by omega, h4, H7, by trivial⟩, by simp [intOf]; omega⟩
      by_cases e2 : o1 = 51
      · subst e2
        have H7 := hid6 (H6.out.trans (if_pos (.inr rfl)))
        go_wp2
        refine ⟨⟨d + 1, j + 1, o, by go_num, rfl, by go_num, by omega, by omega, by omega, h4, H7, by trivial⟩, by simp [intOf]; omega⟩
      have H7 := hid6 (H6.out.trans (if_neg (by omega)))
      clear H6
      by_cases e3 : o1 = 49
      · subst e3
        have H8 := hid6 (H7.out.trans (if_pos rfl))
        clear H7
        by_cases e4 : d = 0
        · subst e4
          have H9 := hid6 (H8.out.trans (if_pos rfl))
          clear H8
          by_cases e5 : 0 ≤ o
          · have H10 := hid6 (H9.out.trans (if_pos (.inl e5)))
            clear H9
            go_wp2
            go_ret2
            exact ⟨by rw [H10.out]; rfl, rfl⟩
          · by_cases e6 : o2 = 48
            · subst e6
              have H10 := hid6 (H9.out.trans (if_neg (by simp; omega)))
              clear H9
              go_wp2
              refine ⟨⟨0, j + 1, j, rfl, rfl, by go_num, by omega, by omega, by omega, by omega, H10, by trivial⟩, by simp [intOf]; omega⟩
            · have H10 := hid6 (H9.out.trans (if_pos (.inr (by simp [e6]))))
              clear H9
              go_wp2
              go_ret2
              exact ⟨by rw [H10.out]; rfl, rfl⟩
        · have H9 := hid6 (H8.out.trans (if_neg e4))
          clear H8
          go_wp2
          refine ⟨⟨d, j + 1, o, rfl, rfl, by go_num, by omega, by omega, by omega, h4, H9, by trivial⟩, by simp [intOf]; omega⟩
      have H8 := hid6 (H7.out.trans (if_neg e3))
      clear H7
      by_cases e7 : o1 = 50
      · subst e7
        have H9 := hid6 (H8.out.trans (if_pos rfl))
        clear H8
        by_cases e4 : d = 0
        · subst e4
          have H10 := hid6 (H9.out.trans (if_pos rfl))
          clear H9
          go_wp2
          go_ret2
          exact ⟨by rw [H10.out]; rfl, rfl⟩
        · have H10 := hid6 (H9.out.trans (if_neg e4))
          clear H9
          go_wp2
          refine ⟨⟨d - 1, j + 1, o, by go_num, rfl, by go_num, by omega, by omega, by omega, h4, H10, by trivial⟩, by simp [intOf]; omega⟩
      have H9 := hid6 (H8.out.trans (if_neg e7))
      clear H8
      go_wp2
      refine ⟨⟨d, j + 1, o, rfl, rfl, by go_num, by omega, by omega, by omega, h4, H9, by trivial⟩, by simp [intOf]; omega⟩
    · have : j = n := by omega
      subst this
      have H6 : Hid (r = (o, -1)) := hid6 (by rw [H5.out, Nat.sub_self, closeS])
      clear H5 HR
      go_wp2
      go_ret2
      exact ⟨by rw [H6.out]; rfl, rfl⟩
end Go.Proofs.Ytodagpmcmjleaaa
namespace Go.Proofs.Ytodagpmcmjleaaa
open Go.RowKit
def gI (ms : List Int) (j : Nat) : Int := ms.getD j 0
/-- What is noted, and where: every opener leads to a place. -/
structure Noted (op : Nat → Int) (n : Nat) (ms : List Int) : Prop where
  len : ms.length = n
  rng : ∀ j, j < n → Opn op j → 0 ≤ gI ms j ∧ gI ms j < n
set_option maxRecDepth 100000 in
set_option maxHeartbeats 1000000 in
theorem last6_any (cs : List (Int × Int)) (ms : List Int) (cb co cc g n : Nat) (hn : cs.length = n) (i : Nat) (hi : i < n) (w : World) (hc : IsAt w.cell? (some ⟨cb, co, none⟩) cs) (hm : NumBlk g ms w) (hN : Noted (opA cs) n ms) (ho : Opn (opA cs) i) :
    Calls Try.prog 49 #[.slice (some ⟨cb, co, none⟩) n cc, .slice (some ⟨g, 0, none⟩) n n, .int .i64 i] w fun e w' => e = .returned (.int .i64 (lastS (opA cs) (gI ms) i)) ∧ w' = w := by
  have hv : ∀ j, j < n → w.cell? ⟨g, j, none⟩ = some (.int .i64 (gI ms j)) := fun j hj => by
    have hl := hN.len
    have := (hm.at j (by omega)).1
    rwa [gI, List.getD_eq_getElem?_getD, List.getElem?_eq_getElem (by omega)]
  have m0 := hv i hi
  obtain ⟨r0, r1⟩ := hN.rng i hi ho
  obtain ⟨k, hk⟩ : ∃ k : Nat, gI ms i = k := ⟨(gI ms i).toNat, by omega⟩
  have c0 := cell_op hc k (by omega)
  have m1 := hv k (by omega)
  have HE : Hid (lastS (opA cs) (gI ms) i = if opA cs k = 49 then gI ms k else (k : Int)) := hid6 (by
    unfold lastS
    simp only [hk, Int.toNat_natCast])
  rw [hk] at m0
  have hkn : k < n := by omega
  generalize opA cs k = o at c0 HE
  generalize gI ms k = y at m1 HE
  clear hc hm hN ho hv hn r0 r1 hk
  by_cases h49 : o = 49
  · subst h49
    have HE := hid6 (HE.out.trans (if_pos rfl))
    go_enter Try.func49, Try.ntmps49
    go_wp2
    go_ret
    exact ⟨by rw [HE.out]; rfl, rfl⟩
  · have HE := hid6 (HE.out.trans (if_neg h49))
    go_enter Try.func49, Try.ntmps49
    go_wp2
    go_ret
    exact ⟨by rw [HE.out]; rfl, rfl⟩
def OpenEnd (ns : List Int) (w : World) (e : Ending) (w' : World) : Prop := ∃ a cc, e = .returned (.slice a ns.length cc) ∧ w'.ownsRow w.heap.size 3 1 (.slice a ns.length cc) ns.length (cellsN ns) ∧ Below w.heap.size w w'
set_option maxRecDepth 100000 in
set_option maxHeartbeats 1000000 in
theorem opened_any (cs : List (Int × Int)) (ms : List Int) (cb co cc g n : Nat) (hn : cs.length = n) (bn : n ≤ 1000000000) (i : Nat) (hi : i ≤ n) (w : World) (hc : IsAt w.cell? (some ⟨cb, co, none⟩) cs) (hm : NumBlk g ms w) (hN : Noted (opA cs) n ms) :
    Calls Try.prog 39 #[.slice (some ⟨cb, co, none⟩) n cc, .slice (some ⟨g, 0, none⟩) n n, .int .i64 i] w (OpenEnd ((openS (opA cs) (gI ms) i i).map (fun (j : Nat) => (j : Int))) w) := by
  have HL : Hid (∀ W j, j < i → Opn (opA cs) j → Below w.heap.size w W → Calls Try.prog 49 #[.slice (some ⟨cb, co, none⟩) n cc, .slice (some ⟨g, 0, none⟩) n n, .int .i64 j] W fun e w' => e = .returned (.int .i64 (lastS (opA cs) (gI ms) j)) ∧ w' = W) := hid6 fun W j hj ho hb =>
    last6_any cs ms cb co cc g n hn j (by omega) W (hc.keep fun a v h => (hb.cell (World.block_lt_of_cell? w a h)).trans h) ((hb.block _ (blk_lt hm)).trans hm) hN ho
  have HC : Hid (∀ W j, j < n → Below w.heap.size w W → W.cell? ⟨cb, co + j * 2, none⟩ = some (.int .i64 (opA cs j))) := hid6 fun W j hj hb => cell_op (hc.keep fun a v h => (hb.cell (World.block_lt_of_cell? w a h)).trans h) j (by omega)
  obtain ⟨L, hL⟩ : ∃ L : Nat → List Int, L = fun k => (openS (opA cs) (gI ms) i k).map (fun (j : Nat) => (j : Int)) := ⟨_, rfl⟩
  have HL0 : Hid (L 0 = []) := hid6 (by rw [hL]; rfl)
  have HLl : Hid (∀ k, (L k).length ≤ k) := hid6 (by
    intro k
    rw [hL]
    simp only [List.length_map]
    induction k with
    | zero => exact Nat.zero_le _
    | succ k ih =>
      rw [openS]
      split
      · rw [List.length_append]; exact Nat.succ_le_succ ih
      · omega)
  have HL1 : Hid (∀ k, Opn (opA cs) k → (i : Int) ≤ lastS (opA cs) (gI ms) k → L (k + 1) = L k ++ [(k : Int)]) := hid6 fun k a b => by
    rw [hL]
    simp only [openS, if_pos (And.intro a b), List.map_append, List.map_cons, List.map_nil]
  have HL2 : Hid (∀ k, ¬ (Opn (opA cs) k ∧ (i : Int) ≤ lastS (opA cs) (gI ms) k) → L (k + 1) = L k) := hid6 fun k a => by
    rw [hL]
    simp only [openS, if_neg a]
  rw [show (openS (opA cs) (gI ms) i i).map (fun (j : Nat) => (j : Int)) = L i by rw [hL]]
  clear hL hc hm hN hn
  go_enter Try.func39, Try.ntmps39
  go_wp2
  go_loopw [7, 8] (fun v kv wr => ∃ k : Nat, kv = .int .i64 k ∧ k ≤ i ∧ wr.ownsRow w.heap.size 3 1 v (L k).length (cellsN (L k)) ∧ Below w.heap.size w wr) (fun _ kv _ => i - (intOf kv).toNat)
  case atStart => exact ⟨0, rfl, Nat.zero_le _, by rw [HL0.out]; exact World.ownsRow_nil _ _ _ _, Below.refl _ _⟩
  case round =>
    obtain ⟨k, rfl, hk, hrow, hb⟩ := hrel
    by_cases hki : k < i
    · have c0 := HC.out wr k (by omega) hb
      have hkl := HLl.out k
      by_cases ho : Opn (opA cs) k
      · have hlast := hid6 (HL.out wr k hki ho hb)
        have HL1 := hid6 (HL1.out k ho)
        have HL2 := hid6 (HL2.out k)
        generalize hx : lastS (opA cs) (gI ms) k = x at hlast HL1 HL2
        clear hx
        have hcase : (opA cs k = 48 ∨ opA cs k = 51) := ho
        generalize opA cs k = o at c0 hcase
        have hr := hid6 hrow
        obtain ⟨av, ac, e0, _⟩ := row_form hrow
        clear hrow
        subst e0
        by_cases hix : (i : Int) ≤ x
        · have HE : Hid (L (k + 1) = L k ++ [(k : Int)]) := hid6 (HL1.out hix)
          clear HL1 HL2
          have b1 := hid6 (hb.alloc hb.size (.cells #[.int .i64 (k : Int)] 3))
          have r1 := hid6 (World.ownsRow.alloc hr.out (.cells #[.int .i64 (k : Int)] 3))
          have hbs := hb.size
          rcases hcase with rfl | rfl
          all_goals
            go_wp2_with (first
              | (go_at_call 49; refine hlast.out.mono ?_; clear hlast; rintro e w9 ⟨rfl, w9e⟩; rw [w9e]; clear w9e)
              | (at_builtin; refine wpList_appN _ rfl _ _ 23 rfl elemN_int w.heap.size _ (L k).length (cellsN (L k)) rfl r1.out _ rfl 1 [.int .i64 (k : Int)] (.inr ⟨⟨_, 0, none⟩, 1, rfl, cells_new6 _ [.int .i64 (k : Int)] 3 _ rfl⟩) rfl (by simp [Value.oneCell']) (by unfold maxLen; omega) (by omega) (by simp; omega) ?_; intro v' w6 hr6 hs6)
              | fail)
            refine ⟨⟨k + 1, by go_num, by omega, ?_, b1.out.trans (hs6.below (by simp; omega) fun g e => (r1.out.lt g e).1)⟩, by simp [intOf]; omega⟩
            rw [HE.out, List.length_append, show cellsN (L k ++ [(k : Int)]) = cellsN (L k) ++ [.int .i64 (k : Int)] by simp [cellsN]]
            exact hr6
        · have HE : Hid (L (k + 1) = L k) := hid6 (HL2.out fun h => hix h.2)
          clear HL1 HL2
          rcases hcase with rfl | rfl
          all_goals
            go_wp2_with (first
              | (go_at_call 49; refine hlast.out.mono ?_; clear hlast; rintro e w9 ⟨rfl, w9e⟩; rw [w9e]; clear w9e)
              | fail)
            refine ⟨⟨k + 1, by go_num, by omega, ?_, hb⟩, by simp [intOf]; omega⟩
            rw [HE.out]
            exact hr.out
      · have HE : Hid (L (k + 1) = L k) := hid6 (HL2.out k fun h => ho h.1)
        have o1 : ¬ opA cs k = 48 := fun h => ho (.inl h)
        have o2 : ¬ opA cs k = 51 := fun h => ho (.inr h)
        have hr := hid6 hrow
        obtain ⟨av, ac, e0, _⟩ := row_form hrow
        clear hrow ho
        subst e0
        generalize opA cs k = o at c0 o1 o2
        go_wp2
        refine ⟨⟨k + 1, by go_num, by omega, ?_, hb⟩, by simp [intOf]; omega⟩
        rw [HE.out]
        exact hr.out
    · have hki : k = i := by omega
      subst hki
      have hr := hid6 hrow
      obtain ⟨av, ac, e0, _⟩ := row_form hrow
      clear hrow
      subst e0
      go_wp2
      go_ret
      exact ⟨av, ac, rfl, hr.out, hb⟩
end Go.Proofs.Ytodagpmcmjleaaa
namespace Go.Proofs.Ytodagpmcmjleaaa
def lvV (op : Nat → Int) (n j : Nat) : Int := if lvS (stk op j) = -1 then -1 else gI (docS op n n) (lvS (stk op j)).toNat
def thS (op : Nat → Int) (n : Nat) : Nat → List Int
  | 0 => docS op n n
  | k + 1 => if op k = 52 then (thS op n k).set k (lvV op n k) else thS op n k
theorem thS_len (op : Nat → Int) (n : Nat) : ∀ k, (thS op n k).length = n
  | 0 => docS_len op n n
  | k + 1 => by
    rw [thS]
    split
    · rw [List.length_set, thS_len op n k]
    · exact thS_len op n k
theorem thS_get {op : Nat → Int} {n j : Nat} (hj : j < n) : ∀ k, gI (thS op n k) j = if op j = 52 ∧ j < k then lvV op n j else gI (docS op n n) j
  | 0 => by rw [if_neg (by omega)]; rfl
  | k + 1 => by
    have ih := thS_get (op := op) hj k
    rw [thS]
    by_cases h : op k = 52
    · rw [if_pos h, gI, gset _ _ _ _ (by rw [thS_len]; exact hj)]
      by_cases hk : k = j
      · subst hk
        rw [if_pos rfl, if_pos ⟨h, Nat.lt_succ_self _⟩]
      · rw [if_neg hk]
        refine ih.trans ?_
        by_cases hc : op j = 52 ∧ j < k
        · rw [if_pos hc, if_pos ⟨hc.1, by omega⟩]
        · rw [if_neg hc, if_neg (fun h => hc ⟨h.1, by omega⟩)]
    · rw [if_neg h, ih]
      by_cases hc : op j = 52 ∧ j < k
      · rw [if_pos hc, if_pos ⟨hc.1, by omega⟩]
      · rw [if_neg hc, if_neg (fun h2 => hc ⟨h2.1, by have : j ≠ k := by rintro rfl; exact h h2.1
                                                      omega⟩)]
theorem doc_fit {op : Nat → Int} {n : Nat} (N : Nest op n) : Fit op n (fun _ _ => True) (gI (docS op n n)) := fun s o e hC _ he => docFit N n (Nat.le_refl _) s o e hC (by have := hC.lt; show s < n; omega) he
theorem th_fit {op : Nat → Int} {n : Nat} (N : Nest op n) (k : Nat) : Fit op n (fun _ _ => True) (gI (thS op n k)) := by
  intro s o e hC _ he
  obtain ⟨i1, i2, i3⟩ := doc_fit N s o e hC trivial he
  have q1 := hC.end'
  have q2 := hC.lt
  have q3 := hC.opn
  unfold Opn at q3
  refine ⟨?_, ?_, fun x ex => ?_⟩
  · rw [thS_get he, if_neg (by omega)]; exact i1
  · rw [thS_get (by omega), if_neg (by omega)]; exact i2
  · obtain ⟨c1, c2, c3, c4⟩ := hC.els' ex
    rw [thS_get (by omega), if_neg (by omega)]; exact i3 x ex
theorem fit_noted {op : Nat → Int} {n : Nat} {ms : List Int} (N : Nest op n) (hl : ms.length = n) (hf : Fit op n (fun _ _ => True) (gI ms)) : Noted op n ms := by
  refine ⟨hl, fun j hj ho => ?_⟩
  obtain ⟨o, e, he, hC⟩ := N.opn hj ho
  rw [(hf _ _ _ hC trivial he).2.1]
  have := hC.lt
  split
  · omega
  · rcases hC.els with c | ⟨x, c1, c2, c3, _⟩ <;> omega
theorem firstIx_snoc (L : List Blk) (b : Blk) : ∀ k, k ≤ L.length → firstIx (L ++ [b]) Blk.l k = firstIx L Blk.l k
  | 0, _ => rfl
  | k + 1, h => by
    rw [firstIx, firstIx, List.getElem?_append_left (by omega), firstIx_snoc L b k (by omega)]
theorem lvS_snoc (L : List Blk) (b : Blk) : lvS (L ++ [b]) = if b.l = true then b.s else lvS L := by
  unfold lvS
  rw [List.length_append, List.length_singleton, firstIx]
  simp only [List.getElem?_concat_length]
  by_cases h : b.l = true
  · rw [if_pos h, if_pos h]; simp
  · rw [if_neg h, if_neg h, firstIx_snoc L b _ (Nat.le_refl _)]
    cases hf : firstIx L Blk.l L.length with
    | none => rfl
    | some i =>
      obtain ⟨hi, _⟩ := firstIx_lt hf
      simp only
      rw [List.getElem?_append_left hi]
def accS (op : Nat → Int) (ms : List Int) (L : List Int) : Int := L.foldl (fun a s => if op s.toNat = 51 then gI ms s.toNat else a) (-1)
theorem acc_lv {op : Nat → Int} {ms : List Int} (L : List Blk) (h : ∀ b ∈ L, 0 ≤ b.s ∧ b.l = decide (op b.s.toNat = 51)) : accS op ms (L.map Blk.s) = if lvS L = -1 then -1 else gI ms (lvS L).toNat := by
  rcases List.eq_nil_or_concat L with rfl | ⟨M, b, rfl⟩
  · rfl
  rw [List.concat_eq_append] at h ⊢
  obtain ⟨h1, h2⟩ := h b (by simp)
  have ih := acc_lv (op := op) (ms := ms) M (fun c hc => h c (by simp [hc]))
  rw [lvS_snoc, List.map_append, accS, List.foldl_append]
  simp only [List.map_cons, List.map_nil, List.foldl_cons, List.foldl_nil]
  rw [show List.foldl (fun a s => if op s.toNat = 51 then gI ms s.toNat else a) (-1) (M.map Blk.s) = accS op ms (M.map Blk.s) from rfl, ih]
  by_cases hb : op b.s.toNat = 51
  · have hbl : b.l = true := by rw [h2]; exact decide_eq_true hb
    rw [if_pos hb, if_pos hbl, if_neg (by omega)]
  · have hbl : ¬ b.l = true := by rw [h2]; simpa using hb
    rw [if_neg hb, if_neg hbl]
termination_by L.length
decreasing_by
  subst_vars
  simp
theorem acc_stk {op : Nat → Int} {n i : Nat} (N : Nest op n) (hi : i ≤ n) (k : Nat) : accS op (thS op n k) ((stk op i).map Blk.s) = lvV op n i := by
  have hb : ∀ b ∈ stk op i, ∃ s : Nat, b.s = s ∧ s < i ∧ b.l = decide (op s = 51) := by
    intro b hb
    obtain ⟨A, R, hA⟩ := List.append_of_mem hb
    obtain ⟨s, p1, p2, p3, p4, _⟩ := (N.ci i hi).blk A b R hA
    exact ⟨s, p1, p2, p4⟩
  rw [acc_lv _ (fun b h => by obtain ⟨s, a1, a2, a3⟩ := hb b h; rw [a1, Int.toNat_natCast]; exact ⟨by omega, a3⟩), lvV]
  by_cases h : lvS (stk op i) = -1
  · rw [if_pos h, if_pos h]
  · rw [if_neg h, if_neg h]
    have hs : (firstIx (stk op i) Blk.l (stk op i).length).isSome = true := by
      cases hf : firstIx (stk op i) Blk.l (stk op i).length with
      | none => exact absurd (by rw [lvS, hf]) h
      | some _ => rfl
    obtain ⟨s, a1, a2, a3⟩ := lvS_some N hi hs
    rw [a2, Int.toNat_natCast, thS_get (by omega), if_neg (by omega)]
theorem good_size {cs : List (Int × Int)} (h : goodS cs = true) : ∀ i, i ≤ cs.length → (stk (opA cs) i).length ≤ 8
  | 0, _ => Nat.zero_le _
  | i + 1, hi => by
    have ih := good_size h i (by omega)
    have hs := ((good_iff cs).1 h).1 i (by omega)
    rw [stk]
    unfold stepS
    split
    · rename_i ho
      rw [standS, if_pos ho] at hs
      have := of_decide_eq_true hs
      rw [List.length_append]; simp; omega
    split
    · cases (stk (opA cs) i).getLast? with
      | none => exact ih
      | some b => simp; omega
    split
    · rw [List.length_dropLast]; omega
    · exact ih
/-- When the document says no. -/
theorem no_end {cs : List (Int × Int)} {i : Nat} (hi : i < cs.length) (ho : Opn (opA cs) i) (he : (closeAt (opA cs) cs.length i).2 < 0) : goodS cs = false := by
  cases hg : goodS cs with
  | false => rfl
  | true =>
    obtain ⟨o, e, h1, hC⟩ := (good_nest hg).opn hi ho
    rw [hC.at'] at he
    simp only at he
    omega
theorem no_claim {cs : List (Int × Int)} {j : Nat} (hj : j < cs.length) (ho : opA cs j = 49 ∨ opA cs j = 50) (he : gI (docS (opA cs) cs.length cs.length) j < 0) : goodS cs = false := by
  cases hg : goodS cs with
  | false => rfl
  | true =>
    have N := good_nest hg
    rcases ho with ho | ho
    · obtain ⟨s, e, h1, hC⟩ := N.els hj ho
      have := (doc_fit N _ _ _ hC trivial h1).2.2 j rfl
      omega
    · obtain ⟨s, o, hC⟩ := N.ends hj ho
      have := (doc_fit N _ _ _ hC trivial hj).1
      omega
theorem no_room {cs : List (Int × Int)} {i : Nat} (hi : i < cs.length) (h : 8 < (stk (opA cs) i).length + (if Opn (opA cs) i then 1 else 0)) : goodS cs = false := by
  cases hg : goodS cs with
  | false => rfl
  | true =>
    have h1 := good_size hg i (by omega)
    have hs := ((good_iff cs).1 hg).1 i (by omega)
    split at h
    · rename_i ho
      have ho' : opA cs i = 48 ∨ opA cs i = 51 := ho
      rw [standS, if_pos ho'] at hs
      have := of_decide_eq_true hs
      omega
    · omega
theorem no_loop {cs : List (Int × Int)} {i : Nat} (N : Nest (opA cs) cs.length) (hi : i < cs.length) (ho : opA cs i = 52) (h : lvV (opA cs) cs.length i < 0) : goodS cs = false := by
  cases hg : goodS cs with
  | false => rfl
  | true =>
    have hs := ((good_iff cs).1 hg).1 i (by omega)
    rw [ho] at hs
    obtain ⟨s, a1, a2, a3⟩ := lvS_some N (by omega : i ≤ cs.length) (by simpa [standS] using hs)
    rw [lvV, a2, if_neg (by omega), Int.toNat_natCast] at h
    obtain ⟨o, e, h1, hC⟩ := N.opn (by omega : s < cs.length) (.inr a3)
    have := ((fit_noted N (docS_len _ _ _) (doc_fit N)).rng s (by omega) (.inr a3)).1
    omega
/-- When it may stand there. -/
theorem may_stand {cs : List (Int × Int)} {i : Nat} (N : Nest (opA cs) cs.length) (hi : i < cs.length) (h8 : (stk (opA cs) i).length + (if Opn (opA cs) i then 1 else 0) ≤ 8) (hl : opA cs i = 52 → 0 ≤ lvV (opA cs) cs.length i) : standS (opA cs i) (stk (opA cs) i) = true := by
  have hn := N.nst i hi
  unfold standN at hn
  unfold standS
  by_cases h1 : opA cs i = 48 ∨ opA cs i = 51
  · rw [if_pos h1]
    rw [if_pos (show Opn (opA cs) i from h1)] at h8
    exact decide_eq_true (by omega)
  rw [if_neg h1]
  by_cases h2 : opA cs i = 49
  · rw [if_pos h2] at hn ⊢; exact hn
  rw [if_neg h2] at hn ⊢
  by_cases h3 : opA cs i = 50
  · rw [if_pos h3] at hn ⊢; exact hn
  rw [if_neg h3]
  by_cases h4 : opA cs i = 52
  · rw [if_pos h4]
    have := hl h4
    cases hf : firstIx (stk (opA cs) i) Blk.l (stk (opA cs) i).length with
    | none =>
      rw [lvV, lvS, hf] at this
      simp at this
    | some _ => rfl
  · rw [if_neg h4]
theorem doc_match {cs : List (Int × Int)} (hg : goodS cs = true) : thS (opA cs) cs.length cs.length = matchS cs := by
  have N := good_nest hg
  have G : GM (opA cs) cs.length (gI (thS (opA cs) cs.length cs.length)) := by
    refine ⟨th_fit N _, fun j hj e => ?_, fun j hj a b c d => ?_⟩
    · have hs := ((good_iff cs).1 hg).1 j hj
      rw [e] at hs
      obtain ⟨s, a1, a2, a3⟩ := lvS_some N (by omega : j ≤ cs.length) (by simpa [standS] using hs)
      refine ⟨s, a1, a2, a3, ?_⟩
      rw [thS_get hj, if_pos ⟨e, hj⟩, thS_get (by omega), if_neg (by omega), lvV, a2, if_neg (by omega), Int.toNat_natCast]
    · rw [thS_get hj, if_neg (fun h => d h.1)]
      exact docOth N _ (Nat.le_refl _) j hj a b c
  have U := G.uniq N (match_gm hg)
  refine List.ext_getElem (by rw [thS_len, matchS_len]) fun j h1 h2 => ?_
  rw [thS_len] at h1
  have := U j h1
  simp only [gI] at this
  rwa [List.getD_eq_getElem?_getD, List.getD_eq_getElem?_getD, List.getElem?_eq_getElem (by rw [thS_len]; exact h1), List.getElem?_eq_getElem h2] at this
end Go.Proofs.Ytodagpmcmjleaaa
namespace Go.Proofs.Ytodagpmcmjleaaa
open Go.RowKit
theorem fill_all (n : Nat) : fillS n n = List.replicate n (-1) := by simp [fillS]
theorem fill_next {n k : Nat} (hk : k < n) : (fillS n k).set k (-1) = fillS n (k + 1) := by
  refine List.ext_getElem (by simp [fillS]; omega) fun j h1 h2 => ?_
  rw [List.getElem_set]
  simp only [fillS, List.getElem_append, List.length_replicate, List.getElem_replicate]
  by_cases h : k = j
  · subst h; rw [if_pos rfl, dif_pos (by omega)]
  · rw [if_neg h]
    by_cases h3 : j < k
    · rw [dif_pos h3, dif_pos (by omega)]
    · rw [dif_neg h3, dif_neg (by omega)]
theorem fill_len {n k : Nat} (hk : k ≤ n) : (fillS n k).length = n := by simp [fillS]; omega
theorem make_run (n : Nat) (bn : n ≤ 1000000) (w : World) : (Instr.makeSlice 23 (.int .i64 (n : Int)) (.int .i64 (n : Int))).run Try.prog w = .ok (.slice (some ⟨w.heap.size, 0, none⟩) n n) (w.alloc (.cells (cellsN (fillS n 0)).toArray 3)) := by
  obtain ⟨i0, hi, hz0, hz1, hz2⟩ := info_parts (show (Try.prog.info? 3).map (fun i => (i.zero, i.size, i.bytes)) = some (some (.int .i64 0), 1, 8) by kernel_rfl)
  have hr := run_make (P := Try.prog) w 23 3 i0 (.int .i64 0) Try.underlying23 hi hz0 .i64 .i64 (n : Int) (n : Int) (by omega) (Int.le_refl _) (by rw [hz2]; omega) (by omega)
  rw [hr, hz1]
  simp only [Int.toNat_natCast, Nat.mul_one]
  have e : (madeCells (Value.cells (.int .i64 0)) n) = (cellsN (fillS n 0)).toArray := by
    apply Array.toList_inj.1
    rw [show Value.cells (.int .i64 0) = #[.int .i64 0] from rfl, toList_madeCells_one]
    simp [cellsN, fillS]
  rw [e]
theorem NumBlk.get {g : Nat} {ms : List Int} {W : World} (h : NumBlk g ms W) {j : Nat} (hj : j < ms.length) : W.cell? ⟨g, j, none⟩ = some (.int .i64 (gI ms j)) := by
  have := (h.at j hj).1
  rwa [gI, List.getD_eq_getElem?_getD, List.getElem?_eq_getElem hj]
theorem closeS_lt {op : Nat → Int} {f : Bool} : ∀ (m j d : Nat) (o : Int), o < (j : Int) → (closeS op f m j d o).2 = -1 ∨ (closeS op f m j d o).1 < (closeS op f m j d o).2
  | 0, j, d, o, _ => .inl rfl
  | m + 1, j, d, o, h => by
    have ih : ∀ d o, _ := closeS_lt (op := op) (f := f) m (j + 1)
    rw [closeS]
    split
    · exact ih _ _ (by omega)
    split
    · split
      · split
        · exact .inl rfl
        · exact ih _ _ (by omega)
      · exact ih _ _ (by omega)
    split
    · split
      · exact .inr h
      · exact ih _ _ (by omega)
    · exact ih _ _ (by omega)
theorem cell_same {w W : World} {a : Addr} (h : W.heap[a.block]? = w.heap[a.block]?) : W.cell? a = w.cell? a := by
  unfold World.cell?
  rw [h]
theorem th_start {op : Nat → Int} {n q : Nat} (N : Nest op n) (hq : q < n) (h : op q = 52) : (thS op n q).set q (-1) = thS op n q := by
  have e : gI (thS op n q) q = -1 := by
    rw [thS_get hq, if_neg (by omega)]
    exact docOth N n (Nat.le_refl _) q hq (by unfold Opn; omega) (by omega) (by omega)
  have hl := thS_len op n q
  rw [gI, List.getD_eq_getElem?_getD, List.getElem?_eq_getElem (by omega)] at e
  simp only [Option.getD_some] at e
  rw [← e, List.set_getElem_self]
theorem acc_next {op : Nat → Int} {ms ss : List Int} {t : Nat} (ht : t < ss.length) : accS op ms (ss.take (t + 1)) = if op ss[t].toNat = 51 then gI ms ss[t].toNat else accS op ms (ss.take t) := by
  rw [List.take_succ_eq_append_getElem ht, accS, List.foldl_append]
  rfl
theorem stk_starts {op : Nat → Int} {n q : Nat} (N : Nest op n) (hq : q ≤ n) : ∀ t (h : t < ((stk op q).map Blk.s).length), ∃ s : Nat, ((stk op q).map Blk.s)[t] = s ∧ s < q := by
  intro t h
  rw [List.getElem_map]
  obtain ⟨A, R, hA⟩ := List.append_of_mem (List.getElem_mem (l := stk op q) (by simpa using h))
  obtain ⟨s, p1, p2, _⟩ := (N.ci q hq).blk A _ R hA
  exact ⟨s, p1, p2⟩
theorem stk_len {op : Nat → Int} : ∀ q, (stk op q).length ≤ q
  | 0 => Nat.zero_le _
  | q + 1 => by
    have ih := stk_len (op := op) q
    rw [stk]
    unfold stepS
    split
    · simp; omega
    split
    · cases (stk op q).getLast? with
      | none => show (stk op q).length ≤ _; omega
      | some b => simp; omega
    split
    · rw [List.length_dropLast]; omega
    · omega
set_option maxRecDepth 100000 in
set_option maxHeartbeats 1000000 in
theorem rmatch_some (cs : List (Int × Int)) (cb co cc n : Nat) (hn : cs.length = n) (bn : n ≤ 1000000) (hpos : 0 < n) (w : World) (hc : IsAt w.cell? (some ⟨cb, co, none⟩) cs) :
    Calls Try.prog 19 #[.slice (some ⟨cb, co, none⟩) n cc] w (MatchEnd cs w) := by
  have hmk := make_run n bn w
  obtain ⟨w1, hw1⟩ : ∃ w1, w1 = w.alloc (.cells (cellsN (fillS n 0)).toArray 3) := ⟨_, rfl⟩
  rw [← hw1] at hmk
  obtain ⟨g, hg⟩ : ∃ g, g = w.heap.size := ⟨_, rfl⟩
  rw [← hg] at hmk
  have hcb : cb < g := by rw [hg]; exact World.block_lt_of_cell? w _ (cell_op hc 0 (by omega))
  have N1 : NumBlk g (fillS n 0) w1 := by rw [hg, hw1]; exact heap_alloc_new w _
  have H1 := hid6 N1
  have HC : Hid (∀ W, Only g w1 W → IsAt W.cell? (some ⟨cb, co, none⟩) cs) := hid6 fun W ho => hc.keep fun a v h => by
    have hlt := World.block_lt_of_cell? w a h
    have b1 := ho.belowB (B := g) (Nat.le_refl _) (blk_lt N1)
    have b2 : Below g w w1 := by rw [hg, hw1]; exact (Below.refl _ w).alloc (Nat.le_refl _) _
    exact ((b2.trans b1).cell (by rw [hg]; exact hlt)).trans h
  have HB : Hid (∀ W, Only g w1 W → Below w.heap.size w W) := hid6 fun W ho => by
    have b1 := ho.belowB (B := g) (Nat.le_refl _) (blk_lt N1)
    have b2 : Below g w w1 := by rw [hg, hw1]; exact (Below.refl _ w).alloc (Nat.le_refl _) _
    rw [← hg]
    exact b2.trans b1
  have HG : Hid (w.heap.size ≤ g) := hid6 (by omega)
  clear hw1 hg N1 hc
  go_enter Try.func19, Try.ntmps19
  go_wp2
  go_loopw [5] (fun iv wr => ∃ k : Nat, iv = .int .i64 k ∧ k ≤ n ∧ Hid (NumBlk g (fillS n k) wr) ∧ Only g w1 wr) (fun iv _ => n - (intOf iv).toNat)
  case atStart => exact ⟨0, rfl, Nat.zero_le _, H1, Only.refl _ _⟩
  case round =>
    obtain ⟨k, rfl, hk, hN, hO⟩ := hrel
    by_cases hkn : k < n
    · obtain ⟨f0, f1⟩ := hN.out.at k (by rw [fill_len hk]; exact hkn)
      go_wp2
      exact ⟨⟨k + 1, by go_num, by omega, hid6 (by rw [← fill_next hkn]; exact hN.out.set k (-1)), hO.trans (Only.set _ _ _ _)⟩, by simp [intOf]; omega⟩
    have hkn : k = n := by omega
    subst hkn
    have hN0 : Hid (NumBlk g (docS (opA cs) k 0) wr) := hid6 (by have := hN.out; rw [fill_all] at this; exact this)
    clear hN H1
    have hO1 := hO
    clear hO
    go_wp2
    go_loopw [6] (fun iv wr => ∃ j : Nat, iv = .int .i64 j ∧ j ≤ k ∧ Hid (NumBlk g (docS (opA cs) k j) wr ∧ ∀ i, i < j → Opn (opA cs) i → 0 ≤ (closeAt (opA cs) k i).2) ∧ Only g w1 wr) (fun iv _ => k - (intOf iv).toNat)
    case atStart => exact ⟨0, rfl, Nat.zero_le _, hid6 ⟨hN0.out, fun i h => by omega⟩, hO1⟩
    case round =>
      obtain ⟨j, rfl, hj, hJ, hO⟩ := hrel
      clear hN0 hO1
      by_cases hjk : j < k
      · have c0 := cell_op (HC.out _ hO) j (by omega)
        by_cases ho : Opn (opA cs) j
        · have hcl := hid6 (closes_any cs cb co cc k hn (by omega) j hjk _ (HC.out _ hO))
          have hrg := closeAt_rng (opA cs) k j
          have hrl : (closeAt (opA cs) k j).2 = -1 ∨ (closeAt (opA cs) k j).1 < (closeAt (opA cs) k j).2 := closeS_lt (k - (j + 1)) (j + 1) 0 (-1) (by omega)
          have hcase : (opA cs j = 48 ∨ opA cs j = 51) := ho
          have HNo : Hid ((closeAt (opA cs) k j).2 < 0 → goodS cs = false) := hid6 fun h => by subst hn; exact no_end hjk ho h
          have HS : Hid (docS (opA cs) k (j + 1) = if 0 ≤ (closeAt (opA cs) k j).1 then ((((docS (opA cs) k j).set j (closeAt (opA cs) k j).2).set (closeAt (opA cs) k j).2.toNat j).set j (closeAt (opA cs) k j).1).set (closeAt (opA cs) k j).1.toNat (closeAt (opA cs) k j).2 else ((docS (opA cs) k j).set j (closeAt (opA cs) k j).2).set (closeAt (opA cs) k j).2.toNat j) := hid6 (by rw [docS, docStep, if_pos ho])
          have HE : Hid (0 ≤ (closeAt (opA cs) k j).2 → ∀ i, i < j + 1 → Opn (opA cs) i → 0 ≤ (closeAt (opA cs) k i).2) := hid6 fun h i hi ho => by
            by_cases h2 : i < j
            · exact hJ.out.2 i h2 ho
            · have : i = j := by omega
              subst this; exact h
          generalize opA cs j = oo at c0 hcase
          generalize closeAt (opA cs) k j = r at hcl hrg hrl HNo HS HE
          obtain ⟨o, e⟩ := r
          simp only at hrg hrl
          have hl := docS_len (opA cs) k j
          have hN := hid6 hJ.out.1
          clear hJ
          generalize docS (opA cs) k j = ms at hl hN HS
          obtain ⟨f0, f1⟩ := hN.out.at j (by omega)
          by_cases he : e < 0
          · have HNo2 := hid6 (HNo.out he)
            clear HNo
            rcases hcase with rfl | rfl
            all_goals
              go_wp2_with (first | (go_at_call 38; refine hcl.out.mono ?_; clear hcl; rintro e w9 ⟨rfl, w9e⟩; rw [w9e]; clear w9e) | fail)
              go_ret2
              exact ⟨by rw [HNo2.out]; rfl, HB.out _ hO⟩
          · obtain ⟨e', rfl⟩ : ∃ e' : Nat, e = e' := ⟨e.toNat, by omega⟩
            obtain ⟨f2, f3⟩ := hN.out.at e' (by omega)
            have HE2 := hid6 (HE.out (by omega))
            have d1 : j < e' := by omega
            have d1k : e' < k := by omega
            clear HE HNo
            by_cases h0 : 0 ≤ o
            · obtain ⟨o', rfl⟩ : ∃ o' : Nat, o = o' := ⟨o.toNat, by omega⟩
              obtain ⟨f4, f5⟩ := hN.out.at o' (by omega)
              have d2 : j < o' := by omega
              have d3 : o' < e' := by omega
              have HS2 := hid6 (HS.out.trans (if_pos h0))
              clear HS
              rcases hcase with rfl | rfl
              all_goals
                go_wp2_with (first | (go_at_call 38; refine hcl.out.mono ?_; clear hcl; rintro e w9 ⟨rfl, w9e⟩; rw [w9e]; clear w9e) | fail)
                refine ⟨⟨j + 1, by go_num, by omega, hid6 ⟨by rw [HS2.out]; exact (((hN.out.set j _).set e' _).set j _).set o' _, HE2.out⟩, (((hO.trans (Only.set _ _ _ _)).trans (Only.set _ _ _ _)).trans (Only.set _ _ _ _)).trans (Only.set _ _ _ _)⟩, by simp [intOf]; omega⟩
            · have HS2 := hid6 (HS.out.trans (if_neg h0))
              clear HS
              rcases hcase with rfl | rfl
              all_goals
                go_wp2_with (first | (go_at_call 38; refine hcl.out.mono ?_; clear hcl; rintro e w9 ⟨rfl, w9e⟩; rw [w9e]; clear w9e) | fail)
                refine ⟨⟨j + 1, by go_num, by omega, hid6 ⟨by rw [HS2.out]; exact (hN.out.set j _).set e' _, HE2.out⟩, (hO.trans (Only.set _ _ _ _)).trans (Only.set _ _ _ _)⟩, by simp [intOf]; omega⟩
        · have o1 : ¬ opA cs j = 48 := fun h => ho (.inl h)
          have o2 : ¬ opA cs j = 51 := fun h => ho (.inr h)
          have HE2 : Hid (NumBlk g (docS (opA cs) k (j + 1)) wr ∧ ∀ i, i < j + 1 → Opn (opA cs) i → 0 ≤ (closeAt (opA cs) k i).2) := hid6 ⟨by rw [docS, docStep, if_neg ho]; exact hJ.out.1, fun i hi hio => by
            by_cases h2 : i < j
            · exact hJ.out.2 i h2 hio
            · have : i = j := by omega
              subst this; exact absurd hio ho⟩
          clear ho hJ
          have q1 : (opA cs j != 48) = true := by simp [o1]
          have q2 : (opA cs j != 51) = true := by simp [o2]
          clear o1 o2
          generalize opA cs j = oo at c0 q1 q2
          go_wp2
          exact ⟨⟨j + 1, by go_num, by omega, HE2, hO⟩, by simp [intOf]; omega⟩
      have hjk : j = k := by omega
      subst hjk
      have hO1 := hO
      clear hO
      have hJ1 := hJ
      clear hJ
      go_wp2
      go_loopw [9] (fun iv wr => ∃ i : Nat, iv = .int .i64 i ∧ i ≤ j ∧ Hid (∀ q, q < i → opA cs q = 49 ∨ opA cs q = 50 → 0 ≤ gI (docS (opA cs) j j) q) ∧ Hid (NumBlk g (docS (opA cs) j j) wr) ∧ Only g w1 wr) (fun iv _ => j - (intOf iv).toNat)
      case atStart => exact ⟨0, rfl, Nat.zero_le _, hid6 fun q h => by omega, hid6 hJ1.out.1, hO1⟩
      case round =>
        obtain ⟨i, rfl, hi, hI, hN, hO⟩ := hrel
        clear hO1
        by_cases hij : i < j
        · have c0 := cell_op (HC.out _ hO) i (by omega)
          have m0 := hN.out.get (j := i) (by rw [docS_len]; exact hij)
          have HNo : Hid ((opA cs i = 49 ∨ opA cs i = 50) → gI (docS (opA cs) j j) i < 0 → goodS cs = false) := hid6 fun h h2 => by subst hn; exact no_claim hij h h2
          have HI : Hid ((opA cs i = 49 ∨ opA cs i = 50 → 0 ≤ gI (docS (opA cs) j j) i) → ∀ q, q < i + 1 → opA cs q = 49 ∨ opA cs q = 50 → 0 ≤ gI (docS (opA cs) j j) q) := hid6 fun h q hq ho => by
            by_cases h2 : q < i
            · exact hI.out q h2 ho
            · have : q = i := by omega
              subst this; exact h ho
          clear hI
          generalize gI (docS (opA cs) j j) i = y at m0 HNo HI
          generalize opA cs i = oo at c0 HNo HI
          by_cases hy : y < 0
          · by_cases h49 : oo = 49
            · subst h49
              have HNo2 := hid6 (HNo.out (.inl rfl) hy)
              clear HNo HI
              go_wp2
              go_ret2
              exact ⟨by rw [HNo2.out]; rfl, HB.out _ hO⟩
            by_cases h50 : oo = 50
            · subst h50
              have HNo2 := hid6 (HNo.out (.inr rfl) hy)
              clear HNo HI
              go_wp2
              go_ret2
              exact ⟨by rw [HNo2.out]; rfl, HB.out _ hO⟩
            have HI2 := hid6 (HI.out (fun h => by omega))
            clear HNo HI
            go_wp2
            exact ⟨⟨i + 1, by go_num, by omega, HI2, hN, hO⟩, by simp [intOf]; omega⟩
          · have HI2 := hid6 (HI.out (fun h => by omega))
            have hcase : oo = 49 ∨ oo = 50 ∨ (¬ oo = 49 ∧ ¬ oo = 50) := by omega
            clear HNo HI
            rcases hcase with rfl | rfl | ⟨h49, h50⟩
            all_goals
              go_wp2
              exact ⟨⟨i + 1, by go_num, by omega, HI2, hN, hO⟩, by simp [intOf]; omega⟩
        have hij : i = j := by omega
        subst hij
        have NN : Hid (Nest (opA cs) i) := hid6 (by
          obtain ⟨a, b⟩ := nest_of hJ1.out.2 hI.out
          exact ⟨a, b⟩)
        have hN1 := hN
        have hO1 := hO
        clear hI hJ1 hN hO
        go_wp2
        go_loopw [10] (fun iv wr => ∃ q : Nat, iv = .int .i64 q ∧ q ≤ i ∧ Hid (∀ p, p < q → standS (opA cs p) (stk (opA cs) p) = true) ∧ Hid (NumBlk g (thS (opA cs) i q) wr) ∧ Only g w1 wr) (fun iv _ => i - (intOf iv).toNat)
        case atStart => exact ⟨0, rfl, Nat.zero_le _, hid6 fun p h => by omega, hN1, hO1⟩
        case round =>
          obtain ⟨q, rfl, hq, hI, hN, hO⟩ := hrel
          clear hN1 hO1
          by_cases hqi : q < i
          · have c0 := cell_op (HC.out _ hO) q (by omega)
            have hop := opened_any cs (thS (opA cs) i q) cb co cc g i hn (by omega) q (by omega) _ (HC.out _ hO) hN.out (fit_noted NN.out (thS_len _ _ _) (th_fit NN.out q))
            rw [open_stk NN.out (th_fit NN.out q) (by omega)] at hop
            have hop := hid6 hop
            have hgl := blk_lt hN.out
            have HST := hid6 (stk_starts NN.out (by omega : q ≤ i))
            have hsl : ((stk (opA cs) q).map Blk.s).length ≤ q := by rw [List.length_map]; exact stk_len q
            have HNo : Hid (8 < ((stk (opA cs) q).map Blk.s).length + (if Opn (opA cs) q then 1 else 0) → goodS cs = false) := hid6 fun h => by subst hn; exact no_room hqi (by rwa [List.length_map] at h)
            have HNl : Hid (opA cs q = 52 → lvV (opA cs) i q < 0 → goodS cs = false) := hid6 fun h h2 => by subst hn; exact no_loop NN.out hqi h h2
            have HOk : Hid (((stk (opA cs) q).map Blk.s).length + (if Opn (opA cs) q then 1 else 0) ≤ 8 → (opA cs q = 52 → 0 ≤ lvV (opA cs) i q) → ∀ p, p < q + 1 → standS (opA cs p) (stk (opA cs) p) = true) := hid6 fun h h2 p hp => by
              by_cases h3 : p < q
              · exact hI.out p h3
              · have : p = q := by omega
                subst this
                subst hn
                exact may_stand NN.out hqi (by rwa [List.length_map] at h) h2
            have HA := hid6 (acc_stk NN.out (by omega : q ≤ i) q)
            generalize (stk (opA cs) q).map Blk.s = ss at hop HST hsl HNo HOk HA
            obtain ⟨l, hl⟩ : ∃ l, l = ss.length := ⟨_, rfl⟩
            have HL := hid6 hl
            unfold OpenEnd at hop
            rw [← hl] at hop hsl HNo HOk
            clear hl hI
            by_cases ho : Opn (opA cs) q
            · have hne : ¬ opA cs q = 52 := by unfold Opn at ho; omega
              rw [if_pos ho] at HNo HOk
              have HT : Hid (NumBlk g (thS (opA cs) i (q + 1)) wr) := hid6 (by rw [thS, if_neg hne]; exact hN.out)
              have HOk := hid6 fun h => HOk.out h (fun h => absurd h hne)
              have hcase : (opA cs q = 48 ∨ opA cs q = 51) := ho
              clear HNl HA HST ho hne
              generalize opA cs q = oo at c0 hcase
              by_cases h8 : (8 : Int) < (l : Int) + 1
              · have HNo2 := hid6 (HNo.out (by omega))
                clear HNo HOk HT
                rcases hcase with rfl | rfl
                all_goals
                  go_wp2_with (first | (go_at_call 39; refine hop.out.mono ?_; clear hop; rintro e w7 ⟨a7, c7, rfl, hr7, b7⟩; have c0' := (b7.cell (World.block_lt_of_cell? _ _ c0)).trans c0; have hO7 := hO.trans (Only.below b7)) | fail)
                  go_ret2
                  exact ⟨by rw [HNo2.out]; rfl, HB.out _ hO7⟩
              · have HOk2 := hid6 (HOk.out (by omega))
                clear HNo HOk
                rcases hcase with rfl | rfl
                all_goals
                  go_wp2_with (first | (go_at_call 39; refine hop.out.mono ?_; clear hop; rintro e w7 ⟨a7, c7, rfl, hr7, b7⟩; have c0' := (b7.cell (World.block_lt_of_cell? _ _ c0)).trans c0; have hO7 := hO.trans (Only.below b7)) | fail)
                  exact ⟨⟨q + 1, by go_num, by omega, HOk2, hid6 ((b7.block _ hgl).trans HT.out), hO7⟩, by simp [intOf]; omega⟩
            · have q1 : (opA cs q == 48) = false := by
                have : ¬ opA cs q = 48 := fun h => ho (.inl h)
                simpa using this
              have q2 : (opA cs q == 51) = false := by
                have : ¬ opA cs q = 51 := fun h => ho (.inr h)
                simpa using this
              rw [if_neg ho, Nat.add_zero] at HNo HOk
              clear ho
              by_cases h8 : (8 : Int) < (l : Int)
              · have HNo2 := hid6 (HNo.out (by omega))
                clear HNo HOk HNl HA HST
                generalize opA cs q = oo at c0 q1 q2
                go_wp2_with (first | (go_at_call 39; refine hop.out.mono ?_; clear hop; rintro e w7 ⟨a7, c7, rfl, hr7, b7⟩; have c0' := (b7.cell (World.block_lt_of_cell? _ _ c0)).trans c0; have hO7 := hO.trans (Only.below b7)) | fail)
                go_ret2
                exact ⟨by rw [HNo2.out]; rfl, HB.out _ hO7⟩
              · have HOk2 := hid6 (HOk.out (by omega))
                clear HNo HOk
                by_cases h52 : opA cs q = 52
                · have HTs := hid6 (th_start NN.out hqi h52)
                  have HTn : Hid (thS (opA cs) i (q + 1) = (thS (opA cs) i q).set q (lvV (opA cs) i q)) := hid6 (by rw [thS, if_pos h52])
                  have HOk3 := hid6 fun h => HOk2.out (fun _ => h)
                  have HNl2 := hid6 fun h => HNl.out h52 h
                  have htl := thS_len (opA cs) i q
                  rw [h52] at c0
                  clear HOk2 HNl q1 q2
                  generalize lvV (opA cs) i q = lv at HTn HOk3 HNl2 HA
                  generalize thS (opA cs) i q = ms at hN HTs HTn HA htl
                  clear h52
                  go_wp2_with (first | (go_at_call 39; refine hop.out.mono ?_; clear hop; rintro e w7 ⟨a7, c7, rfl, hr7, b7⟩; have c0' := (b7.cell (World.block_lt_of_cell? _ _ c0)).trans c0; have hO7 := hO.trans (Only.below b7); have hN7 := hid6 ((b7.block _ hgl).trans hN.out); have hr7 := hid6 hr7; clear hN hO c0) | fail)
                  obtain ⟨_, a8, c8, e8, hc8, _⟩ := ns_of_row hr7.out (C := w7.cell?) (fun _ _ _ h => h)
                  cases e8
                  have HNs : Hid (∀ W, Only g w7 W → NsAt W.cell? a7 ss) := hid6 fun W hW => by
                    obtain ⟨_, a9, c9, e9, _, h9⟩ := ns_of_row hr7.out (C := W.cell?) (fun a x hb h => by
                      have hlt := World.block_lt_of_cell? w7 a h
                      rw [← h]
                      exact cell_same (hW.block a.block hlt (fun e => by simp at e; omega)))
                    cases e9
                    exact h9
                  clear hr7
                  go_loopw [13] (fun kv wr => ∃ t : Nat, kv = .int .i64 t ∧ t ≤ l ∧ Hid (NumBlk g (ms.set q (accS (opA cs) ms (ss.take t))) wr) ∧ Only g w7 wr) (fun kv _ => l - (intOf kv).toNat)
                  case atStart => exact ⟨0, rfl, Nat.zero_le _, hid6 (by rw [show accS (opA cs) ms (ss.take 0) = -1 from rfl, HTs.out]; exact hN7.out), Only.refl _ _⟩
                  case round =>
                    obtain ⟨t, rfl, ht, hNt, hOt⟩ := hrel
                    clear hN7 HTs
                    by_cases htl2 : t < l
                    · obtain ⟨s, s1, s2⟩ := HST.out t (by rw [← HL.out]; exact htl2)
                      have hna := HNs.out _ hOt
                      obtain ⟨b8, o8, rfl⟩ := ns_some hna (by rw [← HL.out]; omega)
                      have a0 := ns_at hna t (by rw [← HL.out]; exact htl2)
                      rw [List.getD_eq_getElem?_getD, List.getElem?_eq_getElem (by rw [← HL.out]; exact htl2), Option.getD_some, s1] at a0
                      have c1 := cell_op (HC.out _ (hO7.trans hOt)) s (by omega)
                      have m1 := hNt.out.get (j := s) (by simp; omega)
                      rw [gI, gset _ _ _ _ (by omega), if_neg (by omega)] at m1
                      obtain ⟨g0, g1⟩ := hNt.out.at q (by simp; omega)
                      have HAn : Hid (accS (opA cs) ms (ss.take (t + 1)) = if opA cs s = 51 then ms.getD s 0 else accS (opA cs) ms (ss.take t)) := hid6 (by
                        rw [acc_next (by rw [← HL.out]; exact htl2), s1, Int.toNat_natCast]
                        rfl)
                      clear hna
                      generalize ms.getD s 0 = y at m1 HAn
                      generalize opA cs s = os at c1 HAn
                      by_cases h51 : os = 51
                      · subst h51
                        have HAn2 := hid6 (HAn.out.trans (if_pos rfl))
                        clear HAn
                        go_wp2
                        exact ⟨⟨t + 1, by go_num, by omega, hid6 (by have := hNt.out.set q y; rw [List.set_set] at this; rw [HAn2.out]; exact this), hOt.trans (Only.set _ _ _ _)⟩, by simp [intOf]; omega⟩
                      · have HAn2 := hid6 (HAn.out.trans (if_neg h51))
                        clear HAn
                        go_wp2
                        exact ⟨⟨t + 1, by go_num, by omega, hid6 (by rw [HAn2.out]; exact hNt.out), hOt⟩, by simp [intOf]; omega⟩
                    have htl2 : t = l := by omega
                    subst htl2
                    have hNt2 : Hid (NumBlk g (ms.set q lv) wr) := hid6 (by have := hNt.out; rw [HL.out, List.take_length, HA.out] at this; exact this)
                    have m0 := hNt2.out.get (j := q) (by simp; omega)
                    rw [gI, gset _ _ _ _ (by omega), if_pos rfl] at m0
                    clear hNt
                    by_cases hlv : lv < 0
                    · have HNo2 := hid6 (HNl2.out hlv)
                      clear HNl2 HOk3
                      go_wp2
                      go_ret2
                      exact ⟨by rw [HNo2.out]; rfl, HB.out _ (hO7.trans hOt)⟩
                    · have HOk4 := hid6 (HOk3.out (by omega))
                      clear HNl2 HOk3
                      go_wp2
                      exact ⟨⟨q + 1, by go_num, by omega, HOk4, hid6 (by rw [HTn.out]; exact hNt2.out), hO7.trans hOt⟩, by simp [intOf]; omega⟩
                · have HT : Hid (NumBlk g (thS (opA cs) i (q + 1)) wr) := hid6 (by rw [thS, if_neg h52]; exact hN.out)
                  have HOk3 := hid6 (HOk2.out (fun h => absurd h h52))
                  clear HOk2 HNl HA HST
                  generalize opA cs q = oo at c0 q1 q2 h52
                  go_wp2_with (first | (go_at_call 39; refine hop.out.mono ?_; clear hop; rintro e w7 ⟨a7, c7, rfl, hr7, b7⟩; have c0' := (b7.cell (World.block_lt_of_cell? _ _ c0)).trans c0; have hO7 := hO.trans (Only.below b7)) | fail)
                  exact ⟨⟨q + 1, by go_num, by omega, HOk3, hid6 ((b7.block _ hgl).trans HT.out), hO7⟩, by simp [intOf]; omega⟩
          have hqi : q = i := by omega
          subst hqi
          have HM : Hid (goodS cs = true ∧ thS (opA cs) q q = matchS cs) := hid6 (by
            subst hn
            have hg := (good_iff cs).2 ⟨hI.out, NN.out.nil⟩
            exact ⟨hg, doc_match hg⟩)
          have hN2 := hid6 (HM.out.2 ▸ hN.out)
          clear hI hN
          go_wp2
          go_ret2
          exact ⟨by rw [HM.out.1, if_pos rfl]; exact ⟨g, HG.out, by rw [hn]; rfl, hN2.out⟩, HB.out _ hO⟩
end Go.Proofs.Ytodagpmcmjleaaa
namespace Go.Proofs.Ytodagpmcmjleaaa
open Go.RowKit
theorem good_nil : goodS [] = true := by decide
set_option maxRecDepth 100000 in
set_option maxHeartbeats 1000000 in
theorem rmatch_nil (ca : Option Addr) (cc : Nat) (w : World) : Calls Try.prog 19 #[.slice ca 0 cc] w (MatchEnd [] w) := by
  have hmk := make_run 0 (by omega) w
  have b1 := (Below.refl _ w).alloc (Nat.le_refl _) (.cells (cellsN (fillS 0 0)).toArray 3)
  have n1 : NumBlk w.heap.size (matchS []) (w.alloc (.cells (cellsN (fillS 0 0)).toArray 3)) := heap_alloc_new w _
  generalize w.alloc (.cells (cellsN (fillS 0 0)).toArray 3) = w1 at hmk b1 n1
  have HE : Hid (MatchEnd [] w (.returned (.tuple #[.slice (some ⟨w.heap.size, 0, none⟩) 0 0, .int .i64 0])) w1) := hid6 ⟨by rw [if_pos good_nil]; exact ⟨_, Nat.le_refl _, rfl, n1⟩, b1⟩
  clear b1 n1
  go_enter Try.func19, Try.ntmps19
  have hmk' : Sem.run Try.prog (Instr.makeSlice 23 (.int .i64 0) (.int .i64 0)) w = .ok (.slice (some ⟨w.heap.size, 0, none⟩) 0 0) w1 := hmk
  go_wp2
  go_loopw [5] (fun iv wr => iv = .int .i64 0 ∧ wr = w1) (fun _ _ => 0)
  case atStart => exact ⟨rfl, rfl⟩
  case round =>
    obtain ⟨rfl, rfl⟩ := hrel
    go_wp2
    go_loopw [6] (fun iv w5 => iv = .int .i64 0 ∧ w5 = wr) (fun _ _ => 0)
    case atStart => exact ⟨rfl, rfl⟩
    case round =>
      obtain ⟨rfl, rfl⟩ := hrel
      go_wp2
      go_loopw [9] (fun iv w5 => iv = .int .i64 0 ∧ w5 = wr) (fun _ _ => 0)
      case atStart => exact ⟨rfl, rfl⟩
      case round =>
        obtain ⟨rfl, rfl⟩ := hrel
        go_wp2
        go_loopw [10] (fun iv w5 => iv = .int .i64 0 ∧ w5 = wr) (fun _ _ => 0)
        case atStart => exact ⟨rfl, rfl⟩
        case round =>
          obtain ⟨rfl, rfl⟩ := hrel
          go_wp2
          go_ret2
          exact HE.out
theorem rmatch_any (cs : List (Int × Int)) (ca : Option Addr) (cc n : Nat) (hn : cs.length = n) (bn : n ≤ 1000000) (w : World) (hc : IsAt w.cell? ca cs) : Calls Try.prog 19 #[.slice ca n cc] w (MatchEnd cs w) := by
  by_cases h0 : n = 0
  · subst h0
    have : cs = [] := List.eq_nil_of_length_eq_zero hn
    subst this
    exact rmatch_nil ca cc w
  · obtain ⟨b, off, rfl⟩ := is_some hc (by omega)
    exact rmatch_some cs b off cc n hn bn (by omega) w hc
/-- How deep the document finds them. -/
def docD (op : Nat → Int) : Nat → Nat
  | 0 => 0
  | k + 1 => max (docD op k) ((stk op k).length + (if Opn op k then 1 else 0))
theorem stk_opn {op : Nat → Int} {k : Nat} (h : Opn op k) : (stk op (k + 1)).length = (stk op k).length + 1 := by
  have h' : op k = 48 ∨ op k = 51 := h
  rw [stk, stepS, if_pos h', List.length_append]; rfl
theorem docD_dep (cs : List (Int × Int)) : ∀ k, dep cs k ≤ docD (opA cs) k ∧ docD (opA cs) k ≤ max (dep cs k) (stk (opA cs) k).length
  | 0 => ⟨Nat.le_refl _, Nat.zero_le _⟩
  | k + 1 => by
    obtain ⟨a, b⟩ := docD_dep cs k
    rw [docD, dep, mst_stk]
    by_cases h : Opn (opA cs) k
    · rw [if_pos h, stk_opn h]; omega
    · rw [if_neg h]; omega
theorem docD_all {cs : List (Int × Int)} (N : Nest (opA cs) cs.length) : docD (opA cs) cs.length = dep cs cs.length := by
  have := docD_dep cs cs.length
  rw [N.nil] at this
  simp only [List.length_nil] at this
  omega
theorem docD_le (op : Nat → Int) : ∀ k, docD op k ≤ k
  | 0 => Nat.le_refl _
  | k + 1 => by
    have := docD_le op k
    have := stk_len (op := op) k
    rw [docD]
    split <;> omega
end Go.Proofs.Ytodagpmcmjleaaa
