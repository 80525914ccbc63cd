/- shape.Around: what it does for each open block. The document's last, opened. What the document's Match notes of leaves; when it says no: plain facts. -/
import Derived.Test.YtfnpngbcnmglfaaGreatYF
import Derived.Test.YtfnpngbcnmglfaaGreatST
namespace Go.Proofs.YtfnpngbcnmglfaaGreat
open Go.RowKit
/-- Places noted so far, in a row of its own behind its box. -/
structure Pls (q : Nat) (ns : List Int) (a : Option Addr) (cap : Nat) (W : World) : Prop where
  box : W.heap[q]? = some (.cells #[.slice a ns.length cap] 28 (0, 0))
  row : W.ownsRow (q + 1) 3 1 (.slice a ns.length cap) ns.length (cellsN ns)
theorem Pls.keep {q : Nat} {ns : List Int} {a : Option Addr} {cap : Nat} {W W' : World} (h : Pls q ns a cap W) (hb : Below W.heap.size W W') : Pls q ns a cap W' := ⟨(hb.block _ (blk_lt h.box)).trans h.box, row_below2 h.row hb⟩
/-- Only lists of numbers have turned. -/
def MvP (W W' : World) : Prop := W.heap.size ≤ W'.heap.size ∧ ∀ (k : Nat) (cur : Array Value) (t : TypeId) (z : Nat × Nat), t ≠ 28 → t ≠ 3 → W.heap[k]? = some (.cells cur t z) → W'.heap[k]? = some (.cells cur t z)
theorem MvP.refl (W : World) : MvP W W := ⟨Nat.le_refl _, fun _ _ _ _ _ _ h => h⟩
theorem MvP.trans {A B C : World} (h : MvP A B) (g : MvP B C) : MvP A C := ⟨Nat.le_trans h.1 g.1, fun k cur t z h1 h2 hk => g.2 k cur t z h1 h2 (h.2 k cur t z h1 h2 hk)⟩
theorem MvP.below {W W' : World} (h : Below W.heap.size W W') : MvP W W' := ⟨h.size, fun k _ _ _ _ _ hk => (h.block k (blk_lt hk)).trans hk⟩
theorem MvP.set {W : World} {b o : Nat} {cs : Array Value} {z : Nat × Nat} {u : Value} (hb : W.heap[b]? = some (.cells cs 28 z)) : MvP W (W.setCell ⟨b, o, none⟩ u) := by
  refine ⟨by simp [World.setCell], fun k cur t z' h1 h2 hk => (Below.heap_setCell _ _ _ k fun e => ?_).trans hk⟩
  subst e
  rw [hb] at hk
  cases hk
  exact h1 rfl
theorem MvP.step {W W' : World} {base n : Nat} {v v' : Value} {xs : List Value} (hr : W.ownsRow base 3 1 v n xs) (hs : Step W v W' v') : MvP W W' := by
  refine ⟨hs.1.size, fun k cur t z h1 h2 hk => (hs.1.block k (blk_lt hk) fun h => ?_).trans hk⟩
  rcases hr.2 with ⟨rfl, _⟩ | ⟨g, cap, cur', rfl, _, hh, _⟩
  · cases h
  · cases h
    rw [hk] at hh
    cases hh
    exact h2 rfl
def PlsEnd (q : Nat) (ns : List Int) (W : World) (e : Ending) (w' : World) : Prop := e = .returned (.tuple #[]) ∧ (∃ a cap, Pls q ns a cap w') ∧ Below q W w' ∧ MvP W w'
theorem Stk.mvp {base p : Nat} {L : List Blk} {a : Option Addr} {cap : Nat} {W W' : World} (h : Stk base p L a cap W) (m : MvP W W') : Stk base p L a cap W' := by
  refine ⟨m.2 _ _ _ _ (by decide) (by decide) h.box, h.row.1, ?_⟩
  rcases h.row.2 with h2 | ⟨g, c, cur, e, hg, hh, r⟩
  · exact .inl h2
  · exact .inr ⟨g, c, cur, e, hg, m.2 _ _ _ _ (by decide) (by decide) hh, r⟩
end Go.Proofs.YtfnpngbcnmglfaaGreat
namespace Go.Proofs.YtfnpngbcnmglfaaGreat
open Go.RowKit
def gI (ms : List Int) (j : Nat) : Int := ms.getD j 0
/-- What is noted, and where: every opener leads to a place. -/
structure Noted (op : Nat → Int) (n : Nat) (ms : List Int) : Prop where
  len : ms.length = n
  rng : ∀ j, j < n → Opn op j → 0 ≤ gI ms j ∧ gI ms j < n
set_option maxRecDepth 100000 in
set_option maxHeartbeats 1000000 in
theorem last6_any (cs : List (Int × Int)) (ms : List Int) (cb co cc g n : Nat) (hn : cs.length = n) (i : Nat) (hi : i < n) (w : World) (hc : IsAt w.cell? (some ⟨cb, co, none⟩) cs) (hm : NumBlk g ms w) (hN : Noted (opA cs) n ms) (ho : Opn (opA cs) i) :
    Calls Tryz.prog 210 #[.slice (some ⟨cb, co, none⟩) n cc, .slice (some ⟨g, 0, none⟩) n n, .int .i64 i] w fun e w' => e = .returned (.int .i64 (lastS (opA cs) (gI ms) i)) ∧ w' = w := by
  have hv : ∀ j, j < n → w.cell? ⟨g, j, none⟩ = some (.int .i64 (gI ms j)) := fun j hj => by
    have hl := hN.len
    have := (hm.at j (by omega)).1
    rwa [gI, List.getD_eq_getElem?_getD, List.getElem?_eq_getElem (by omega)]
  have m0 := hv i hi
  obtain ⟨r0, r1⟩ := hN.rng i hi ho
  obtain ⟨k, hk⟩ : ∃ k : Nat, gI ms i = k := ⟨(gI ms i).toNat, by omega⟩
  have c0 := cell_op hc k (by omega)
  have m1 := hv k (by omega)
  have HE : Hid (lastS (opA cs) (gI ms) i = if opA cs k = 49 then gI ms k else (k : Int)) := hid6 (by
    unfold lastS
    simp only [hk, Int.toNat_natCast])
  rw [hk] at m0
  have hkn : k < n := by omega
  generalize opA cs k = o at c0 HE
  generalize gI ms k = y at m1 HE
  clear hc hm hN ho hv hn r0 r1 hk
  by_cases h49 : o = 49
  · subst h49
    have HE := hid6 (HE.out.trans (if_pos rfl))
    go_enter Tryz.func210, Tryz.ntmps210
    go_wp2
    go_ret
    exact ⟨by rw [HE.out]; rfl, rfl⟩
  · have HE := hid6 (HE.out.trans (if_neg h49))
    go_enter Tryz.func210, Tryz.ntmps210
    go_wp2
    go_ret
    exact ⟨by rw [HE.out]; rfl, rfl⟩
def OpenEnd (ns : List Int) (w : World) (e : Ending) (w' : World) : Prop := ∃ a cc, e = .returned (.slice a ns.length cc) ∧ w'.ownsRow w.heap.size 3 1 (.slice a ns.length cc) ns.length (cellsN ns) ∧ Below w.heap.size w w'
set_option maxRecDepth 100000 in
set_option maxHeartbeats 1000000 in
theorem opened_any (cs : List (Int × Int)) (ms : List Int) (cb co cc g n : Nat) (hn : cs.length = n) (bn : n ≤ 1000000000) (i : Nat) (hi : i ≤ n) (w : World) (hc : IsAt w.cell? (some ⟨cb, co, none⟩) cs) (hm : NumBlk g ms w) (hN : Noted (opA cs) n ms) :
    Calls Tryz.prog 158 #[.slice (some ⟨cb, co, none⟩) n cc, .slice (some ⟨g, 0, none⟩) n n, .int .i64 i] w (OpenEnd ((openS (opA cs) (gI ms) i i).map (fun (j : Nat) => (j : Int))) w) := by
  have HL : Hid (∀ W j, j < i → Opn (opA cs) j → Below w.heap.size w W → Calls Tryz.prog 210 #[.slice (some ⟨cb, co, none⟩) n cc, .slice (some ⟨g, 0, none⟩) n n, .int .i64 j] W fun e w' => e = .returned (.int .i64 (lastS (opA cs) (gI ms) j)) ∧ w' = W) := hid6 fun W j hj ho hb =>
    last6_any cs ms cb co cc g n hn j (by omega) W (hc.keep fun a v h => (hb.cell (World.block_lt_of_cell? w a h)).trans h) ((hb.block _ (blk_lt hm)).trans hm) hN ho
  have HC : Hid (∀ W j, j < n → Below w.heap.size w W → W.cell? ⟨cb, co + j * 2, none⟩ = some (.int .i64 (opA cs j))) := hid6 fun W j hj hb => cell_op (hc.keep fun a v h => (hb.cell (World.block_lt_of_cell? w a h)).trans h) j (by omega)
  obtain ⟨L, hL⟩ : ∃ L : Nat → List Int, L = fun k => (openS (opA cs) (gI ms) i k).map (fun (j : Nat) => (j : Int)) := ⟨_, rfl⟩
  have HL0 : Hid (L 0 = []) := hid6 (by rw [hL]; rfl)
  have HLl : Hid (∀ k, (L k).length ≤ k) := hid6 (by
    intro k
    rw [hL]
    simp only [List.length_map]
    induction k with
    | zero => exact Nat.zero_le _
    | succ k ih =>
      rw [openS]
      split
      · rw [List.length_append]; exact Nat.succ_le_succ ih
      · omega)
  have HL1 : Hid (∀ k, Opn (opA cs) k → (i : Int) ≤ lastS (opA cs) (gI ms) k → L (k + 1) = L k ++ [(k : Int)]) := hid6 fun k a b => by
    rw [hL]
    simp only [openS, if_pos (And.intro a b), List.map_append, List.map_cons, List.map_nil]
  have HL2 : Hid (∀ k, ¬ (Opn (opA cs) k ∧ (i : Int) ≤ lastS (opA cs) (gI ms) k) → L (k + 1) = L k) := hid6 fun k a => by
    rw [hL]
    simp only [openS, if_neg a]
  rw [show (openS (opA cs) (gI ms) i i).map (fun (j : Nat) => (j : Int)) = L i by rw [hL]]
  clear hL hc hm hN hn
  go_enter Tryz.func158, Tryz.ntmps158
  go_wp2
  go_loopw [7, 8] (fun v kv wr => ∃ k : Nat, kv = .int .i64 k ∧ k ≤ i ∧ wr.ownsRow w.heap.size 3 1 v (L k).length (cellsN (L k)) ∧ Below w.heap.size w wr) (fun _ kv _ => i - (intOf kv).toNat)
  case atStart => exact ⟨0, rfl, Nat.zero_le _, by rw [HL0.out]; exact World.ownsRow_nil _ _ _ _, Below.refl _ _⟩
  case round =>
    obtain ⟨k, rfl, hk, hrow, hb⟩ := hrel
    by_cases hki : k < i
    · have c0 := HC.out wr k (by omega) hb
      have hkl := HLl.out k
      by_cases ho : Opn (opA cs) k
      · have hlast := hid6 (HL.out wr k hki ho hb)
        have HL1 := hid6 (HL1.out k ho)
        have HL2 := hid6 (HL2.out k)
        generalize hx : lastS (opA cs) (gI ms) k = x at hlast HL1 HL2
        clear hx
        have hcase : (opA cs k = 48 ∨ opA cs k = 51) := ho
        generalize opA cs k = o at c0 hcase
        have hr := hid6 hrow
        obtain ⟨av, ac, e0, _⟩ := row_form hrow
        clear hrow
        subst e0
        by_cases hix : (i : Int) ≤ x
        · have HE : Hid (L (k + 1) = L k ++ [(k : Int)]) := hid6 (HL1.out hix)
          clear HL1 HL2
          have b1 := hid6 (hb.alloc hb.size (.cells #[.int .i64 (k : Int)] 3))
          have r1 := hid6 (World.ownsRow.alloc hr.out (.cells #[.int .i64 (k : Int)] 3))
          have hbs := hb.size
          rcases hcase with rfl | rfl
          all_goals
            go_wp2_with (first
              | (go_at_call 210; refine hlast.out.mono ?_; clear hlast; rintro e w9 ⟨rfl, w9e⟩; rw [w9e]; clear w9e)
              | (at_builtin; refine wpList_appN _ rfl _ _ 28 rfl elemN_int w.heap.size _ (L k).length (cellsN (L k)) rfl r1.out _ rfl 1 [.int .i64 (k : Int)] (.inr ⟨⟨_, 0, none⟩, 1, rfl, cells_new6 _ [.int .i64 (k : Int)] 3 _ rfl⟩) rfl (by simp [Value.oneCell']) (by unfold maxLen; omega) (by omega) (by simp; omega) ?_; intro v' w6 hr6 hs6)
              | fail)
            refine ⟨⟨k + 1, by go_num, by omega, ?_, b1.out.trans (hs6.below (by simp; omega) fun g e => (r1.out.lt g e).1)⟩, by simp [intOf]; omega⟩
            rw [HE.out, List.length_append, show cellsN (L k ++ [(k : Int)]) = cellsN (L k) ++ [.int .i64 (k : Int)] by simp [cellsN]]
            exact hr6
        · have HE : Hid (L (k + 1) = L k) := hid6 (HL2.out fun h => hix h.2)
          clear HL1 HL2
          rcases hcase with rfl | rfl
          all_goals
            go_wp2_with (first
              | (go_at_call 210; refine hlast.out.mono ?_; clear hlast; rintro e w9 ⟨rfl, w9e⟩; rw [w9e]; clear w9e)
              | fail)
            refine ⟨⟨k + 1, by go_num, by omega, ?_, hb⟩, by simp [intOf]; omega⟩
            rw [HE.out]
            exact hr.out
      · have HE : Hid (L (k + 1) = L k) := hid6 (HL2.out k fun h => ho h.1)
        have o1 : ¬ opA cs k = 48 := fun h => ho (.inl h)
        have o2 : ¬ opA cs k = 51 := fun h => ho (.inr h)
        have hr := hid6 hrow
        obtain ⟨av, ac, e0, _⟩ := row_form hrow
        clear hrow ho
        subst e0
        generalize opA cs k = o at c0 o1 o2
        go_wp2
        refine ⟨⟨k + 1, by go_num, by omega, ?_, hb⟩, by simp [intOf]; omega⟩
        rw [HE.out]
        exact hr.out
    · have hki : k = i := by omega
      subst hki
      have hr := hid6 hrow
      obtain ⟨av, ac, e0, _⟩ := row_form hrow
      clear hrow
      subst e0
      go_wp2
      go_ret
      exact ⟨av, ac, rfl, hr.out, hb⟩
end Go.Proofs.YtfnpngbcnmglfaaGreat
namespace Go.Proofs.YtfnpngbcnmglfaaGreat
def lvV (op : Nat → Int) (n j : Nat) : Int := if lvS (stk op j) = -1 then -1 else gI (docS op n n) (lvS (stk op j)).toNat
def thS (op : Nat → Int) (n : Nat) : Nat → List Int
  | 0 => docS op n n
  | k + 1 => if op k = 52 then (thS op n k).set k (lvV op n k) else thS op n k
theorem thS_len (op : Nat → Int) (n : Nat) : ∀ k, (thS op n k).length = n
  | 0 => docS_len op n n
  | k + 1 => by
    rw [thS]
    split
    · rw [List.length_set, thS_len op n k]
    · exact thS_len op n k
theorem thS_get {op : Nat → Int} {n j : Nat} (hj : j < n) : ∀ k, gI (thS op n k) j = if op j = 52 ∧ j < k then lvV op n j else gI (docS op n n) j
  | 0 => by rw [if_neg (by omega)]; rfl
  | k + 1 => by
    have ih := thS_get (op := op) hj k
    rw [thS]
    by_cases h : op k = 52
    · rw [if_pos h, gI, gset _ _ _ _ (by rw [thS_len]; exact hj)]
      by_cases hk : k = j
      · subst hk
        rw [if_pos rfl, if_pos ⟨h, Nat.lt_succ_self _⟩]
      · rw [if_neg hk]
        refine ih.trans ?_
        by_cases hc : op j = 52 ∧ j < k
        · rw [if_pos hc, if_pos ⟨hc.1, by omega⟩]
        · rw [if_neg hc, if_neg (fun h => hc ⟨h.1, by omega⟩)]
    · rw [if_neg h, ih]
      by_cases hc : op j = 52 ∧ j < k
      · rw [if_pos hc, if_pos ⟨hc.1, by omega⟩]
      · rw [if_neg hc, if_neg (fun h2 => hc ⟨h2.1, by have : j ≠ k := by rintro rfl; exact h h2.1
                                                      omega⟩)]
theorem doc_fit {op : Nat → Int} {n : Nat} (N : Nest op n) : Fit op n (fun _ _ => True) (gI (docS op n n)) := fun s o e hC _ he => docFit N n (Nat.le_refl _) s o e hC (by have := hC.lt; show s < n; omega) he
theorem th_fit {op : Nat → Int} {n : Nat} (N : Nest op n) (k : Nat) : Fit op n (fun _ _ => True) (gI (thS op n k)) := by
  intro s o e hC _ he
  obtain ⟨i1, i2, i3⟩ := doc_fit N s o e hC trivial he
  have q1 := hC.end'
  have q2 := hC.lt
  have q3 := hC.opn
  unfold Opn at q3
  refine ⟨?_, ?_, fun x ex => ?_⟩
  · rw [thS_get he, if_neg (by omega)]; exact i1
  · rw [thS_get (by omega), if_neg (by omega)]; exact i2
  · obtain ⟨c1, c2, c3, c4⟩ := hC.els' ex
    rw [thS_get (by omega), if_neg (by omega)]; exact i3 x ex
theorem fit_noted {op : Nat → Int} {n : Nat} {ms : List Int} (N : Nest op n) (hl : ms.length = n) (hf : Fit op n (fun _ _ => True) (gI ms)) : Noted op n ms := by
  refine ⟨hl, fun j hj ho => ?_⟩
  obtain ⟨o, e, he, hC⟩ := N.opn hj ho
  rw [(hf _ _ _ hC trivial he).2.1]
  have := hC.lt
  split
  · omega
  · rcases hC.els with c | ⟨x, c1, c2, c3, _⟩ <;> omega
theorem firstIx_snoc (L : List Blk) (b : Blk) : ∀ k, k ≤ L.length → firstIx (L ++ [b]) Blk.l k = firstIx L Blk.l k
  | 0, _ => rfl
  | k + 1, h => by
    rw [firstIx, firstIx, List.getElem?_append_left (by omega), firstIx_snoc L b k (by omega)]
theorem lvS_snoc (L : List Blk) (b : Blk) : lvS (L ++ [b]) = if b.l = true then b.s else lvS L := by
  unfold lvS
  rw [List.length_append, List.length_singleton, firstIx]
  simp only [List.getElem?_concat_length]
  by_cases h : b.l = true
  · rw [if_pos h, if_pos h]; simp
  · rw [if_neg h, if_neg h, firstIx_snoc L b _ (Nat.le_refl _)]
    cases hf : firstIx L Blk.l L.length with
    | none => rfl
    | some i =>
      obtain ⟨hi, _⟩ := firstIx_lt hf
      simp only
      rw [List.getElem?_append_left hi]
def accS (op : Nat → Int) (ms : List Int) (L : List Int) : Int := L.foldl (fun a s => if op s.toNat = 51 then gI ms s.toNat else a) (-1)
theorem acc_lv {op : Nat → Int} {ms : List Int} (L : List Blk) (h : ∀ b ∈ L, 0 ≤ b.s ∧ b.l = decide (op b.s.toNat = 51)) : accS op ms (L.map Blk.s) = if lvS L = -1 then -1 else gI ms (lvS L).toNat := by
  rcases List.eq_nil_or_concat L with rfl | ⟨M, b, rfl⟩
  · rfl
  rw [List.concat_eq_append] at h ⊢
  obtain ⟨h1, h2⟩ := h b (by simp)
  have ih := acc_lv (op := op) (ms := ms) M (fun c hc => h c (by simp [hc]))
  rw [lvS_snoc, List.map_append, accS, List.foldl_append]
  simp only [List.map_cons, List.map_nil, List.foldl_cons, List.foldl_nil]
  rw [show List.foldl (fun a s => if op s.toNat = 51 then gI ms s.toNat else a) (-1) (M.map Blk.s) = accS op ms (M.map Blk.s) from rfl, ih]
  by_cases hb : op b.s.toNat = 51
  · have hbl : b.l = true := by rw [h2]; exact decide_eq_true hb
    rw [if_pos hb, if_pos hbl, if_neg (by omega)]
  · have hbl : ¬ b.l = true := by rw [h2]; simpa using hb
    rw [if_neg hb, if_neg hbl]
termination_by L.length
decreasing_by
  subst_vars
  simp
theorem acc_stk {op : Nat → Int} {n i : Nat} (N : Nest op n) (hi : i ≤ n) (k : Nat) : accS op (thS op n k) ((stk op i).map Blk.s) = lvV op n i := by
  have hb : ∀ b ∈ stk op i, ∃ s : Nat, b.s = s ∧ s < i ∧ b.l = decide (op s = 51) := by
    intro b hb
    obtain ⟨A, R, hA⟩ := List.append_of_mem hb
    obtain ⟨s, p1, p2, p3, p4, _⟩ := (N.ci i hi).blk A b R hA
    exact ⟨s, p1, p2, p4⟩
  rw [acc_lv _ (fun b h => by obtain ⟨s, a1, a2, a3⟩ := hb b h; rw [a1, Int.toNat_natCast]; exact ⟨by omega, a3⟩), lvV]
  by_cases h : lvS (stk op i) = -1
  · rw [if_pos h, if_pos h]
  · rw [if_neg h, if_neg h]
    have hs : (firstIx (stk op i) Blk.l (stk op i).length).isSome = true := by
      cases hf : firstIx (stk op i) Blk.l (stk op i).length with
      | none => exact absurd (by rw [lvS, hf]) h
      | some _ => rfl
    obtain ⟨s, a1, a2, a3⟩ := lvS_some N hi hs
    rw [a2, Int.toNat_natCast, thS_get (by omega), if_neg (by omega)]
theorem good_size {cs : List (Int × Int)} (h : goodS cs = true) : ∀ i, i ≤ cs.length → (stk (opA cs) i).length ≤ 8
  | 0, _ => Nat.zero_le _
  | i + 1, hi => by
    have ih := good_size h i (by omega)
    have hs := ((good_iff cs).1 h).1 i (by omega)
    rw [stk]
    unfold stepS
    split
    · rename_i ho
      rw [standS, if_pos ho] at hs
      have := of_decide_eq_true hs
      rw [List.length_append]; simp; omega
    split
    · cases (stk (opA cs) i).getLast? with
      | none => exact ih
      | some b => simp; omega
    split
    · rw [List.length_dropLast]; omega
    · exact ih
/-- When the document says no. -/
theorem no_end {cs : List (Int × Int)} {i : Nat} (hi : i < cs.length) (ho : Opn (opA cs) i) (he : (closeAt (opA cs) cs.length i).2 < 0) : goodS cs = false := by
  cases hg : goodS cs with
  | false => rfl
  | true =>
    obtain ⟨o, e, h1, hC⟩ := (good_nest hg).opn hi ho
    rw [hC.at'] at he
    simp only at he
    omega
theorem no_claim {cs : List (Int × Int)} {j : Nat} (hj : j < cs.length) (ho : opA cs j = 49 ∨ opA cs j = 50) (he : gI (docS (opA cs) cs.length cs.length) j < 0) : goodS cs = false := by
  cases hg : goodS cs with
  | false => rfl
  | true =>
    have N := good_nest hg
    rcases ho with ho | ho
    · obtain ⟨s, e, h1, hC⟩ := N.els hj ho
      have := (doc_fit N _ _ _ hC trivial h1).2.2 j rfl
      omega
    · obtain ⟨s, o, hC⟩ := N.ends hj ho
      have := (doc_fit N _ _ _ hC trivial hj).1
      omega
theorem no_room {cs : List (Int × Int)} {i : Nat} (hi : i < cs.length) (h : 8 < (stk (opA cs) i).length + (if Opn (opA cs) i then 1 else 0)) : goodS cs = false := by
  cases hg : goodS cs with
  | false => rfl
  | true =>
    have h1 := good_size hg i (by omega)
    have hs := ((good_iff cs).1 hg).1 i (by omega)
    split at h
    · rename_i ho
      have ho' : opA cs i = 48 ∨ opA cs i = 51 := ho
      rw [standS, if_pos ho'] at hs
      have := of_decide_eq_true hs
      omega
    · omega
theorem no_loop {cs : List (Int × Int)} {i : Nat} (N : Nest (opA cs) cs.length) (hi : i < cs.length) (ho : opA cs i = 52) (h : lvV (opA cs) cs.length i < 0) : goodS cs = false := by
  cases hg : goodS cs with
  | false => rfl
  | true =>
    have hs := ((good_iff cs).1 hg).1 i (by omega)
    rw [ho] at hs
    obtain ⟨s, a1, a2, a3⟩ := lvS_some N (by omega : i ≤ cs.length) (by simpa [standS] using hs)
    rw [lvV, a2, if_neg (by omega), Int.toNat_natCast] at h
    obtain ⟨o, e, h1, hC⟩ := N.opn (by omega : s < cs.length) (.inr a3)
    have := ((fit_noted N (docS_len _ _ _) (doc_fit N)).rng s (by omega) (.inr a3)).1
    omega
/-- When it may stand there. -/
theorem may_stand {cs : List (Int × Int)} {i : Nat} (N : Nest (opA cs) cs.length) (hi : i < cs.length) (h8 : (stk (opA cs) i).length + (if Opn (opA cs) i then 1 else 0) ≤ 8) (hl : opA cs i = 52 → 0 ≤ lvV (opA cs) cs.length i) : standS (opA cs i) (stk (opA cs) i) = true := by
  have hn := N.nst i hi
  unfold standN at hn
  unfold standS
  by_cases h1 : opA cs i = 48 ∨ opA cs i = 51
  · rw [if_pos h1]
    rw [if_pos (show Opn (opA cs) i from h1)] at h8
    exact decide_eq_true (by omega)
  rw [if_neg h1]
  by_cases h2 : opA cs i = 49
  · rw [if_pos h2] at hn ⊢; exact hn
  rw [if_neg h2] at hn ⊢
  by_cases h3 : opA cs i = 50
  · rw [if_pos h3] at hn ⊢; exact hn
  rw [if_neg h3]
  by_cases h4 : opA cs i = 52
  · rw [if_pos h4]
    have := hl h4
    cases hf : firstIx (stk (opA cs) i) Blk.l (stk (opA cs) i).length with
    | none =>
      rw [lvV, lvS, hf] at this
      simp at this
    | some _ => rfl
  · rw [if_neg h4]
theorem doc_match {cs : List (Int × Int)} (hg : goodS cs = true) : thS (opA cs) cs.length cs.length = matchS cs := by
  have N := good_nest hg
  have G : GM (opA cs) cs.length (gI (thS (opA cs) cs.length cs.length)) := by
    refine ⟨th_fit N _, fun j hj e => ?_, fun j hj a b c d => ?_⟩
    · have hs := ((good_iff cs).1 hg).1 j hj
      rw [e] at hs
      obtain ⟨s, a1, a2, a3⟩ := lvS_some N (by omega : j ≤ cs.length) (by simpa [standS] using hs)
      refine ⟨s, a1, a2, a3, ?_⟩
      rw [thS_get hj, if_pos ⟨e, hj⟩, thS_get (by omega), if_neg (by omega), lvV, a2, if_neg (by omega), Int.toNat_natCast]
    · rw [thS_get hj, if_neg (fun h => d h.1)]
      exact docOth N _ (Nat.le_refl _) j hj a b c
  have U := G.uniq N (match_gm hg)
  refine List.ext_getElem (by rw [thS_len, matchS_len]) fun j h1 h2 => ?_
  rw [thS_len] at h1
  have := U j h1
  simp only [gI] at this
  rwa [List.getD_eq_getElem?_getD, List.getD_eq_getElem?_getD, List.getElem?_eq_getElem (by rw [thS_len]; exact h1), List.getElem?_eq_getElem h2] at this
end Go.Proofs.YtfnpngbcnmglfaaGreat
