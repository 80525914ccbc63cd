/- asm.Head. -/
import Derived.Test.YtbjipcpoiiegkaaGreatDoorAJ
import Derived.Test.YtbjipcpoiiegkaaGreatDoorAN
namespace Go.Proofs.YtbjipcpoiiegkaaGreatDoor
open Go.RowKit
/-- The words that stand ahead of the parts lie in their variable. -/
structure Marks (w : World) : Prop where
  m0 : w.cell? ⟨0, 0, none⟩ = some (.string ⟨#[102, 117, 110, 99]⟩)
  m1 : w.cell? ⟨0, 1, none⟩ = some (.string ⟨#[45, 62]⟩)
  m2 : w.cell? ⟨0, 2, none⟩ = some (.string ⟨#[59]⟩)
theorem Marks.keep {w w' : World} (h : Marks w) (hb : Below w.heap.size w w') : Marks w' := ⟨below_keep hb _ _ h.m0, below_keep hb _ _ h.m1, below_keep hb _ _ h.m2⟩
def headWs (f : Fn) : Nat → List (List UInt8)
  | 0 => []
  | 1 => [102, 117, 110, 99] :: f.p.map kindW
  | 2 => [102, 117, 110, 99] :: f.p.map kindW ++ [45, 62] :: f.r.map kindW
  | _ => [102, 117, 110, 99] :: f.p.map kindW ++ [45, 62] :: f.r.map kindW ++ [59] :: f.l.map kindW
theorem join_cons (x : List UInt8) (xs : List (List UInt8)) : Lib.join (x :: xs) [32] = x ++ xs.flatMap (32 :: ·) := by
  unfold Lib.join
  induction xs generalizing x with
  | nil => simp [List.intercalate]
  | cons y r ih =>
    have := ih y
    simp only [List.intercalate] at this ⊢
    simp [List.intersperse] at this ⊢
    rw [this]
theorem head_join (f : Fn) : Lib.join (headWs f 3) [32] = headW f := by
  show Lib.join (([102, 117, 110, 99] : List UInt8) :: (f.p.map kindW ++ [45, 62] :: f.r.map kindW ++ [59] :: f.l.map kindW)) [32] = _
  rw [join_cons]
  simp [headW, rowW, List.flatMap_map]
theorem cellsS_snoc (L : List (List UInt8)) (x : List UInt8) : cellsS (L ++ [x]) = cellsS L ++ [Value.string ⟨x.toArray⟩] := by simp [cellsS]
theorem cells_new5 (W : World) (xs : List Value) (t : TypeId) (B : Nat) (hB : W.heap.size = B) : ∀ j u, xs[j]? = some u → (W.alloc (.cells xs.toArray t)).cell? ((⟨B, 0, none⟩ : Addr).add j) = some u := by
  subst hB
  intro j u hu
  rw [Addr.add_lit, Lib.cell_of_heap (heap_alloc_new W (.cells xs.toArray t))]
  simpa using hu
theorem rowOk_stop {ns : List Int} {k : Nat} (h : k < ns.length) (e : kindW ns[k] = []) : rowOk ns = false := by
  unfold rowOk
  rw [List.all_eq_false]
  exact ⟨ns[k], by simp, by simp [e]⟩
theorem headS_no {f : Fn} (h : rowOk f.p = false ∨ rowOk f.r = false ∨ rowOk f.l = false) : headS f = [] := by
  unfold headS headOk
  rcases h with h | h | h <;> simp [h]
/-- A word is laid behind an owned row of words. -/
theorem words_step {w wr w6 : World} {k : Nat} {v v' : Value} {xs : List Value} {o : Obj} (hb : Below w.heap.size w wr) (hrow : wr.ownsRow w.heap.size 9 1 v k xs) (hs : Step (wr.alloc o) v w6 v') : Below w.heap.size w w6 := by
  have h1 := hb.alloc hb.size o
  exact h1.trans (hs.below h1.size fun g hg => (World.ownsRow.lt hrow g hg).1)
set_option maxRecDepth 100000 in
set_option maxHeartbeats 2000000 in
theorem head_any (f : Fn) (v0 v1 v2 v3 : Value) (w : World) (hM : Marks w) (hf : FnIs w.cell? f v0 v1 v2 v3) (hb : f.p.length ≤ 1048576 ∧ f.r.length ≤ 1048576 ∧ f.l.length ≤ 1048576) : Calls Tryz.prog 16 #[.agg #[v0, v1, v2, v3]] w fun e w' => e = .returned (.string ⟨(headS f).toArray⟩) ∧ Below w.heap.size w w' := by
  obtain ⟨⟨a0, c0, rfl, F0⟩, ⟨a1, c1, rfl, F1⟩, ⟨a2, c2, rfl, F2⟩, ⟨a3, c3, rfl, F3⟩⟩ := hf
  go_enter Tryz.func16, Tryz.ntmps16
  go_wp2_with fail
  generalize hW2 : w.alloc _ = W2
  have hb2 : Below w.heap.size w W2 := by rw [← hW2]; exact (Below.refl _ w).alloc (Nat.le_refl _) _
  go_loopw [3, 16] (fun v i wr => ∃ k : Nat, k ≤ 3 ∧ i = .int .i64 k ∧ wr.ownsRow w.heap.size 9 1 v (headWs f k).length (cellsS (headWs f k)) ∧ Hid ((0 < k → rowOk f.p = true) ∧ (1 < k → rowOk f.r = true) ∧ (2 < k → rowOk f.l = true)) ∧ Below w.heap.size w wr) (fun _ i _ => 3 - (intOf i).toNat)
  case atStart => exact ⟨0, Nat.zero_le _, rfl, World.ownsRow_nil _ _ _ _, hid ⟨by omega, by omega, by omega⟩, hb2⟩
  case round =>
    obtain ⟨k, hk, rfl, hrow, HO, hbr⟩ := hrel
    by_cases hlt : k < 3
    · have hMr := hM.keep hbr
      obtain ⟨e0, e1, e2⟩ := hMr
      have h3 : k = 0 ∨ k = 1 ∨ k = 2 := by omega
      have hx : ∀ y0 y1 y2 : Value, ∀ W : World, (Instr.index 62 (.agg #[y0, y1, y2]) (.int .i64 0)).run Tryz.prog W = .ok y0 W ∧ (Instr.index 62 (.agg #[y0, y1, y2]) (.int .i64 1)).run Tryz.prog W = .ok y1 W ∧ (Instr.index 62 (.agg #[y0, y1, y2]) (.int .i64 2)).run Tryz.prog W = .ok y2 W := fun y0 y1 y2 W => ⟨by kernel_rfl, by kernel_rfl, by kernel_rfl⟩
      rcases h3 with rfl | rfl | rfl
      · have ix : ∀ W, _ := fun W => (hx (.slice a0 f.p.length c0) (.slice a1 f.r.length c1) (.slice a2 f.l.length c2) W).1
        obtain ⟨ns, hns⟩ : ∃ ns, ns = f.p := ⟨_, rfl⟩
        obtain ⟨m, hm⟩ : ∃ m, m = f.p.length := ⟨_, rfl⟩
        have HM : Hid (m = ns.length) := hid (by rw [hm, hns])
        have HNo : Hid (rowOk ns = false → headS f = []) := hid (fun h => headS_no (by rw [hns] at h; exact .inl h))
        have hN : NsAt w.cell? a0 ns := by rw [hns]; exact F0
        have hmb : m ≤ 1048576 := by rw [hm]; omega
        have HN : Hid (headWs f (0 + 1) = headWs f 0 ++ [[102, 117, 110, 99]] ++ ns.map kindW) := hid (by rw [hns]; simp [headWs])
        have HOk : Hid (rowOk ns = true → (0 < 0 + 1 → rowOk f.p = true) ∧ (1 < 0 + 1 → rowOk f.r = true) ∧ (2 < 0 + 1 → rowOk f.l = true)) := hid (fun h => by rw [hns] at h; have := HO.out; simp_all)
        have hn0 : (headWs f 0).length ≤ 3145731 := by simp [headWs]
        rw [← hm] at ix
        clear hns HO F0 F1 F2 F3
        generalize f.p.length = m' at hm ix
        subst hm
        generalize headWs f 0 = Ws at hrow HN hn0
        obtain ⟨n0, hn0'⟩ : ∃ n0, n0 = Ws.length := ⟨_, rfl⟩
        rw [← hn0'] at hrow hn0
        have HX := hid (cellsS_snoc Ws [102, 117, 110, 99])
        have HL := hid hn0'
        clear hn0'
        generalize cellsS Ws = xs at hrow HX
        go_wp2_with (at_builtin; refine wpList_appN _ rfl _ _ 37 rfl elemN_str w.heap.size _ n0 xs rfl (World.ownsRow.alloc hrow _) _ rfl 1 [Value.string ⟨#[102, 117, 110, 99]⟩] (.inr ⟨⟨wr.heap.size, 0, none⟩, 1, rfl, cells_new5 wr [Value.string ⟨#[102, 117, 110, 99]⟩] 9 _ rfl⟩) rfl (by simp [Value.oneCell']) (by unfold maxLen; omega) (by omega) (by have := hbr.size; simp; omega) ?_; intro v' w6 hr6 hs6)
        have hb6 := words_step hbr hrow hs6
        rw [show xs ++ [Value.string ⟨#[102, 117, 110, 99]⟩] = cellsS (Ws ++ [[102, 117, 110, 99]]) from HX.out.symm] at hr6
        go_loopw [3, 28] (fun v i w7 => ∃ j : Nat, j ≤ m ∧ i = .int .i64 j ∧ w7.ownsRow w.heap.size 9 1 v (n0 + 1 + j) (cellsS (Ws ++ [[102, 117, 110, 99]] ++ (ns.take j).map kindW)) ∧ Hid (rowOk (ns.take j) = true) ∧ Below w.heap.size w w7) (fun _ i _ => m - (intOf i).toNat)
        case atStart => exact ⟨0, Nat.zero_le _, rfl, by simpa using hr6, hid rfl, hb6⟩
        case round =>
          obtain ⟨j, hj, rfl, hr7, HJ, hb7⟩ := hrel
          rename_i w7 _ _ _ _ _ _
          by_cases hjl : j < m
          · rcases hN with h0 | ⟨b, off, rfl, hc⟩
            · have := HM.out; rw [h0] at this; simp at this; omega
            have jl : j < ns.length := by have := HM.out; omega
            have q0 := below_keep hb7 _ _ (hc j jl)
            have hT := typeWord_any ns[j]
            have HA : Hid (rowOk (ns.take (j + 1)) = (rowOk (ns.take j) && decide (kindW ns[j] ≠ []))) := hid (by unfold rowOk; rw [List.take_add_one, List.getElem?_eq_getElem jl]; show List.all (ns.take j ++ [ns[j]]) _ = _; rw [List.all_append]; simp)
            have HS : Hid (kindW ns[j] = [] → headS f = []) := hid fun h => HNo.out (rowOk_stop jl h)
            have HC : Hid (cellsS (Ws ++ [[102, 117, 110, 99]] ++ (ns.take (j + 1)).map kindW) = cellsS (Ws ++ [[102, 117, 110, 99]] ++ (ns.take j).map kindW) ++ [Value.string ⟨(kindW ns[j]).toArray⟩]) := hid (by rw [← cellsS_snoc, List.take_add_one, List.getElem?_eq_getElem jl, List.map_append, ← List.append_assoc]; rfl)
            generalize ns[j] = x at q0 hT HA HS HC
            generalize cellsS (Ws ++ [[102, 117, 110, 99]] ++ (ns.take j).map kindW) = ys at hr7 HC
            clear hc
            by_cases he : kindW x = []
            · rw [he] at hT
              have H1 := hid (HS.out he)
              go_wp2_with (go_at_call 41; refine (hT _).mono ?_; rintro e w' ⟨rfl, hw'⟩; subst hw')
              go_ret
              exact ⟨by rw [H1.out]; rfl, hb7⟩
            · have q : (kindW x == []) = false := by simp [he]
              have H1 : Hid (rowOk (ns.take (j + 1)) = true) := hid (by rw [HA.out, HJ.out, decide_eq_true he]; rfl)
              clear HA HS HJ he
              generalize kindW x = kw at hT HC q
              go_wp2_with (first | (go_at_call 41; refine (hT _).mono ?_; rintro e w' ⟨rfl, hw'⟩; subst hw') | (at_builtin; refine wpList_appN _ rfl _ _ 37 rfl elemN_str w.heap.size _ (n0 + 1 + j) ys rfl (World.ownsRow.alloc hr7 _) _ rfl 1 [Value.string ⟨kw.toArray⟩] (.inr ⟨⟨_, 0, none⟩, 1, rfl, cells_new5 _ [Value.string ⟨kw.toArray⟩] 9 _ rfl⟩) rfl (by simp [Value.oneCell']) (by unfold maxLen; omega) (by omega) (by have := hb7.size; simp; omega) ?_; intro v'' w8 hr8 hs8))
              exact ⟨⟨j + 1, by omega, by go_num, by rw [HC.out]; exact hr8, H1, words_step hb7 hr7 hs8⟩, by simp [intOf]; omega⟩
          · have htk : ns.take j = ns := List.take_of_length_le (by have := HM.out; omega)
            rw [htk] at hr7 HJ
            have hle : n0 + 1 + j = (headWs f (0 + 1)).length := by rw [HN.out]; have := HM.out; have := HL.out; simp; omega
            rw [← HN.out, hle] at hr7
            have H9 := hid (HOk.out HJ.out)
            go_wp2_with fail
            exact ⟨⟨0 + 1, by omega, by go_num, hr7, H9, hb7⟩, by simp [intOf]⟩
      · have ix : ∀ W, _ := fun W => (hx (.slice a0 f.p.length c0) (.slice a1 f.r.length c1) (.slice a2 f.l.length c2) W).2.1
        obtain ⟨ns, hns⟩ : ∃ ns, ns = f.r := ⟨_, rfl⟩
        obtain ⟨m, hm⟩ : ∃ m, m = f.r.length := ⟨_, rfl⟩
        have HM : Hid (m = ns.length) := hid (by rw [hm, hns])
        have HNo : Hid (rowOk ns = false → headS f = []) := hid (fun h => headS_no (by rw [hns] at h; exact .inr (.inl h)))
        have hN : NsAt w.cell? a1 ns := by rw [hns]; exact F1
        have hmb : m ≤ 1048576 := by rw [hm]; omega
        have HN : Hid (headWs f (1 + 1) = headWs f 1 ++ [[45, 62]] ++ ns.map kindW) := hid (by rw [hns]; simp [headWs])
        have HOk : Hid (rowOk ns = true → (0 < 1 + 1 → rowOk f.p = true) ∧ (1 < 1 + 1 → rowOk f.r = true) ∧ (2 < 1 + 1 → rowOk f.l = true)) := hid (fun h => by rw [hns] at h; have := HO.out; simp_all)
        have hn0 : (headWs f 1).length ≤ 3145731 := by simp [headWs]; omega
        rw [← hm] at ix
        clear hns HO F0 F1 F2 F3
        generalize f.r.length = m' at hm ix
        subst hm
        generalize headWs f 1 = Ws at hrow HN hn0
        obtain ⟨n0, hn0'⟩ : ∃ n0, n0 = Ws.length := ⟨_, rfl⟩
        rw [← hn0'] at hrow hn0
        have HX := hid (cellsS_snoc Ws [45, 62])
        have HL := hid hn0'
        clear hn0'
        generalize cellsS Ws = xs at hrow HX
        go_wp2_with (at_builtin; refine wpList_appN _ rfl _ _ 37 rfl elemN_str w.heap.size _ n0 xs rfl (World.ownsRow.alloc hrow _) _ rfl 1 [Value.string ⟨#[45, 62]⟩] (.inr ⟨⟨wr.heap.size, 0, none⟩, 1, rfl, cells_new5 wr [Value.string ⟨#[45, 62]⟩] 9 _ rfl⟩) rfl (by simp [Value.oneCell']) (by unfold maxLen; omega) (by omega) (by have := hbr.size; simp; omega) ?_; intro v' w6 hr6 hs6)
        have hb6 := words_step hbr hrow hs6
        rw [show xs ++ [Value.string ⟨#[45, 62]⟩] = cellsS (Ws ++ [[45, 62]]) from HX.out.symm] at hr6
        go_loopw [3, 28] (fun v i w7 => ∃ j : Nat, j ≤ m ∧ i = .int .i64 j ∧ w7.ownsRow w.heap.size 9 1 v (n0 + 1 + j) (cellsS (Ws ++ [[45, 62]] ++ (ns.take j).map kindW)) ∧ Hid (rowOk (ns.take j) = true) ∧ Below w.heap.size w w7) (fun _ i _ => m - (intOf i).toNat)
        case atStart => exact ⟨0, Nat.zero_le _, rfl, by simpa using hr6, hid rfl, hb6⟩
        case round =>
          obtain ⟨j, hj, rfl, hr7, HJ, hb7⟩ := hrel
          rename_i w7 _ _ _ _ _ _
          by_cases hjl : j < m
          · rcases hN with h0 | ⟨b, off, rfl, hc⟩
            · have := HM.out; rw [h0] at this; simp at this; omega
            have jl : j < ns.length := by have := HM.out; omega
            have q0 := below_keep hb7 _ _ (hc j jl)
            have hT := typeWord_any ns[j]
            have HA : Hid (rowOk (ns.take (j + 1)) = (rowOk (ns.take j) && decide (kindW ns[j] ≠ []))) := hid (by unfold rowOk; rw [List.take_add_one, List.getElem?_eq_getElem jl]; show List.all (ns.take j ++ [ns[j]]) _ = _; rw [List.all_append]; simp)
            have HS : Hid (kindW ns[j] = [] → headS f = []) := hid fun h => HNo.out (rowOk_stop jl h)
            have HC : Hid (cellsS (Ws ++ [[45, 62]] ++ (ns.take (j + 1)).map kindW) = cellsS (Ws ++ [[45, 62]] ++ (ns.take j).map kindW) ++ [Value.string ⟨(kindW ns[j]).toArray⟩]) := hid (by rw [← cellsS_snoc, List.take_add_one, List.getElem?_eq_getElem jl, List.map_append, ← List.append_assoc]; rfl)
            generalize ns[j] = x at q0 hT HA HS HC
            generalize cellsS (Ws ++ [[45, 62]] ++ (ns.take j).map kindW) = ys at hr7 HC
            clear hc
            by_cases he : kindW x = []
            · rw [he] at hT
              have H1 := hid (HS.out he)
              go_wp2_with (go_at_call 41; refine (hT _).mono ?_; rintro e w' ⟨rfl, hw'⟩; subst hw')
              go_ret
              exact ⟨by rw [H1.out]; rfl, hb7⟩
            · have q : (kindW x == []) = false := by simp [he]
              have H1 : Hid (rowOk (ns.take (j + 1)) = true) := hid (by rw [HA.out, HJ.out, decide_eq_true he]; rfl)
              clear HA HS HJ he
              generalize kindW x = kw at hT HC q
              go_wp2_with (first | (go_at_call 41; refine (hT _).mono ?_; rintro e w' ⟨rfl, hw'⟩; subst hw') | (at_builtin; refine wpList_appN _ rfl _ _ 37 rfl elemN_str w.heap.size _ (n0 + 1 + j) ys rfl (World.ownsRow.alloc hr7 _) _ rfl 1 [Value.string ⟨kw.toArray⟩] (.inr ⟨⟨_, 0, none⟩, 1, rfl, cells_new5 _ [Value.string ⟨kw.toArray⟩] 9 _ rfl⟩) rfl (by simp [Value.oneCell']) (by unfold maxLen; omega) (by omega) (by have := hb7.size; simp; omega) ?_; intro v'' w8 hr8 hs8))
              exact ⟨⟨j + 1, by omega, by go_num, by rw [HC.out]; exact hr8, H1, words_step hb7 hr7 hs8⟩, by simp [intOf]; omega⟩
          · have htk : ns.take j = ns := List.take_of_length_le (by have := HM.out; omega)
            rw [htk] at hr7 HJ
            have hle : n0 + 1 + j = (headWs f (1 + 1)).length := by rw [HN.out]; have := HM.out; have := HL.out; simp; omega
            rw [← HN.out, hle] at hr7
            have H9 := hid (HOk.out HJ.out)
            go_wp2_with fail
            exact ⟨⟨1 + 1, by omega, by go_num, hr7, H9, hb7⟩, by simp [intOf]⟩
      · have ix : ∀ W, _ := fun W => (hx (.slice a0 f.p.length c0) (.slice a1 f.r.length c1) (.slice a2 f.l.length c2) W).2.2
        obtain ⟨ns, hns⟩ : ∃ ns, ns = f.l := ⟨_, rfl⟩
        obtain ⟨m, hm⟩ : ∃ m, m = f.l.length := ⟨_, rfl⟩
        have HM : Hid (m = ns.length) := hid (by rw [hm, hns])
        have HNo : Hid (rowOk ns = false → headS f = []) := hid (fun h => headS_no (by rw [hns] at h; exact .inr (.inr h)))
        have hN : NsAt w.cell? a2 ns := by rw [hns]; exact F2
        have hmb : m ≤ 1048576 := by rw [hm]; omega
        have HN : Hid (headWs f (2 + 1) = headWs f 2 ++ [[59]] ++ ns.map kindW) := hid (by rw [hns]; simp [headWs])
        have HOk : Hid (rowOk ns = true → (0 < 2 + 1 → rowOk f.p = true) ∧ (1 < 2 + 1 → rowOk f.r = true) ∧ (2 < 2 + 1 → rowOk f.l = true)) := hid (fun h => by rw [hns] at h; have := HO.out; simp_all)
        have hn0 : (headWs f 2).length ≤ 3145731 := by simp [headWs]; omega
        rw [← hm] at ix
        clear hns HO F0 F1 F2 F3
        generalize f.l.length = m' at hm ix
        subst hm
        generalize headWs f 2 = Ws at hrow HN hn0
        obtain ⟨n0, hn0'⟩ : ∃ n0, n0 = Ws.length := ⟨_, rfl⟩
        rw [← hn0'] at hrow hn0
        have HX := hid (cellsS_snoc Ws [59])
        have HL := hid hn0'
        clear hn0'
        generalize cellsS Ws = xs at hrow HX
        go_wp2_with (at_builtin; refine wpList_appN _ rfl _ _ 37 rfl elemN_str w.heap.size _ n0 xs rfl (World.ownsRow.alloc hrow _) _ rfl 1 [Value.string ⟨#[59]⟩] (.inr ⟨⟨wr.heap.size, 0, none⟩, 1, rfl, cells_new5 wr [Value.string ⟨#[59]⟩] 9 _ rfl⟩) rfl (by simp [Value.oneCell']) (by unfold maxLen; omega) (by omega) (by have := hbr.size; simp; omega) ?_; intro v' w6 hr6 hs6)
        have hb6 := words_step hbr hrow hs6
        rw [show xs ++ [Value.string ⟨#[59]⟩] = cellsS (Ws ++ [[59]]) from HX.out.symm] at hr6
        go_loopw [3, 28] (fun v i w7 => ∃ j : Nat, j ≤ m ∧ i = .int .i64 j ∧ w7.ownsRow w.heap.size 9 1 v (n0 + 1 + j) (cellsS (Ws ++ [[59]] ++ (ns.take j).map kindW)) ∧ Hid (rowOk (ns.take j) = true) ∧ Below w.heap.size w w7) (fun _ i _ => m - (intOf i).toNat)
        case atStart => exact ⟨0, Nat.zero_le _, rfl, by simpa using hr6, hid rfl, hb6⟩
        case round =>
          obtain ⟨j, hj, rfl, hr7, HJ, hb7⟩ := hrel
          rename_i w7 _ _ _ _ _ _
          by_cases hjl : j < m
          · rcases hN with h0 | ⟨b, off, rfl, hc⟩
            · have := HM.out; rw [h0] at this; simp at this; omega
            have jl : j < ns.length := by have := HM.out; omega
            have q0 := below_keep hb7 _ _ (hc j jl)
            have hT := typeWord_any ns[j]
            have HA : Hid (rowOk (ns.take (j + 1)) = (rowOk (ns.take j) && decide (kindW ns[j] ≠ []))) := hid (by unfold rowOk; rw [List.take_add_one, List.getElem?_eq_getElem jl]; show List.all (ns.take j ++ [ns[j]]) _ = _; rw [List.all_append]; simp)
            have HS : Hid (kindW ns[j] = [] → headS f = []) := hid fun h => HNo.out (rowOk_stop jl h)
            have HC : Hid (cellsS (Ws ++ [[59]] ++ (ns.take (j + 1)).map kindW) = cellsS (Ws ++ [[59]] ++ (ns.take j).map kindW) ++ [Value.string ⟨(kindW ns[j]).toArray⟩]) := hid (by rw [← cellsS_snoc, List.take_add_one, List.getElem?_eq_getElem jl, List.map_append, ← List.append_assoc]; rfl)
            generalize ns[j] = x at q0 hT HA HS HC
            generalize cellsS (Ws ++ [[59]] ++ (ns.take j).map kindW) = ys at hr7 HC
            clear hc
            by_cases he : kindW x = []
            · rw [he] at hT
              have H1 := hid (HS.out he)
              go_wp2_with (go_at_call 41; refine (hT _).mono ?_; rintro e w' ⟨rfl, hw'⟩; subst hw')
              go_ret
              exact ⟨by rw [H1.out]; rfl, hb7⟩
            · have q : (kindW x == []) = false := by simp [he]
              have H1 : Hid (rowOk (ns.take (j + 1)) = true) := hid (by rw [HA.out, HJ.out, decide_eq_true he]; rfl)
              clear HA HS HJ he
              generalize kindW x = kw at hT HC q
              go_wp2_with (first | (go_at_call 41; refine (hT _).mono ?_; rintro e w' ⟨rfl, hw'⟩; subst hw') | (at_builtin; refine wpList_appN _ rfl _ _ 37 rfl elemN_str w.heap.size _ (n0 + 1 + j) ys rfl (World.ownsRow.alloc hr7 _) _ rfl 1 [Value.string ⟨kw.toArray⟩] (.inr ⟨⟨_, 0, none⟩, 1, rfl, cells_new5 _ [Value.string ⟨kw.toArray⟩] 9 _ rfl⟩) rfl (by simp [Value.oneCell']) (by unfold maxLen; omega) (by omega) (by have := hb7.size; simp; omega) ?_; intro v'' w8 hr8 hs8))
              exact ⟨⟨j + 1, by omega, by go_num, by rw [HC.out]; exact hr8, H1, words_step hb7 hr7 hs8⟩, by simp [intOf]; omega⟩
          · have htk : ns.take j = ns := List.take_of_length_le (by have := HM.out; omega)
            rw [htk] at hr7 HJ
            have hle : n0 + 1 + j = (headWs f (2 + 1)).length := by rw [HN.out]; have := HM.out; have := HL.out; simp; omega
            rw [← HN.out, hle] at hr7
            have H9 := hid (HOk.out HJ.out)
            go_wp2_with fail
            exact ⟨⟨2 + 1, by omega, by go_num, hr7, H9, hb7⟩, by simp [intOf]⟩
    · obtain rfl : k = 3 := by omega
      have HH : Hid (headS f = headW f) := hid (by
        obtain ⟨o0, o1, o2⟩ := HO.out
        unfold headS headOk
        rw [o0 (by omega), o1 (by omega), o2 (by omega)]
        rfl)
      obtain ⟨a, c, rfl, hc1, hc2, h⟩ := row_form hrow
      rcases h with ⟨_, h0, _⟩ | ⟨g, rfl, hg, hgl, hcell⟩
      · simp [headWs] at h0
      have hl0 := rowW_len f.p
      have hl1 := rowW_len f.r
      have hl2 := rowW_len f.l
      have hJ := joined_any g 0 c (headWs f 3).length (headWs f 3) rfl wr (fun j h => by rw [Nat.zero_add]; exact hcell j _ (by simp [cellsS, h])) hgl (by simp [headWs]; omega) hc1 (by rw [head_join]; simp [headW]; omega)
      rw [head_join] at hJ
      clear hcell hrow HO
      generalize (headWs f 3).length = n at hJ hc1
      go_wp2_with (go_at_call 32; refine hJ.mono ?_; rintro e w9 ⟨rfl, hb9⟩)
      go_ret
      exact ⟨by rw [HH.out]; rfl, hbr.trans (hb9.mono hbr.size)⟩
end Go.Proofs.YtbjipcpoiiegkaaGreatDoor
