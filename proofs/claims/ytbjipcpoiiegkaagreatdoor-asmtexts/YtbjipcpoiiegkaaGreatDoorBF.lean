/- The document's ReadHead. -/
import Derived.Test.YtbjipcpoiiegkaaGreatDoorBE
namespace Go.Proofs.YtbjipcpoiiegkaaGreatDoor
open Go.RowKit Go.Shelf
theorem ret_headD {fn : Func} {w W : World} {a : Act} {t u : Tmp} {y0 y1 y2 : Option Addr} {m0 m1 m2 d0 d1 d2 : Nat} {ok : Bool} {r : Option Fn} (hb : W.heap[w.heap.size]? = some (.cells #[.slice y0 m0 d0, .slice y1 m1 d1, .slice y2 m2 d2, .slice none 0 0] 32 (0, 0))) (hbe : Below w.heap.size w W) (h : fn.results = #[.cell t 32, .tmp u]) (ha : a.tmps[t]?.getD undef = .pointer (some ⟨w.heap.size, 0, none⟩)) (hd : a.defers = []) (hu : a.tmps[u]?.getD undef = .bool ok) (hr : r.isSome = ok) (hI : ∀ f, r = some f → HeadRows w.heap.size f (.slice y0 m0 d0) (.slice y1 m1 d1) (.slice y2 m2 d2) W) :
    bodyPost Tryz.prog fn (HeadEndD r w) .ret a W :=
  bodyPost_ret (by rw [results_mixed h _ _ _ _ _ ha (load_fn5 hb), hu]) hd ⟨_, _, _, _, _, _, _, _, _, by rw [hr], hI, hbe⟩
abbrev set4 (B : Nat) (W : World) (x0 x1 x2 x3 : Value) : World := (((W.setCell ⟨B, 0, none⟩ x0).setCell ⟨B, 1, none⟩ x1).setCell ⟨B, 2, none⟩ x2).setCell ⟨B, 3, none⟩ x3
theorem set4_f {B : Nat} {W : World} {y0 y1 y2 y3 : Value} (x0 x1 x2 x3 : Value) (f : W.heap[B]? = some (.cells #[y0, y1, y2, y3] 32 (0, 0))) : (set4 B W x0 x1 x2 x3).heap[B]? = some (.cells #[x0, x1, x2, x3] 32 (0, 0)) := by
  simp [World.setCell, Array.getElem?_modify, f]
theorem set4_below {B : Nat} {w W : World} {x0 x1 x2 x3 : Value} (hB : Below B w W) : Below B w (set4 B W x0 x1 x2 x3) :=
  (((hB.setCell (p := ⟨B, 0, none⟩) (Nat.le_refl _) _).setCell (p := ⟨B, 1, none⟩) (Nat.le_refl _) _).setCell (p := ⟨B, 2, none⟩) (Nat.le_refl _) _).setCell (p := ⟨B, 3, none⟩) (Nat.le_refl _) _
theorem set4_other (B k : Nat) (W : World) (x0 x1 x2 x3 : Value) (h0 : k ≠ B) : (set4 B W x0 x1 x2 x3).heap[k]? = W.heap[k]? :=
  (Below.heap_setCell _ _ _ k h0).trans ((Below.heap_setCell _ _ _ k h0).trans ((Below.heap_setCell _ _ _ k h0).trans (Below.heap_setCell _ _ _ k h0)))
theorem chg_set4 {B : Nat} {W : World} {cs : Array Value} {z : Nat × Nat} {x0 x1 x2 x3 : Value} (f : W.heap[B]? = some (.cells cs 32 z)) : ChgT 32 W (set4 B W x0 x1 x2 x3) := fun k cur t z' hne hk => (set4_other B k W _ _ _ _ (fun e => by subst e; rw [f] at hk; cases hk; exact hne rfl)).trans hk
theorem ret_noD {fn : Func} {w W : World} {a : Act} {t u : Tmp} {y0 y1 y2 y3 : Value} {r : Option Fn} (hb : W.heap[w.heap.size]? = some (.cells #[y0, y1, y2, y3] 32 (0, 0))) (hbe : Below w.heap.size w W) (h : fn.results = #[.cell t 32, .tmp u]) (ha : a.tmps[t]?.getD undef = .pointer (some ⟨w.heap.size, 0, none⟩)) (hd : a.defers = []) (hu : a.tmps[u]?.getD undef = .bool false) (hr : r = none) :
    bodyPost Tryz.prog fn (HeadEndD r w) .ret a (set4 w.heap.size W (.slice none 0 0) (.slice none 0 0) (.slice none 0 0) (.slice none 0 0)) := by
  subst hr
  exact ret_headD (set4_f _ _ _ _ hb) (set4_below hbe) h ha hd hu rfl (fun f e => by cases e)
set_option maxRecDepth 100000 in
set_option maxHeartbeats 4000000 in
theorem rreadHead_any (s : List UInt8) (w : World) (hs : s.length ≤ 1048576) : Calls Tryz.prog 14 #[.string ⟨s.toArray⟩] w (HeadEndD (headOf (pieces s)) w) := by
  have hbA := (Below.refl _ w).alloc (Nat.le_refl _) (.cells #[.slice none 0 0, .slice none 0 0, .slice none 0 0, .slice none 0 0] 32)
  have bF := heap_alloc_new w (.cells #[.slice none 0 0, .slice none 0 0, .slice none 0 0, .slice none 0 0] 32)
  have hW := rwords_any s (w.alloc (.cells #[.slice none 0 0, .slice none 0 0, .slice none 0 0, .slice none 0 0] 32)) hs
  obtain ⟨w0, ws, hp⟩ := pieces_ne s
  rw [hp] at hW
  have hpl : (w0 :: ws).length ≤ 1048577 := by rw [← hp]; have := pieces_length _ s (Nat.le_refl _); omega
  generalize hr0 : headOf (pieces s) = r0
  rw [hp] at hr0
  go_enter Tryz.func14, Tryz.ntmps14
  go_wp2_with fail
  refine hW.mono ?_
  rintro e w1 ⟨v, rfl, hrow, hb1⟩
  simp only
  have b1 := (hb1.block _ (lt_of_block bF)).trans bF
  have hB1 := hbA.trans (hb1.mono hbA.size)
  obtain ⟨⟨z0, z1, z2, z3⟩, zf⟩ := cells4h b1
  have f0 := zf 0
  have f1 := zf 1
  have f2 := zf 2
  have f3 := zf 3
  obtain ⟨ya, cap, rfl, _, _, hc⟩ := row_form hrow
  obtain ⟨g, rfl, hgB, hgl, hcell⟩ : ∃ g, ya = some ⟨g, 0, none⟩ ∧ w.heap.size ≤ g ∧ g < w1.heap.size ∧ ∀ j u, (cellsS (w0 :: ws))[j]? = some u → w1.cell? ⟨g, j, none⟩ = some u := by
    rcases hc with ⟨_, h0, _⟩ | ⟨g, h, h2, h3, h4⟩
    · simp at h0
    · exact ⟨g, h, by have := h2; simp at this; omega, h3, h4⟩
  have cw0 : w1.cell? ⟨g, 0, none⟩ = some (.string ⟨w0.toArray⟩) := hcell 0 _ rfl
  clear hcell hc zf hW
  by_cases h0 : w0 = [102, 117, 110, 99]
  · have q0 : (w0 == [102, 117, 110, 99]) = true := by simp [h0]
    have hpl' : ws.length ≤ 1048576 := by simpa using hpl
    by_cases hl : ws.length ≤ 66
    · have hl' : ¬ (67 : Int) < (ws.length : Int) + 1 := by omega
      have HR : Hid (r0 = (dRun hFun ws).bind fun g => if g.m = 3 then some ⟨g.p, g.r, g.l, []⟩ else none) := hid (by
        rw [← hr0, h0, headOf_doc, if_pos (by omega)])
      have hbX := (Below.refl _ w1).alloc (Nat.le_refl _) (.cells #[.slice none 0 0, .slice none 0 0, .slice none 0 0] 62)
      have hD0 : DHead w w1.heap.size (w0 :: ws) g cap hFun (fun _ => .slice none 0 0) (w1.alloc (.cells #[.slice none 0 0, .slice none 0 0, .slice none 0 0] 62)) := by
        refine ⟨(hbX.block _ (lt_of_block b1)).trans b1, row_lower5 (row_below2 hrow hbX) (by simp), heap_alloc_new w1 _, hB1.size, ⟨fun i hi => ?_, fun i j _ _ _ _ => rfl⟩, hB1.trans (hbX.mono hB1.size)⟩
        have : (hFun.at i) = [] := by
          match i with
          | 0 => rfl
          | 1 => rfl
          | _ + 2 => rfl
        rw [this]
        exact World.ownsRow_nil _ _ _ _
      clear hr0 hrow hb1 b1 hB1 hbX z0 z1 z2 z3 f0 f1 f2 f3 bF hbA
      simp only [List.length_cons]
      go_wp2_with fail
      go_loopw [6, 7] (fun at' i wr => ∃ (J k : Nat) (h : HS) (vs : Nat → Value), at' = .int .i64 J ∧ i = .int .i64 k ∧ 1 ≤ k ∧ k ≤ ws.length + 1 ∧ h.m = J + 1 ∧ h.m + h.n = k ∧ h.DGood ∧ Hid (dRun hFun (ws.take (k - 1)) = some h) ∧ DHead w w1.heap.size (w0 :: ws) g cap h vs wr) (fun _ i _ => ws.length + 1 - (intOf i).toNat)
      case atStart => exact ⟨0, 1, hFun, _, rfl, rfl, Nat.le_refl _, by omega, rfl, rfl, dgood_beg, hid rfl, hD0⟩
      case round =>
        clear hD0
        obtain ⟨J, k, h, vs, rfl, rfl, hk1, hkN, hJ, hsum, hg, HD, D⟩ := hrel
        have m3 := hg.m
        have e3 : J = 0 ∨ J = 1 ∨ J = 2 := by omega
        by_cases hlt : k < ws.length + 1
        · have hkl : k < (w0 :: ws).length := by simpa using hlt
          have hx := D.word k hkl
          have HX : Hid (∀ g, dStep h ((w0 :: ws)[k]) = g → dRun hFun (ws.take k) = g) := hid (fun g e => by
            have hkw : k - 1 < ws.length := by omega
            have e1 : ws.take k = ws.take (k - 1) ++ [(w0 :: ws)[k]] := by
              have : (w0 :: ws)[k] = ws[k - 1] := by
                obtain ⟨k', rfl⟩ : ∃ k', k = k' + 1 := ⟨k - 1, by omega⟩
                rfl
              rw [this]
              have e2 : k = k - 1 + 1 := by omega
              conv => lhs; rw [e2]
              exact List.take_succ_eq_append_getElem hkw
            rw [e1, dRun_snoc, HD.out]
            exact e)
          have hno : dStep h ((w0 :: ws)[k]) = none → r0 = none := fun e => by
            rw [HR.out, dRun_none (HX.out _ e) (List.take_prefix _ _)]
            rfl
          generalize (w0 :: ws)[k] = x at hx HX hno
          obtain ⟨⟨z0, z1, z2, z3⟩, zf⟩ := cells4h D.f
          have f0 := zf 0
          have f1 := zf 1
          have f2 := zf 2
          have f3 := zf 3
          have bF := D.f
          have bB := D.b
          have hgl : g < wr.heap.size := World.block_lt_of_cell? _ _ hx
          have a0 : wr.cell? ⟨w1.heap.size, 0, none⟩ = some (vs 0) := by simp [World.cell?, D.a]
          have a1 : wr.cell? ⟨w1.heap.size, 1, none⟩ = some (vs 1) := by simp [World.cell?, D.a]
          have a2 : wr.cell? ⟨w1.heap.size, 2, none⟩ = some (vs 2) := by simp [World.cell?, D.a]
          have hal : w1.heap.size < wr.heap.size := lt_of_block D.a
          have hlen := hg.len
          clear zf HD
          by_cases hx0 : x = [45, 62]
          · subst hx0
            rcases e3 with rfl | rfl | rfl
            · have HSt : Hid (dRun hFun (ws.take k) = some { h with m := h.m + 1 }) := hid (HX.out _ (by unfold dStep; rw [if_pos ⟨by omega, by rw [hJ]; rfl⟩]))
              have hgd : HS.DGood { h with m := h.m + 1 } := ⟨by simp only; omega, by simp only; omega, fun i hi => hg.len i hi⟩
              clear HX hno hlen
              go_wp2_with fail
              exact ⟨⟨1, k + 1, _, vs, rfl, by go_num, by omega, by omega, by simp only; omega, by simp only; omega, hgd, hid (by simpa using HSt.out), D.mark⟩, by simp [intOf]; omega⟩
            · have HE : Hid (r0 = none) := hid (hno (by unfold dStep; rw [if_neg (by rw [hJ]; decide), if_pos (by decide)]))
              clear HX hno hlen hsum hg
              go_wp2_with fail
              exact ret_noD bF bB rfl rfl rfl rfl HE.out
            · have HE : Hid (r0 = none) := hid (hno (by unfold dStep; rw [if_neg (by rw [hJ]; decide), if_pos (by decide)]))
              clear HX hno hlen hsum hg
              go_wp2_with fail
              exact ret_noD bF bB rfl rfl rfl rfl HE.out
          have q0 : (x == [45, 62]) = false := by simpa using hx0
          by_cases hx1 : x = [59]
          · subst hx1
            rcases e3 with rfl | rfl | rfl
            · have HE : Hid (r0 = none) := hid (hno (by unfold dStep; rw [if_neg (by rw [hJ]; decide), if_pos (by decide)]))
              clear HX hno hlen hsum hg
              go_wp2_with fail
              exact ret_noD bF bB rfl rfl rfl rfl HE.out
            · have HSt : Hid (dRun hFun (ws.take k) = some { h with m := h.m + 1 }) := hid (HX.out _ (by unfold dStep; rw [if_pos ⟨by omega, by rw [hJ]; rfl⟩]))
              have hgd : HS.DGood { h with m := h.m + 1 } := ⟨by simp only; omega, by simp only; omega, fun i hi => hg.len i hi⟩
              clear HX hno hlen
              go_wp2_with fail
              exact ⟨⟨2, k + 1, _, vs, rfl, by go_num, by omega, by omega, by simp only; omega, by simp only; omega, hgd, hid (by simpa using HSt.out), D.mark⟩, by simp [intOf]; omega⟩
            · have HE : Hid (r0 = none) := hid (hno (by unfold dStep; rw [if_neg (by rw [hJ]; decide), if_pos (by decide)]))
              clear HX hno hlen hsum hg
              go_wp2_with fail
              exact ret_noD bF bB rfl rfl rfl rfl HE.out
          have q1 : (x == [59]) = false := by simpa using hx1
          by_cases hx2 : x = [105, 110, 116]
          · subst hx2
            rcases e3 with rfl | rfl | rfl
            · have HSt : Hid (dRun hFun (ws.take k) = some (h.push 1)) := hid (HX.out _ (by unfold dStep; rw [if_neg (by rw [hJ]; decide), if_neg (by decide)]; rfl))
              have hgd : (h.push 1).DGood := dgood_step (x := [105, 110, 116]) hg (by unfold dStep; rw [if_neg (by rw [hJ]; decide), if_neg (by decide)]; rfl)
              have pm := push_m h 1
              have hl0 := hlen 0 (by omega)
              have bx := (Below.refl _ wr).alloc (Nat.le_refl _) (.cells #[.int .i64 1] 3)
              have D2 := D.keep bx
              clear HX hno hlen
              go_wp2_with (at_builtin; refine wpList_appN _ rfl _ _ 29 rfl elemN_int w.heap.size (vs 0) (h.at 0).length (cellsN (h.at 0)) rfl (D2.rs.row 0 (by omega)) _ rfl 1 [.int .i64 1] (.inr ⟨⟨_, 0, none⟩, 1, rfl, cells_new5 _ [.int .i64 1] 3 _ rfl⟩) rfl (by simp [Value.oneCell']) (by unfold maxLen; omega) (by omega) (by have := bB.size; simp; omega) ?_; intro v' w6 hr6 hs6; obtain ⟨i0, i1⟩ := D2.moreA (j := 0) (by omega) hs6; obtain ⟨vy, vm, vd, rfl⟩ := row_slice hr6)
              exact ⟨⟨0, k + 1, _, _, rfl, by go_num, by omega, by omega, by omega, by omega, hgd, hid (by simpa using HSt.out), D2.more (by omega) hJ hr6 hs6⟩, by simp [intOf]; omega⟩
            · have HSt : Hid (dRun hFun (ws.take k) = some (h.push 1)) := hid (HX.out _ (by unfold dStep; rw [if_neg (by rw [hJ]; decide), if_neg (by decide)]; rfl))
              have hgd : (h.push 1).DGood := dgood_step (x := [105, 110, 116]) hg (by unfold dStep; rw [if_neg (by rw [hJ]; decide), if_neg (by decide)]; rfl)
              have pm := push_m h 1
              have hl0 := hlen 1 (by omega)
              have bx := (Below.refl _ wr).alloc (Nat.le_refl _) (.cells #[.int .i64 1] 3)
              have D2 := D.keep bx
              clear HX hno hlen
              go_wp2_with (at_builtin; refine wpList_appN _ rfl _ _ 29 rfl elemN_int w.heap.size (vs 1) (h.at 1).length (cellsN (h.at 1)) rfl (D2.rs.row 1 (by omega)) _ rfl 1 [.int .i64 1] (.inr ⟨⟨_, 0, none⟩, 1, rfl, cells_new5 _ [.int .i64 1] 3 _ rfl⟩) rfl (by simp [Value.oneCell']) (by unfold maxLen; omega) (by omega) (by have := bB.size; simp; omega) ?_; intro v' w6 hr6 hs6; obtain ⟨i0, i1⟩ := D2.moreA (j := 1) (by omega) hs6; obtain ⟨vy, vm, vd, rfl⟩ := row_slice hr6)
              exact ⟨⟨1, k + 1, _, _, rfl, by go_num, by omega, by omega, by omega, by omega, hgd, hid (by simpa using HSt.out), D2.more (by omega) hJ hr6 hs6⟩, by simp [intOf]; omega⟩
            · have HSt : Hid (dRun hFun (ws.take k) = some (h.push 1)) := hid (HX.out _ (by unfold dStep; rw [if_neg (by rw [hJ]; decide), if_neg (by decide)]; rfl))
              have hgd : (h.push 1).DGood := dgood_step (x := [105, 110, 116]) hg (by unfold dStep; rw [if_neg (by rw [hJ]; decide), if_neg (by decide)]; rfl)
              have pm := push_m h 1
              have hl0 := hlen 2 (by omega)
              have bx := (Below.refl _ wr).alloc (Nat.le_refl _) (.cells #[.int .i64 1] 3)
              have D2 := D.keep bx
              clear HX hno hlen
              go_wp2_with (at_builtin; refine wpList_appN _ rfl _ _ 29 rfl elemN_int w.heap.size (vs 2) (h.at 2).length (cellsN (h.at 2)) rfl (D2.rs.row 2 (by omega)) _ rfl 1 [.int .i64 1] (.inr ⟨⟨_, 0, none⟩, 1, rfl, cells_new5 _ [.int .i64 1] 3 _ rfl⟩) rfl (by simp [Value.oneCell']) (by unfold maxLen; omega) (by omega) (by have := bB.size; simp; omega) ?_; intro v' w6 hr6 hs6; obtain ⟨i0, i1⟩ := D2.moreA (j := 2) (by omega) hs6; obtain ⟨vy, vm, vd, rfl⟩ := row_slice hr6)
              exact ⟨⟨2, k + 1, _, _, rfl, by go_num, by omega, by omega, by omega, by omega, hgd, hid (by simpa using HSt.out), D2.more (by omega) hJ hr6 hs6⟩, by simp [intOf]; omega⟩
          have q2 : (x == [105, 110, 116]) = false := by simpa using hx2
          by_cases hx3 : x = [98, 121, 116, 101, 115]
          · subst hx3
            rcases e3 with rfl | rfl | rfl
            · have HSt : Hid (dRun hFun (ws.take k) = some (h.push 2)) := hid (HX.out _ (by unfold dStep; rw [if_neg (by rw [hJ]; decide), if_neg (by decide)]; rfl))
              have hgd : (h.push 2).DGood := dgood_step (x := [98, 121, 116, 101, 115]) hg (by unfold dStep; rw [if_neg (by rw [hJ]; decide), if_neg (by decide)]; rfl)
              have pm := push_m h 2
              have hl0 := hlen 0 (by omega)
              have bx := (Below.refl _ wr).alloc (Nat.le_refl _) (.cells #[.int .i64 2] 3)
              have D2 := D.keep bx
              clear HX hno hlen
              go_wp2_with (at_builtin; refine wpList_appN _ rfl _ _ 29 rfl elemN_int w.heap.size (vs 0) (h.at 0).length (cellsN (h.at 0)) rfl (D2.rs.row 0 (by omega)) _ rfl 1 [.int .i64 2] (.inr ⟨⟨_, 0, none⟩, 1, rfl, cells_new5 _ [.int .i64 2] 3 _ rfl⟩) rfl (by simp [Value.oneCell']) (by unfold maxLen; omega) (by omega) (by have := bB.size; simp; omega) ?_; intro v' w6 hr6 hs6; obtain ⟨i0, i1⟩ := D2.moreA (j := 0) (by omega) hs6; obtain ⟨vy, vm, vd, rfl⟩ := row_slice hr6)
              exact ⟨⟨0, k + 1, _, _, rfl, by go_num, by omega, by omega, by omega, by omega, hgd, hid (by simpa using HSt.out), D2.more (by omega) hJ hr6 hs6⟩, by simp [intOf]; omega⟩
            · have HSt : Hid (dRun hFun (ws.take k) = some (h.push 2)) := hid (HX.out _ (by unfold dStep; rw [if_neg (by rw [hJ]; decide), if_neg (by decide)]; rfl))
              have hgd : (h.push 2).DGood := dgood_step (x := [98, 121, 116, 101, 115]) hg (by unfold dStep; rw [if_neg (by rw [hJ]; decide), if_neg (by decide)]; rfl)
              have pm := push_m h 2
              have hl0 := hlen 1 (by omega)
              have bx := (Below.refl _ wr).alloc (Nat.le_refl _) (.cells #[.int .i64 2] 3)
              have D2 := D.keep bx
              clear HX hno hlen
              go_wp2_with (at_builtin; refine wpList_appN _ rfl _ _ 29 rfl elemN_int w.heap.size (vs 1) (h.at 1).length (cellsN (h.at 1)) rfl (D2.rs.row 1 (by omega)) _ rfl 1 [.int .i64 2] (.inr ⟨⟨_, 0, none⟩, 1, rfl, cells_new5 _ [.int .i64 2] 3 _ rfl⟩) rfl (by simp [Value.oneCell']) (by unfold maxLen; omega) (by omega) (by have := bB.size; simp; omega) ?_; intro v' w6 hr6 hs6; obtain ⟨i0, i1⟩ := D2.moreA (j := 1) (by omega) hs6; obtain ⟨vy, vm, vd, rfl⟩ := row_slice hr6)
              exact ⟨⟨1, k + 1, _, _, rfl, by go_num, by omega, by omega, by omega, by omega, hgd, hid (by simpa using HSt.out), D2.more (by omega) hJ hr6 hs6⟩, by simp [intOf]; omega⟩
            · have HSt : Hid (dRun hFun (ws.take k) = some (h.push 2)) := hid (HX.out _ (by unfold dStep; rw [if_neg (by rw [hJ]; decide), if_neg (by decide)]; rfl))
              have hgd : (h.push 2).DGood := dgood_step (x := [98, 121, 116, 101, 115]) hg (by unfold dStep; rw [if_neg (by rw [hJ]; decide), if_neg (by decide)]; rfl)
              have pm := push_m h 2
              have hl0 := hlen 2 (by omega)
              have bx := (Below.refl _ wr).alloc (Nat.le_refl _) (.cells #[.int .i64 2] 3)
              have D2 := D.keep bx
              clear HX hno hlen
              go_wp2_with (at_builtin; refine wpList_appN _ rfl _ _ 29 rfl elemN_int w.heap.size (vs 2) (h.at 2).length (cellsN (h.at 2)) rfl (D2.rs.row 2 (by omega)) _ rfl 1 [.int .i64 2] (.inr ⟨⟨_, 0, none⟩, 1, rfl, cells_new5 _ [.int .i64 2] 3 _ rfl⟩) rfl (by simp [Value.oneCell']) (by unfold maxLen; omega) (by omega) (by have := bB.size; simp; omega) ?_; intro v' w6 hr6 hs6; obtain ⟨i0, i1⟩ := D2.moreA (j := 2) (by omega) hs6; obtain ⟨vy, vm, vd, rfl⟩ := row_slice hr6)
              exact ⟨⟨2, k + 1, _, _, rfl, by go_num, by omega, by omega, by omega, by omega, hgd, hid (by simpa using HSt.out), D2.more (by omega) hJ hr6 hs6⟩, by simp [intOf]; omega⟩
          have q3 : (x == [98, 121, 116, 101, 115]) = false := by simpa using hx3
          by_cases hx4 : x = [98, 111, 111, 108]
          · subst hx4
            rcases e3 with rfl | rfl | rfl
            · have HSt : Hid (dRun hFun (ws.take k) = some (h.push 3)) := hid (HX.out _ (by unfold dStep; rw [if_neg (by rw [hJ]; decide), if_neg (by decide)]; rfl))
              have hgd : (h.push 3).DGood := dgood_step (x := [98, 111, 111, 108]) hg (by unfold dStep; rw [if_neg (by rw [hJ]; decide), if_neg (by decide)]; rfl)
              have pm := push_m h 3
              have hl0 := hlen 0 (by omega)
              have bx := (Below.refl _ wr).alloc (Nat.le_refl _) (.cells #[.int .i64 3] 3)
              have D2 := D.keep bx
              clear HX hno hlen
              go_wp2_with (at_builtin; refine wpList_appN _ rfl _ _ 29 rfl elemN_int w.heap.size (vs 0) (h.at 0).length (cellsN (h.at 0)) rfl (D2.rs.row 0 (by omega)) _ rfl 1 [.int .i64 3] (.inr ⟨⟨_, 0, none⟩, 1, rfl, cells_new5 _ [.int .i64 3] 3 _ rfl⟩) rfl (by simp [Value.oneCell']) (by unfold maxLen; omega) (by omega) (by have := bB.size; simp; omega) ?_; intro v' w6 hr6 hs6; obtain ⟨i0, i1⟩ := D2.moreA (j := 0) (by omega) hs6; obtain ⟨vy, vm, vd, rfl⟩ := row_slice hr6)
              exact ⟨⟨0, k + 1, _, _, rfl, by go_num, by omega, by omega, by omega, by omega, hgd, hid (by simpa using HSt.out), D2.more (by omega) hJ hr6 hs6⟩, by simp [intOf]; omega⟩
            · have HSt : Hid (dRun hFun (ws.take k) = some (h.push 3)) := hid (HX.out _ (by unfold dStep; rw [if_neg (by rw [hJ]; decide), if_neg (by decide)]; rfl))
              have hgd : (h.push 3).DGood := dgood_step (x := [98, 111, 111, 108]) hg (by unfold dStep; rw [if_neg (by rw [hJ]; decide), if_neg (by decide)]; rfl)
              have pm := push_m h 3
              have hl0 := hlen 1 (by omega)
              have bx := (Below.refl _ wr).alloc (Nat.le_refl _) (.cells #[.int .i64 3] 3)
              have D2 := D.keep bx
              clear HX hno hlen
              go_wp2_with (at_builtin; refine wpList_appN _ rfl _ _ 29 rfl elemN_int w.heap.size (vs 1) (h.at 1).length (cellsN (h.at 1)) rfl (D2.rs.row 1 (by omega)) _ rfl 1 [.int .i64 3] (.inr ⟨⟨_, 0, none⟩, 1, rfl, cells_new5 _ [.int .i64 3] 3 _ rfl⟩) rfl (by simp [Value.oneCell']) (by unfold maxLen; omega) (by omega) (by have := bB.size; simp; omega) ?_; intro v' w6 hr6 hs6; obtain ⟨i0, i1⟩ := D2.moreA (j := 1) (by omega) hs6; obtain ⟨vy, vm, vd, rfl⟩ := row_slice hr6)
              exact ⟨⟨1, k + 1, _, _, rfl, by go_num, by omega, by omega, by omega, by omega, hgd, hid (by simpa using HSt.out), D2.more (by omega) hJ hr6 hs6⟩, by simp [intOf]; omega⟩
            · have HSt : Hid (dRun hFun (ws.take k) = some (h.push 3)) := hid (HX.out _ (by unfold dStep; rw [if_neg (by rw [hJ]; decide), if_neg (by decide)]; rfl))
              have hgd : (h.push 3).DGood := dgood_step (x := [98, 111, 111, 108]) hg (by unfold dStep; rw [if_neg (by rw [hJ]; decide), if_neg (by decide)]; rfl)
              have pm := push_m h 3
              have hl0 := hlen 2 (by omega)
              have bx := (Below.refl _ wr).alloc (Nat.le_refl _) (.cells #[.int .i64 3] 3)
              have D2 := D.keep bx
              clear HX hno hlen
              go_wp2_with (at_builtin; refine wpList_appN _ rfl _ _ 29 rfl elemN_int w.heap.size (vs 2) (h.at 2).length (cellsN (h.at 2)) rfl (D2.rs.row 2 (by omega)) _ rfl 1 [.int .i64 3] (.inr ⟨⟨_, 0, none⟩, 1, rfl, cells_new5 _ [.int .i64 3] 3 _ rfl⟩) rfl (by simp [Value.oneCell']) (by unfold maxLen; omega) (by omega) (by have := bB.size; simp; omega) ?_; intro v' w6 hr6 hs6; obtain ⟨i0, i1⟩ := D2.moreA (j := 2) (by omega) hs6; obtain ⟨vy, vm, vd, rfl⟩ := row_slice hr6)
              exact ⟨⟨2, k + 1, _, _, rfl, by go_num, by omega, by omega, by omega, by omega, hgd, hid (by simpa using HSt.out), D2.more (by omega) hJ hr6 hs6⟩, by simp [intOf]; omega⟩
          have q4 : (x == [98, 111, 111, 108]) = false := by simpa using hx4
          have HE : Hid (r0 = none) := hid (hno (by
            unfold dStep
            rw [if_neg (fun q => ?_), if_pos (kindOf_no hx2 hx3 hx4)]
            rcases e3 with rfl | rfl | rfl
            · rw [hJ] at q; exact hx0 q.2
            · rw [hJ] at q; exact hx1 q.2
            · omega))
          clear hx0 hx1 hx2 hx3 hx4 HX hno hlen hsum hg
          rcases e3 with rfl | rfl | rfl
          · go_wp2_with fail
            exact ret_noD bF bB rfl rfl rfl rfl HE.out
          · go_wp2_with fail
            exact ret_noD bF bB rfl rfl rfl rfl HE.out
          · go_wp2_with fail
            exact ret_noD bF bB rfl rfl rfl rfl HE.out
        · obtain rfl : k = ws.length + 1 := by omega
          have HE : Hid (r0 = if h.m = 3 then some ⟨h.p, h.r, h.l, []⟩ else none) := hid (by
            have e1 : ws.take (ws.length + 1 - 1) = ws := List.take_of_length_le (by simp)
            have := HD.out
            rw [e1] at this
            rw [HR.out, this]
            rfl)
          clear HD HR
          obtain ⟨⟨z0, z1, z2, z3⟩, zf⟩ := cells4h D.f
          have f0 := zf 0
          have f1 := zf 1
          have f2 := zf 2
          have f3 := zf 3
          obtain ⟨ra0, rc0, e0, _⟩ := row_form (D.rs.row 0 (by omega))
          obtain ⟨ra1, rc1, e1, _⟩ := row_form (D.rs.row 1 (by omega))
          obtain ⟨ra2, rc2, e2, _⟩ := row_form (D.rs.row 2 (by omega))
          have l0 : wr.cell? ⟨w1.heap.size, 0, none⟩ = some (.slice ra0 (h.at 0).length rc0) := by rw [← e0]; simp [World.cell?, D.a]
          have l1 : wr.cell? ⟨w1.heap.size, 1, none⟩ = some (.slice ra1 (h.at 1).length rc1) := by rw [← e1]; simp [World.cell?, D.a]
          have l2 : wr.cell? ⟨w1.heap.size, 2, none⟩ = some (.slice ra2 (h.at 2).length rc2) := by rw [← e2]; simp [World.cell?, D.a]
          have n0 := (chg_set4 (x0 := .slice ra0 (h.at 0).length rc0) (x1 := .slice ra1 (h.at 1).length rc1) (x2 := .slice ra2 (h.at 2).length rc2) (x3 := .slice none 0 0) D.f).row (D.rs.row 0 (by omega)) (by decide)
          have n1 := (chg_set4 (x0 := .slice ra0 (h.at 0).length rc0) (x1 := .slice ra1 (h.at 1).length rc1) (x2 := .slice ra2 (h.at 2).length rc2) (x3 := .slice none 0 0) D.f).row (D.rs.row 1 (by omega)) (by decide)
          have n2 := (chg_set4 (x0 := .slice ra0 (h.at 0).length rc0) (x1 := .slice ra1 (h.at 1).length rc1) (x2 := .slice ra2 (h.at 2).length rc2) (x3 := .slice none 0 0) D.f).row (D.rs.row 2 (by omega)) (by decide)
          rw [e0] at n0
          rw [e1] at n1
          rw [e2] at n2
          have bF := D.f
          have bB := D.b
          rcases e3 with rfl | rfl | rfl
          · have HE2 : Hid (r0 = none) := hid (by rw [HE.out, if_neg (by omega)])
            clear HE
            go_wp2_with fail
            exact ret_headD (set4_f _ _ _ _ bF) (set4_below bB) rfl rfl rfl rfl (by rw [HE2.out]; rfl) (fun f e => by rw [HE2.out] at e; cases e)
          · have HE2 : Hid (r0 = none) := hid (by rw [HE.out, if_neg (by omega)])
            clear HE
            go_wp2_with fail
            exact ret_headD (set4_f _ _ _ _ bF) (set4_below bB) rfl rfl rfl rfl (by rw [HE2.out]; rfl) (fun f e => by rw [HE2.out] at e; cases e)
          · have HE2 : Hid (r0 = some ⟨h.p, h.r, h.l, []⟩) := hid (by rw [HE.out, if_pos (by omega)])
            clear HE
            go_wp2_with fail
            exact ret_headD (set4_f _ _ _ _ bF) (set4_below bB) rfl rfl rfl rfl (by rw [HE2.out]; rfl) (fun f e => by rw [HE2.out] at e; cases e; exact ⟨n0, n1, n2⟩)
    · have HE : Hid (r0 = none) := hid (by rw [← hr0, h0, headOf_doc, if_neg (by omega)])
      have hl' : (67 : Int) < (ws.length : Int) + 1 := by omega
      clear hr0
      simp only [List.length_cons]
      go_wp2_with fail
      exact ret_noD b1 hB1 rfl rfl rfl rfl HE.out
  · have HE : Hid (r0 = none) := hid (by rw [← hr0]; exact headOf_no h0)
    have q0 : (w0 == [102, 117, 110, 99]) = false := by simpa using h0
    clear hr0
    go_wp2_with fail
    exact ret_noD b1 hB1 rfl rfl rfl rfl HE.out
end Go.Proofs.YtbjipcpoiiegkaaGreatDoor
