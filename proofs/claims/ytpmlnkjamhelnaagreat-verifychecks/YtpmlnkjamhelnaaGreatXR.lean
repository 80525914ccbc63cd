/- Layer 8: the document's Graph. Layer 8: Reach. Layer 8: the document's Reach. -/
import Derived.Test.YtpmlnkjamhelnaaGreatXJ
import Derived.Test.YtpmlnkjamhelnaaGreatCTg
import Derived.Test.YtpmlnkjamhelnaaGreatXK
import Derived.Lib.SlKeysI
namespace Go.Proofs.YtpmlnkjamhelnaaGreat
open Go.RowKit
theorem elemN_sli8 : ElemN Tryz.prog 58 28 1 24 := by
  refine ⟨Tryz.underlying58, ?_, by decide⟩
  obtain ⟨i, hi, h1, h2, h3⟩ := info_parts (show (Tryz.prog.info? 28).map (fun i => (i.zero, i.size, i.bytes)) = some (some (.slice none 0 0), 1, 24) by kernel_rfl)
  exact ⟨i, _, hi, h1, h2, h3, rfl⟩
/-- A row of numbers in a block of numbers. -/
def NsT (W : World) (a : Option Addr) (ns : List Int) : Prop := ns = [] ∨ ∃ b cur, a = some ⟨b, 0, none⟩ ∧ W.heap[b]? = some (.cells cur 3 (0, 0)) ∧ ∀ j (h : j < ns.length), cur[j]? = some (.int .i64 ns[j])
theorem NsT.ns {W : World} {a : Option Addr} {ns : List Int} (h : NsT W a ns) : NsAt W.cell? a ns := by
  rcases h with h | ⟨b, cur, e, h1, h2⟩
  · exact .inl h
  · exact .inr ⟨b, 0, e, fun j hj => by rw [Nat.zero_add, Lib.cell_of_heap h1]; exact h2 j hj⟩
theorem NsT.keep {W W' : World} {a : Option Addr} {ns : List Int} (h : NsT W a ns) (k : ∀ (b : Nat) (cur : Array Value), W.heap[b]? = some (.cells cur 3 (0, 0)) → W'.heap[b]? = some (.cells cur 3 (0, 0))) : NsT W' a ns := by
  rcases h with h | ⟨b, cur, e, h1, h2⟩
  · exact .inl h
  · exact .inr ⟨b, cur, e, k b cur h1, h2⟩
theorem nst_own {w : World} {base : Nat} {a : Option Addr} {n c : Nat} {ns : List Int} (h : w.ownsRow base 3 1 (.slice a n c) n (cellsN ns)) : NsT w a ns := by
  have hl : (cellsN ns).length = n * 1 := h.1
  rw [cellsN, List.length_map] at hl
  rcases h.2 with ⟨_, h2⟩ | ⟨g, cap, cur, e, _, h2, h3, _, h4, h5⟩
  · left
    cases ns with
    | nil => rfl
    | cons x l => simp at hl; omega
  · injection e with e1
    refine .inr ⟨g, cur, e1, h2, fun j hj => ?_⟩
    have e6 : (cur.toList.take (n * 1))[j]? = (cellsN ns)[j]? := by rw [h5]
    rw [List.getElem?_take_of_lt (by omega), Array.getElem?_toList] at e6
    rw [e6]
    simp [cellsN, hj]
/-- What lies from block B on. -/
def hiC (B : Nat) (W : World) : Addr → Option Value := fun a => if a.block < B then none else W.cell? a
theorem hiC_at {B : Nat} {W : World} {a : Addr} {x : Value} (hb : B ≤ a.block) (h : W.cell? a = some x) : hiC B W a = some x := by unfold hiC; rw [if_neg (by omega)]; exact h
theorem hiC_le {B : Nat} {W : World} {a : Addr} {x : Value} (h : hiC B W a = some x) : B ≤ a.block ∧ W.cell? a = some x := by
  unfold hiC at h
  split at h
  · cases h
  · exact ⟨by omega, h⟩
theorem NsT.hi {W : World} {B : Nat} {a : Option Addr} {ns : List Int} (h : NsT W a ns) (hB : ∀ g, a = some g → B ≤ g.block) : NsAt (hiC B W) a ns := by
  rcases h with h | ⟨b, cur, e, h1, h2⟩
  · exact .inl h
  · exact .inr ⟨b, 0, e, fun j hj => hiC_at (show B ≤ b from hB ⟨b, 0, none⟩ e) (by rw [Nat.zero_add, Lib.cell_of_heap h1]; exact h2 j hj)⟩
/-- Rows of numbers, one after the other, in a list of slices; they lie from block B on. -/
def VsT (B : Nat) (W : World) (vs : List Value) (R : List (List Int)) : Prop := vs.length = R.length ∧ ∀ j (h : j < R.length), ∃ aj cj, vs[j]? = some (.slice aj R[j].length cj) ∧ NsT W aj R[j] ∧ ∀ g, aj = some g → B ≤ g.block
theorem VsT.keep {B : Nat} {W W' : World} {vs : List Value} {R : List (List Int)} (h : VsT B W vs R) (k : ∀ (b : Nat) (cur : Array Value), W.heap[b]? = some (.cells cur 3 (0, 0)) → W'.heap[b]? = some (.cells cur 3 (0, 0))) : VsT B W' vs R :=
  ⟨h.1, fun j hj => by obtain ⟨aj, cj, h1, h2, h3⟩ := h.2 j hj; exact ⟨aj, cj, h1, h2.keep k, h3⟩⟩
theorem VsT.snoc {B : Nat} {W : World} {vs : List Value} {R : List (List Int)} (h : VsT B W vs R) {a : Option Addr} {c : Nat} {r : List Int} (hr : NsT W a r) (hB : ∀ g, a = some g → B ≤ g.block) : VsT B W (vs ++ [.slice a r.length c]) (R ++ [r]) := by
  refine ⟨by simp [h.1], fun j hj => ?_⟩
  rw [List.length_append, List.length_singleton] at hj
  by_cases e : j < R.length
  · obtain ⟨aj, cj, h1, h2, h3⟩ := h.2 j e
    exact ⟨aj, cj, by rw [List.getElem?_append_left (by rw [h.1]; exact e), List.getElem_append_left e]; exact h1, by rw [List.getElem_append_left e]; exact h2, h3⟩
  · obtain rfl : j = R.length := by omega
    exact ⟨a, c, by rw [List.getElem?_append_right (by rw [h.1]; exact Nat.le_refl _)]; simp [h.1], by simpa using hr, hB⟩
theorem keepT_below {W W' : World} (h : Below W.heap.size W W') : ∀ (b : Nat) (cur : Array Value), W.heap[b]? = some (.cells cur 3 (0, 0)) → W'.heap[b]? = some (.cells cur 3 (0, 0)) := fun b _ hb => (h.block b (heap_lt hb)).trans hb
theorem keepT_step {W W' : World} {base n : Nat} {v v' : Value} {xs : List Value} (h : W.ownsRow base 28 1 v n xs) (hs : Step W v W' v') : ∀ (b : Nat) (cur : Array Value), W.heap[b]? = some (.cells cur 3 (0, 0)) → W'.heap[b]? = some (.cells cur 3 (0, 0)) := fun b cur hb => by
  rw [hs.1.block b (heap_lt hb) (fun e => ?_)]
  · exact hb
  · rcases h.2 with ⟨e0, _⟩ | ⟨g, cap, cur', e0, _, h2, _⟩
    · rw [e0] at e; cases e
    · rw [e0] at e
      simp only [Value.ownBlock, Option.some.injEq] at e
      subst e
      rw [hb] at h2
      injection h2 with h2
      injection h2 with _ h2
      revert h2
      decide
theorem vsT_rows {W : World} {base n : Nat} {a : Option Addr} {c : Nat} {vs : List Value} {R : List (List Int)} (h : W.ownsRow base 28 1 (.slice a n c) n vs) {B : Nat} (hv : VsT B W vs R) (hB : B ≤ base) : n = R.length ∧ RsAt (hiC B W) a R := by
  have hl : vs.length = n * 1 := h.1
  have hl2 := hv.1
  refine ⟨by omega, ?_⟩
  obtain ⟨a', c', e, _, _, q⟩ := row_form h
  cases e
  rcases q with ⟨_, q, _⟩ | ⟨g, e, _, _, q⟩
  · exact .inl (List.length_eq_zero_iff.1 (by omega))
  · refine .inr ⟨g, 0, e, fun j hj => ?_⟩
    obtain ⟨aj, cj, h1, h2, h3⟩ := hv.2 j hj
    exact ⟨aj, cj, hiC_at (Nat.le_trans hB (h.lt g (by rw [e]; rfl)).1) (by rw [Nat.zero_add]; exact q j _ h1), h2.hi h3⟩
/-- The first G of a row. -/
def gRowK (G : Nat) (cs : List (Int × Int)) : List Nat := (List.range G).filter fun g => callsS cs (g : Int)
theorem gRowK_succ (G : Nat) (cs : List (Int × Int)) : rowI (gRowK (G + 1) cs) = rowI (gRowK G cs) ++ if callsS cs (G : Int) then [(G : Int)] else [] := by
  unfold gRowK
  rw [List.range_succ, List.filter_append, rowI, List.map_append]
  congr 1
  by_cases h : callsS cs (G : Int)
  · simp [h]
  · simp [h]
def GraphEndN (s : Scr) (w : World) (e : Ending) (w' : World) : Prop := GraphEnd s w e w' ∧ (s.right = true → ∃ ga gc, e = .returned (.tuple #[.slice ga s.funcs.length gc, .int .i64 0]) ∧ RsAt (hiC w.heap.size w') ga (rowsI (graphS s)))
set_option maxRecDepth 100000 in
set_option maxHeartbeats 1000000 in
theorem rgraph_new (s : Scr) (V0 V1 : Value) (w : World) (hs : ScIs w.cell? s V0 V1) (hsf : s.fits) (hI64 : ∀ f ∈ s.funcs, ∀ x ∈ f.code, -9223372036854775808 ≤ x.2 ∧ x.2 ≤ 9223372036854775807) : Calls Tryz.prog 29 #[.agg #[V0, V1]] w (GraphEndN s w) := by
  obtain ⟨⟨a0, c0, rfl, n0⟩, ⟨a1, c1, rfl, n1⟩⟩ := hs
  have b1 := (Below.refl _ w).alloc (Nat.le_refl _) (.cells #[.slice a0 s.consts.length c0, .slice a1 s.funcs.length c1] 27)
  have hk1 := below_keep b1
  have hRt := rright4_any s _ _ (w.alloc (.cells #[.slice a0 s.consts.length c0, .slice a1 s.funcs.length c1] 27)) ⟨⟨a0, c0, rfl, n0.keep hk1⟩, ⟨a1, c1, rfl, n1.keep hk1⟩⟩ hsf hI64
  have HR : Hid (Calls Tryz.prog 24 #[.agg #[.slice a0 s.consts.length c0, .slice a1 s.funcs.length c1]] (w.alloc (.cells #[.slice a0 s.consts.length c0, .slice a1 s.funcs.length c1] 27)) fun e w1 => e = .returned (.bool s.right) ∧ w1.cell? ⟨w.heap.size, 0, none⟩ = some (.slice a0 s.consts.length c0) ∧ w1.cell? ⟨w.heap.size, 1, none⟩ = some (.slice a1 s.funcs.length c1) ∧ Hid (Below w.heap.size w w1)) := hid7 (hRt.mono fun e w1 ⟨h1, h2⟩ => by
    have e2 : (w.alloc (.cells #[.slice a0 s.consts.length c0, .slice a1 s.funcs.length c1] 27)).heap[w.heap.size]? = some (.cells #[.slice a0 s.consts.length c0, .slice a1 s.funcs.length c1] 27 (0, 0)) := heap_alloc_new w _
    have e3 := (h2.block _ (heap_lt e2)).trans e2
    exact ⟨h1, Lib.cell_of_heap e3 0, Lib.cell_of_heap e3 1, hid7 (b1.trans (h2.mono b1.size))⟩)
  have hfl := hsf.2.1
  by_cases hr : s.right = true
  · rw [hr] at HR
    obtain ⟨r1, r2, r3⟩ := right_calls hr
    clear hRt hk1 n0 b1
    obtain ⟨fl, hfe⟩ : ∃ fl, fl = s.funcs.length := ⟨_, rfl⟩
    have HFe := hid7 hfe
    rw [← hfe] at HR hfl r1 ⊢
    generalize s.consts.length = cl at HR ⊢
    have HF1 := hid7 n1
    have HR3 := hid7 r3
    clear hfe n1 hI64 r3
    go_enter Tryz.func29, Tryz.ntmps29
    go_wp2_with (first | (go_at_call 24; refine HR.out.mono ?_; clear HR; rintro e w1 ⟨rfl, d0, d1, B1⟩) | fail)
    obtain ⟨R, hR⟩ : ∃ R, R = rowsI (graphS s) := ⟨_, rfl⟩
    have HRl : Hid (R.length = fl ∧ ∀ k (h : k < R.length) (h2 : k < s.funcs.length), R[k] = rowI (gRowK fl (s.funcs[k]).code)) := hid7 ⟨by rw [hR, graph_len, HFe.out], fun k h h2 => by subst hR; simp only [rowsI, graphS, List.getElem_map, gRow, gRowK, HFe.out]⟩
    have HEnd : Hid (∀ ga gc W e, RsAt (hiC w.heap.size W) ga R → Below w.heap.size w W → e = .returned (.tuple #[.slice ga fl gc, .int .i64 0]) → GraphEndN s w e W) := hid7 fun ga gc W e h1 h2 h3 => by
      refine ⟨⟨?_, h2⟩, fun _ => ⟨ga, gc, by rw [← HFe.out]; exact h3, by rw [← hR]; exact h1⟩⟩
      rw [if_pos hr]
      exact ⟨ga, gc, by rw [← HFe.out]; exact h3, by rw [← hR]; exact h1.keep fun a x h => (hiC_le h).2⟩
    clear hR
    go_loopw [4, 5] (fun ov iv wr => ∃ (k : Nat) (vs : List Value), iv = .int .i64 k ∧ k ≤ fl ∧ Hid (wr.ownsRow w1.heap.size 28 1 ov k vs ∧ VsT w.heap.size wr vs (R.take k) ∧ Below w1.heap.size w1 wr)) (fun _ iv _ => fl - (intOf iv).toNat)
    case atStart => exact ⟨0, [], rfl, Nat.zero_le _, hid7 ⟨World.ownsRow_nil _ _ _ _, ⟨rfl, fun j hj => by simp at hj⟩, Below.refl _ _⟩⟩
    case round =>
      obtain ⟨k, vs, rfl, hk, HL⟩ := hrel
      obtain ⟨wo, rfl⟩ : ∃ wo, wo = wr := ⟨_, rfl⟩
      obtain ⟨oa, oc, eov, hoc, _⟩ := row_form HL.out.1
      subst eov
      have Bf := HL.out.2.2
      have Bw := B1.out.trans (Bf.mono B1.out.size)
      have e0 := (Bf.cell (World.block_lt_of_cell? w1 _ d0)).trans d0
      have e1 := (Bf.cell (World.block_lt_of_cell? w1 _ d1)).trans d1
      by_cases hlt : k < fl
      · have hkl : k < s.funcs.length := by rw [← HFe.out]; exact hlt
        obtain ⟨fb, fo, ea, x3, N3, c3, hN3, q3, i3⟩ : ∃ fb fo, a1 = some ⟨fb, fo, none⟩ ∧ ∃ x3 N3 c3, (s.funcs[k]).code.length = N3 ∧ wo.cell? ⟨fb, fo + k * 4 + 3, none⟩ = some (.slice x3 N3 c3) ∧ IsAt wo.cell? x3 (s.funcs[k]).code := by
          rcases HF1.out.keep (below_keep Bw) with h | ⟨fb, fo, e, h⟩
          · rw [h] at hkl; cases hkl
          · obtain ⟨v0, v1, v2, v3, _, _, _, h4, h5⟩ := h k hkl
            obtain ⟨_, _, _, a3, c3, e3, i3⟩ := h5
            exact ⟨fb, fo, e, a3, _, c3, rfl, by rw [h4, e3], i3⟩
        subst ea
        have hkR : k < R.length := by rw [HRl.out.1]; exact hlt
        have hRk := HRl.out.2 k hkR hkl
        have hN3b : N3 ≤ 100000 := by have := (HR3.out _ (List.getElem_mem hkl)).1; omega
        have HC : Hid (∀ W G, Below wo.heap.size wo W → Calls Tryz.prog 59 #[.agg #[.slice a0 cl c0, .slice (some ⟨fb, fo, none⟩) fl c1], .int .i64 k, .int .i64 G] W fun e w' => e = .returned (.bool (callsS (s.funcs[k]).code G)) ∧ Hid (Below W.heap.size W w')) := hid7 fun W G hW => (rcalls_any (s.funcs[k]).code fb fo k fl c1 (.slice a0 cl c0) x3 c3 N3 hN3 hN3b hlt G W ((hW.cell (World.block_lt_of_cell? wo _ q3)).trans q3) (i3.keep (below_keep hW))).mono fun e w' ⟨h1, h2⟩ => ⟨h1, hid7 h2⟩
        have HT : Hid (R.take (k + 1) = R.take k ++ [rowI (gRowK fl (s.funcs[k]).code)]) := hid7 (by rw [List.take_succ_eq_append_getElem hkR, hRk])
        have hE : Hid (∀ W, Below wo.heap.size wo W → W.cell? ⟨w.heap.size, 0, none⟩ = some (.slice a0 cl c0) ∧ W.cell? ⟨w.heap.size, 1, none⟩ = some (.slice (some ⟨fb, fo, none⟩) fl c1)) := hid7 fun W hW => ⟨(hW.cell (World.block_lt_of_cell? wo _ e0)).trans e0, (hW.cell (World.block_lt_of_cell? wo _ e1)).trans e1⟩
        generalize (s.funcs[k]).code = cs at HC HT
        clear i3 q3 hN3 hRk Bw hkl hkR HF1 HR3 HRl HEnd hN3b
        go_wp2_with fail
        go_loopw [6, 7] (fun lv gv wr => ∃ G : Nat, gv = .int .i64 G ∧ G ≤ fl ∧ Hid (wr.ownsRow wo.heap.size 3 1 lv (rowI (gRowK G cs)).length (cellsN (rowI (gRowK G cs))) ∧ Below wo.heap.size wo wr)) (fun _ gv _ => fl - (intOf gv).toNat)
        case atStart => exact ⟨0, rfl, Nat.zero_le _, hid7 ⟨World.ownsRow_nil _ _ _ _, Below.refl _ _⟩⟩
        case round =>
          obtain ⟨G, rfl, hG, HI⟩ := hrel
          obtain ⟨la, lc, elv, hlc, _⟩ := row_form HI.out.1
          subst elv
          obtain ⟨y0, y1⟩ := hE.out wr HI.out.2
          have hll : (rowI (gRowK G cs)).length ≤ 16 := by
            rw [rowI, List.length_map]
            exact Nat.le_trans (List.length_filter_le _ _) (by simp; omega)
          by_cases hGl : G < fl
          · have HC2 := hid7 (HC.out wr G HI.out.2)
            have hS := gRowK_succ G cs
            obtain ⟨al, hal⟩ : ∃ al, al = (rowI (gRowK G cs)).length := ⟨_, rfl⟩
            rw [← hal] at hll hlc HI ⊢
            have HAL := hid7 hal
            clear hal
            have s1 : wo.heap.size ≤ wr.heap.size := HI.out.2.size
            cases hc : callsS cs (G : Int) with
            | true =>
              rw [hc] at HC2 hS
              have HS : Hid (rowI (gRowK (G + 1) cs) = rowI (gRowK G cs) ++ [(G : Int)]) := hid7 (by rw [hS]; simp)
              have HA : Hid (∀ w4, Below wr.heap.size wr w4 → (w4.alloc (.cells #[.int .i64 (G : Int)] 3)).ownsRow wo.heap.size 3 1 (.slice la al lc) al (cellsN (rowI (gRowK G cs))) ∧ wo.heap.size ≤ w4.heap.size) := hid7 fun w4 hb => ⟨(row_below2 HI.out.1 hb).alloc _, Nat.le_trans s1 hb.size⟩
              clear HC hS hc HT hE HL
              go_wp2_with (first
                | (go_at_call 59; refine HC2.out.mono ?_; clear HC2; rintro e w4 ⟨rfl, K4⟩; obtain ⟨A4, s4⟩ := HA.out w4 K4.out; have R4 := hid7 A4; clear A4)
                | (at_builtin; refine wpList_appN _ rfl _ _ 28 rfl elemN_int wo.heap.size _ al (cellsN (rowI (gRowK G cs))) rfl R4.out _ rfl 1 [.int .i64 (G : Int)] (.inr ⟨⟨_, 0, none⟩, 1, rfl, cells_new8 _ [.int .i64 (G : Int)] 3 _ rfl⟩) rfl (by simp [Value.oneCell']) (by unfold maxLen; omega) (by omega) (by simp; omega) ?_; intro v' w6 hr6 hs6)
                | fail)
              have bA : Below w4.heap.size w4 (w4.alloc (.cells #[.int .i64 (G : Int)] 3)) := (Below.refl _ _).alloc (Nat.le_refl _) _
              have b6 := hs6.below (B := wo.heap.size) (by simp; omega) (fun g e => (R4.out.lt g e).1)
              refine ⟨⟨G + 1, by go_num, by omega, hid7 ⟨?_, ((HI.out.2.trans (K4.out.mono s1)).trans (bA.mono s4)).trans b6⟩⟩, by simp [intOf]; omega⟩
              rw [HS.out, List.length_append, List.length_singleton, ← HAL.out, show cellsN (rowI (gRowK G cs) ++ [(G : Int)]) = cellsN (rowI (gRowK G cs)) ++ [.int .i64 (G : Int)] by simp [cellsN]]
              exact hr6
            | false =>
              rw [hc] at HC2 hS
              have HS : Hid (rowI (gRowK (G + 1) cs) = rowI (gRowK G cs)) := hid7 (by rw [hS]; simp)
              clear HC hS hc HT hE HL
              go_wp2_with (first
                | (go_at_call 59; refine HC2.out.mono ?_; clear HC2; rintro e w4 ⟨rfl, K4⟩)
                | fail)
              refine ⟨⟨G + 1, by go_num, by omega, hid7 ⟨?_, HI.out.2.trans (K4.out.mono s1)⟩⟩, by simp [intOf]; omega⟩
              rw [HS.out, ← HAL.out]
              exact row_below2 HI.out.1 K4.out
          · obtain rfl : G = fl := by omega
            have s1 : wo.heap.size ≤ wr.heap.size := HI.out.2.size
            have s0 : w1.heap.size ≤ wo.heap.size := HL.out.2.2.size
            have hNs := nst_own HI.out.1
            have HA : Hid ((wr.alloc (.cells #[.slice la (rowI (gRowK G cs)).length lc] 28)).ownsRow w1.heap.size 28 1 (.slice oa k oc) k vs) := hid7 ((row_below2 HL.out.1 HI.out.2).alloc _)
            have HV : Hid (VsT w.heap.size (wr.alloc (.cells #[.slice la (rowI (gRowK G cs)).length lc] 28)) (vs ++ [.slice la (rowI (gRowK G cs)).length lc]) (R.take (k + 1)) ∧ Below w1.heap.size w1 (wr.alloc (.cells #[.slice la (rowI (gRowK G cs)).length lc] 28))) := hid7 (by
              have bA : Below wr.heap.size wr (wr.alloc (.cells #[.slice la (rowI (gRowK G cs)).length lc] 28)) := (Below.refl _ _).alloc (Nat.le_refl _) _
              have bB := HI.out.2.trans (bA.mono s1)
              refine ⟨?_, HL.out.2.2.trans (bB.mono s0)⟩
              rw [HT.out]
              exact (HL.out.2.1.keep (keepT_below bB)).snoc (hNs.keep (keepT_below bA)) fun g e => Nat.le_trans (Nat.le_trans B1.out.size s0) (HI.out.1.lt g.block (by rw [e]; rfl)).1)
            generalize (rowI (gRowK G cs)).length = al at *
            clear hNs HC HT hE HL HI
            go_wp2_with (first
              | (at_builtin; refine wpList_appN _ rfl _ _ 58 rfl elemN_sli8 w1.heap.size _ k vs rfl HA.out _ rfl 1 [.slice la al lc] (.inr ⟨⟨_, 0, none⟩, 1, rfl, cells_new8 _ [.slice la al lc] 28 _ rfl⟩) rfl (by simp [Value.oneCell']) (by unfold maxLen; omega) (by omega) (by simp; omega) ?_; intro v' w6 hr6 hs6)
              | fail)
            have b6 := hs6.below (B := w1.heap.size) (by simp; omega) (fun g e => (HA.out.lt g e).1)
            exact ⟨⟨k + 1, _, by go_num, by omega, hid7 ⟨hr6, HV.out.1.keep (keepT_step HA.out hs6), HV.out.2.trans b6⟩⟩, by simp [intOf]; omega⟩
      · obtain rfl : k = fl := by omega
        have hV := HL.out.2.1
        rw [← HRl.out.1, List.take_length] at hV
        have HE := hid7 (HEnd.out oa oc wo _ (vsT_rows HL.out.1 hV B1.out.size).2 Bw rfl)
        clear hV HL HRl HEnd HF1 HR3 Bf Bw
        go_wp2_with fail
        go_ret2
        exact HE.out
  · have hr' : s.right = false := by simpa using hr
    rw [hr'] at HR
    have HEnd : Hid (∀ W e, Below w.heap.size w W → e = .returned (.tuple #[.slice none 0 0, .int .i64 30]) → GraphEndN s w e W) := hid7 fun W e h2 h3 => by
      refine ⟨⟨?_, h2⟩, fun h => absurd h hr⟩
      rw [if_neg hr]
      exact h3
    clear hRt hk1 n0 b1 n1 hr hr' hI64
    generalize s.funcs.length = fl at HR hfl ⊢
    generalize s.consts.length = cl at HR ⊢
    go_enter Tryz.func29, Tryz.ntmps29
    go_wp2_with (first | (go_at_call 24; refine HR.out.mono ?_; clear HR; rintro e w1 ⟨rfl, d0, d1, B1⟩) | fail)
    go_ret2
    exact HEnd.out _ _ B1.out rfl
theorem rgraph_any (s : Scr) (V0 V1 : Value) (w : World) (hs : ScIs w.cell? s V0 V1) (hsf : s.fits) (hI64 : ∀ f ∈ s.funcs, ∀ x ∈ f.code, -9223372036854775808 ≤ x.2 ∧ x.2 ≤ 9223372036854775807) : Calls Tryz.prog 29 #[.agg #[V0, V1]] w (GraphEnd s w) := (rgraph_new s V0 V1 w hs hsf hI64).mono fun _ _ h => h.1
end Go.Proofs.YtpmlnkjamhelnaaGreat
namespace Go.Proofs.YtpmlnkjamhelnaaGreat
open Go.RowKit Go.Maps Go.Sort Go.Shelf
/-- What is met, rising. -/
def metL (n : Nat) (m : Nat → Option Nat) : List Nat := (List.range n).filter fun x => (m x).isSome
theorem rowI_rise {n : Nat} (p : Nat → Bool) : (rowI ((List.range n).filter p)).Pairwise (· < ·) := by
  rw [rowI, List.pairwise_map]
  exact (List.Pairwise.filter _ (range_rise n)).imp fun h => Int.ofNat_lt.2 h
theorem sort_rise {l : List Int} (h : l.Pairwise (· < ·)) : (l.mergeSort fun x y => decide (x ≤ y)) = l :=
  List.mergeSort_of_pairwise (h.imp fun h => by simp; omega)
theorem keys_met {w : World} {b n S : Nat} {m : Nat → Option Nat} {D : DataW Unit} {N : Nat} (h1 : w.ownsMap Tryz.prog 3 (plainElem Tryz.prog 3) b N D) (h2 : ∀ x : Int, has D (.int .i64 x) = true → ∃ k : Nat, x = k ∧ m k ≠ none) (h3 : ∀ k v : Nat, m k = some v → k < n ∧ v + white n m ≤ S ∧ has D (.int .i64 k) = true ∧ ∀ z, D.atKey (.int .i64 k) z = .lit (.int .i64 v)) {ss : List Int} (hp : ss.Perm (intKeys D)) : (ss.mergeSort fun x y => decide (x ≤ y)) = rowI (metL n m) := by
  obtain ⟨es, e, hpw, _⟩ := h1.entries int_key8
  have hk : ∀ p ∈ es, ∃ x, p.1 = .int .i64 x := by
    obtain ⟨es0, cl, hb, F, _, hD⟩ := h1
    rw [e] at hD
    injection hD with hD
    intro p hp
    rw [hD] at hp
    obtain ⟨v, hv⟩ := fit_keys F p (mem_sorted.1 hp)
    obtain ⟨x, _, hx, _⟩ := keyOf_i64 Tryz.underlying3 hv
    exact ⟨x, hx⟩
  subst e
  have hr := rowI_rise (n := n) fun x => (m x).isSome
  have := perm_intKeys hpw hk (ss := rowI (metL n m)) (hr.imp fun h => by omega) fun x => ?_
  · rw [mergeSort_of_perm_i (hp.trans this.symm)]
    exact sort_rise hr
  · rw [rowI, List.mem_map]
    constructor
    · rintro ⟨k, hk, rfl⟩
      obtain ⟨q1, q2⟩ := List.mem_filter.1 hk
      obtain ⟨v, hv⟩ := Option.isSome_iff_exists.1 q2
      exact (h3 k v hv).2.2.1
    · intro hx
      obtain ⟨k, rfl, hk⟩ := h2 x hx
      obtain ⟨v, hv⟩ := Option.ne_none_iff_exists'.1 hk
      exact ⟨k, List.mem_filter.2 ⟨by simpa using (h3 k v hv).1, by rw [hv]; rfl⟩, rfl⟩
/-- What f reaches. -/
def reachS (s : Scr) (f : Int) : List Nat := if s.right = true ∧ 0 ≤ f ∧ f < s.funcs.length then (List.range s.funcs.length).filter (reachN s.funcs.length (gF s) f.toNat s.funcs.length) else []
theorem met_reach {s : Scr} {f : Nat} (hr : s.right = true) (hf : f < s.funcs.length) {m : Nat → Option Nat} {r : Bool} (h : Wlk (gF s) [f] m r) : metL s.funcs.length m = reachS s f := by
  rw [reachS, if_pos ⟨hr, by omega, by omega⟩, metL]
  apply List.filter_congr
  intro x _
  rw [Bool.eq_iff_iff, Int.toNat_natCast, reach_iff (graph_inn s).1 hf, Option.isSome_iff_ne_none, wlk_reach h]
  simp
def ReachEnd (L : List Nat) (w : World) (e : Ending) (w' : World) : Prop := ∃ a c, e = .returned (.slice a L.length c) ∧ NsAt w'.cell? a (rowI L) ∧ Below w.heap.size w w'
theorem reachEnd_of {L : List Nat} {w w0 w' : World} {e : Ending} (h : RowE (rowI L) w0 e w') (hb : Below w.heap.size w w0) : ReachEnd L w e w' := by
  obtain ⟨a, c, h1, h2, h3⟩ := h
  refine ⟨a, c, by rw [h1]; simp [rowI], ?_, hb.trans (h3.mono hb.size)⟩
  obtain ⟨a', c', e, _, _, q⟩ := row_form h2
  cases e
  rcases q with ⟨_, q, _⟩ | ⟨g, e, _, _, q⟩
  · exact .inl (List.length_eq_zero_iff.1 q)
  · exact .inr ⟨g, 0, e, fun j hj => by rw [Nat.zero_add]; exact q j _ (by simp [cellsN, hj])⟩
end Go.Proofs.YtpmlnkjamhelnaaGreat
namespace Go.Proofs.YtpmlnkjamhelnaaGreat
open Go.RowKit
theorem swp_at (g : Nat → List Nat) (m : Nat → Bool) (i k : Nat) : swp g m i k i = m i := by
  unfold swp
  cases m i <;> simp
theorem swp_no {g : Nat → List Nat} {m : Nat → Bool} {i : Nat} (h : m i = false) (k : Nat) : swp g m i k = m := by
  funext x
  simp [swp, h]
theorem swp_succ {g : Nat → List Nat} {m : Nat → Bool} {i k : Nat} (h : m i = true) (hk : k < (g i).length) : (fun x => if x = (g i)[k] then true else swp g m i k x) = swp g m i (k + 1) := by
  funext x
  have ht : ∀ y, y ∈ (g i).take (k + 1) ↔ y ∈ (g i).take k ∨ y = (g i)[k] := fun y => by rw [List.take_succ_eq_append_getElem hk]; simp only [List.mem_append, List.mem_singleton]
  rw [Bool.eq_iff_iff]
  simp only [swp, h, Bool.true_and, Bool.or_eq_true, List.contains_iff_mem, ht]
  by_cases e : x = (g i)[k]
  · simp [e]
  · simp [e]
theorem filt_succ (p : Nat → Bool) (i : Nat) : rowI ((List.range (i + 1)).filter p) = rowI ((List.range i).filter p) ++ if p i then [(i : Int)] else [] := by
  rw [List.range_succ, List.filter_append, rowI, List.map_append]
  congr 1
  by_cases h : p i
  · simp [h]
  · simp [h]
theorem filt_len (p : Nat → Bool) (i : Nat) : (rowI ((List.range i).filter p)).length ≤ i := by
  rw [rowI, List.length_map]
  exact Nat.le_trans (List.length_filter_le _ _) (by simp)
def boolV (m : Nat → Bool) : Nat → Value := fun x => .bool (m x)
end Go.Proofs.YtpmlnkjamhelnaaGreat
