/- Layer 8: the document's Order. -/
import Derived.Test.YtodagpmcmjleaaaGreatXQa
import Derived.Test.YtodagpmcmjleaaaGreatXN
namespace Go.Proofs.YtodagpmcmjleaaaGreat
open Go.RowKit
/-- The least of those from f on that may be told (-1: none). -/
def bestS (n : Nat) (g : Nat → List Nat) (out : List Nat) : Nat → Int
  | 0 => -1
  | k + 1 => if rdy g out (n - (k + 1)) then ((n - (k + 1) : Nat) : Int) else bestS n g out k
theorem best_some {n : Nat} {g : Nat → List Nat} {out : List Nat} : ∀ k ≤ n, bestS n g out k = match ((List.range n).drop (n - k)).find? (rdy g out) with | some f => (f : Int) | none => -1
  | 0, _ => by
    rw [Nat.sub_zero, List.drop_of_length_le (by simp)]
    rfl
  | k + 1, hk => by
    have hlt : n - (k + 1) < (List.range n).length := by simp; omega
    have ih := best_some (n := n) (g := g) (out := out) k (by omega)
    rw [List.drop_eq_getElem_cons hlt, List.find?_cons, List.getElem_range, show n - (k + 1) + 1 = n - k by omega]
    cases h : rdy g out (n - (k + 1)) with
    | true => simp only [bestS, h]; rfl
    | false => simp only [bestS, h]; exact ih
theorem best_pick (n : Nat) (g : Nat → List Nat) (out : List Nat) : bestS n g out n = match pick n g out with | some f => (f : Int) | none => -1 := by
  rw [best_some n (Nat.le_refl _)]
  simp [pick]
theorem ord_none {n : Nat} {g : Nat → List Nat} {k : Nat} (h : ordN n g k = none) : ∀ j, ordN n g (k + j) = none
  | 0 => h
  | j + 1 => by
    show (ordN n g (k + j)).bind _ = none
    rw [ord_none h j]
    rfl
theorem ord_stuck {n : Nat} {g : Nat → List Nat} {out : List Nat} (h : ordN n g out.length = some out) (hl : out.length < n) (hp : pick n g out = none) : ordS n g = none := by
  have h1 : ordN n g (out.length + 1) = none := by simp [ordN, h, hp]
  have := ord_none h1 (n - (out.length + 1))
  rw [show out.length + 1 + (n - (out.length + 1)) = n by omega] at this
  exact this
theorem ord_next {n : Nat} {g : Nat → List Nat} {out : List Nat} {f : Nat} (h : ordN n g out.length = some out) (hp : pick n g out = some f) : ordN n g (out ++ [f]).length = some (out ++ [f]) := by
  rw [List.length_append, List.length_singleton]
  simp [ordN, h, hp]
/-- Ready, as far as the first q callees say. -/
def rdK (g : Nat → List Nat) (out : List Nat) (f q : Nat) : Bool := !out.contains f && ((g f).take q).all out.contains
theorem rdK_succ {g : Nat → List Nat} {out : List Nat} {f q : Nat} (h : q < (g f).length) : rdK g out f (q + 1) = (rdK g out f q && out.contains (g f)[q]) := by
  unfold rdK
  rw [List.take_succ_eq_append_getElem h, List.all_append]
  simp [Bool.and_assoc]
theorem rdK_all (g : Nat → List Nat) (out : List Nat) (f : Nat) : rdK g out f (g f).length = rdy g out f := by
  unfold rdK rdy
  rw [List.take_length]
set_option maxRecDepth 100000 in
set_option maxHeartbeats 1000000 in
theorem rorder_any (s : Scr) (V0 V1 : Value) (w : World) (hs : ScIs w.cell? s V0 V1) (hsf : s.fits) (hI64 : ∀ f ∈ s.funcs, ∀ x ∈ f.code, -9223372036854775808 ≤ x.2 ∧ x.2 ≤ 9223372036854775807) : Calls Tryz.prog 15 #[.agg #[V0, V1]] w (OrdEnd s w) := by
  obtain ⟨⟨a0, c0, rfl, n0⟩, ⟨a1, c1, rfl, n1⟩⟩ := hs
  have b1 := (Below.refl _ w).alloc (Nat.le_refl _) (.cells #[.slice a0 s.consts.length c0, .slice a1 s.funcs.length c1] 25)
  have hG := rgraph_any s _ _ (w.alloc (.cells #[.slice a0 s.consts.length c0, .slice a1 s.funcs.length c1] 25)) ⟨⟨a0, c0, rfl, n0.keep (below_keep b1)⟩, ⟨a1, c1, rfl, n1.keep (below_keep b1)⟩⟩ hsf hI64
  by_cases hr : s.right = true
  · obtain ⟨r1, r2, r3⟩ := right_calls hr
    obtain ⟨i1, i2, i3, i4⟩ := graph_inn s
    have HG : Hid (Calls Tryz.prog 25 #[.agg #[.slice a0 s.consts.length c0, .slice a1 s.funcs.length c1]] (w.alloc (.cells #[.slice a0 s.consts.length c0, .slice a1 s.funcs.length c1] 25)) fun e w1 => ∃ ga gc, e = .returned (.tuple #[.slice ga s.funcs.length gc, .int .i64 0]) ∧ Hid (RsAt w1.cell? ga (rowsI (graphS s)) ∧ Below w.heap.size w w1)) := hid7 (hG.mono fun e w1 ⟨h1, h2⟩ => by
      rw [if_pos hr] at h1
      obtain ⟨ga, gc, e1, h3⟩ := h1
      exact ⟨ga, gc, e1, hid7 ⟨h3, b1.trans (h2.mono b1.size)⟩⟩)
    have HI := hid7 (And.intro i1 (And.intro i3 i4))
    have HE1 : Hid (∀ W o, ordS s.funcs.length (gF s) = some o → ∀ a c, NsAt W.cell? a (rowI o) → Below w.heap.size w W → OrdEnd s w (.returned (.tuple #[.slice a o.length c, .int .i64 0])) W) := hid7 fun W o ho a c h1 h2 => by
      refine ⟨h2, ?_⟩
      rw [if_pos hr, ho]
      exact ⟨a, c, rfl, h1⟩
    have HE2 : Hid (∀ W, ordS s.funcs.length (gF s) = none → Below w.heap.size w W → OrdEnd s w (.returned (.tuple #[.slice none 0 0, .int .i64 34])) W) := hid7 fun W ho h2 => by
      refine ⟨h2, ?_⟩
      rw [if_pos hr, ho]
    obtain ⟨G, hGe⟩ : ∃ G, G = graphS s := ⟨_, rfl⟩
    obtain ⟨n, hfe⟩ : ∃ fl, fl = s.funcs.length := ⟨_, rfl⟩
    unfold gF at HI HE1 HE2
    rw [← hfe, ← hGe] at HG HI HE1 HE2
    rw [← hfe] at r1 r2 ⊢
    have HMk : Hid (∀ W : World, ∃ W2, (Instr.makeSlice 60 (.int .i64 (n : Int)) (.int .i64 (n : Int))).run Tryz.prog W = .ok (.slice (some ⟨W.heap.size, 0, none⟩) n n) W2 ∧ Hid (Fill W2 W.heap.size 4 n (fun _ => .bool false) ∧ Below W.heap.size W W2)) := hid7 fun W => by
      obtain ⟨W2, h1, h2, h3⟩ := made8 W 60 4 (.bool false) 1 n Tryz.underlying60 (by kernel_rfl) rfl (by omega) (by omega)
      exact ⟨W2, h1, hid7 ⟨h2, h3⟩⟩
    generalize s.consts.length = cl at HG ⊢
    clear hG hr r3 i1 i2 i3 i4 n0 n1 hsf hfe b1 hI64 hGe
    go_enter Tryz.func15, Tryz.ntmps15
    go_wp2_with (first
      | (go_at_call 25; refine HG.out.mono ?_; clear HG; rintro e w1 ⟨ga, gc, rfl, K1⟩; obtain ⟨w2, hm2, K2⟩ := HMk.out w1; clear HMk)
      | fail)
    have hGl := HI.out.2.2
    have HRow : Hid (∀ W, Below w1.heap.size w1 W → ∀ i < n, ∃ gb go aj cj, ga = some ⟨gb, go, none⟩ ∧ W.cell? ⟨gb, go + i, none⟩ = some (.slice aj (gOf G i).length cj) ∧ NsAt (lowC w1.heap.size W) aj (rowI (gOf G i)) ∧ (gOf G i).length ≤ 16) := hid7 fun W hW i hi => by
      obtain ⟨gb, go, aj, cj, h1, h2, h3, h4⟩ := row_at (K1.out.1.low hW) (f := i) (by omega)
      refine ⟨gb, go, aj, cj, h1, h3, h4, ?_⟩
      have : (gOf G i) ∈ G := by
        unfold gOf
        rw [List.getD_eq_getElem?_getD, List.getElem?_eq_getElem (by omega)]
        exact List.getElem_mem _
      have := HI.out.2.1 _ this
      omega
    have HIn : Hid (Inn n (gOf G)) := hid7 HI.out.1
    have B1 := hid7 K1.out.2
    clear hm2 HI hGl
    obtain ⟨g, hg⟩ : ∃ g, g = gOf G := ⟨_, rfl⟩
    rw [← hg] at HE1 HE2 HRow HIn
    clear hg K1
    have s2 := K2.out.2.size
    go_loopw [7] (fun ov wr => ∃ out : List Nat, Hid (wr.ownsRow w2.heap.size 3 1 ov out.length (cellsN (rowI out)) ∧ Fill wr w1.heap.size 4 n (boolV fun x => out.contains x) ∧ Below w1.heap.size w1 wr ∧ w2.heap.size ≤ wr.heap.size ∧ ordN n g out.length = some out ∧ out.length ≤ n)) (fun ov _ => n - slen ov)
    case atStart => exact ⟨[], hid7 ⟨World.ownsRow_nil _ _ _ _, K2.out.1.congr fun j _ => by simp [boolV], K2.out.2, Nat.le_refl _, rfl, Nat.zero_le _⟩⟩
    case round =>
      obtain ⟨out, HL⟩ := hrel
      obtain ⟨wo, rfl⟩ : ∃ wo, wo = wr := ⟨_, rfl⟩
      obtain ⟨oa, oc, eov, hoc, _⟩ := row_form HL.out.1
      subst eov
      have hol := HL.out.2.2.2.2.2
      have Bw := hid7 (B1.out.trans (HL.out.2.2.1.mono B1.out.size))
      by_cases hlt : out.length < n
      · have HRw : Hid (∀ i < n, ∃ gb go aj cj, ga = some ⟨gb, go, none⟩ ∧ wo.cell? ⟨gb, go + i, none⟩ = some (.slice aj (g i).length cj) ∧ NsAt (lowC w1.heap.size wo) aj (rowI (g i)) ∧ (g i).length ≤ 16) := hid7 (HRow.out wo HL.out.2.2.1)
        have HFl : Hid (∀ i < n, wo.cell? ⟨w1.heap.size, i, none⟩ = some (.bool (out.contains i))) := hid7 fun i hi => HL.out.2.1.cell hi
        obtain ⟨ol, hole⟩ : ∃ ol, ol = out.length := ⟨_, rfl⟩
        have HOL := hid7 hole
        rw [← hole] at hlt hol hoc ⊢
        clear hole HE1
        go_wp2_with fail
        go_loopw [8, 9] (fun bv fv wr => ∃ (j : Nat) (x y : Int), bv = .int .i64 y ∧ fv = .int .i64 x ∧ j ≤ n ∧ x = (j : Int) - 1 ∧ Hid (y = bestS n g out (n - j)) ∧ wo = wr) (fun _ fv _ => ((intOf fv) + 1).toNat)
        case atStart => exact ⟨n, (n : Int) - 1, -1, rfl, by go_num, Nat.le_refl _, rfl, hid7 (by rw [Nat.sub_self]; rfl), rfl⟩
        case round =>
          obtain ⟨j, x, y, rfl, rfl, hj, hx, Hy, rfl⟩ := hrel
          cases j with
          | zero =>
            obtain rfl : x = -1 := by omega
            have hp := best_pick n g out
            have hy := Hy.out
            rw [Nat.sub_zero, hp] at hy
            have hlt2 : out.length < n := by rw [← HOL.out]; exact hlt
            have f2 := HL.out.2.2.1.size
            cases hpk : pick n g out with
            | none =>
              rw [hpk] at hy
              have hy' : y = -1 := hy
              subst hy'
              have HE := hid7 (HE2.out wo (ord_stuck HL.out.2.2.2.2.1 hlt2 hpk) Bw.out)
              clear hx HRow HIn HRw HFl HL Hy hp hy hpk HE2
              go_wp2_with fail
              go_ret2
              exact HE.out
            | some f0 =>
              rw [hpk] at hy
              have hy' : y = (f0 : Int) := hy
              subst hy'
              obtain ⟨hf0, hrd0⟩ := pick_some hpk
              have g1 := HFl.out f0 hf0
              have g2 := HL.out.2.1.frozen f0
              have hord := ord_next HL.out.2.2.2.2.1 hpk
              have HW : Hid (∀ W, W = wo.setCell ⟨w1.heap.size, f0, none⟩ (.bool true) → W.ownsRow w2.heap.size 3 1 (.slice oa ol oc) ol (cellsN (rowI out)) ∧ Fill W w1.heap.size 4 n (boolV fun x => (out ++ [f0]).contains x) ∧ Below w1.heap.size w1 W ∧ w2.heap.size ≤ W.heap.size) := hid7 fun W hW => by
                subst hW
                refine ⟨?_, (HL.out.2.1.set f0 _).congr fun j _ => ?_, HL.out.2.2.1.setCell (p := ⟨w1.heap.size, f0, none⟩) (Nat.le_refl _) _, by simp [World.setCell]; exact HL.out.2.2.2.1⟩
                · have := HL.out.1
                  rw [← HOL.out] at this
                  have hw12 := K2.out.1.lt
                  exact row_blk this fun g hb _ _ => Below.heap_setCell _ _ _ _ (by show g ≠ w1.heap.size; omega)
                · simp only [boolV]
                  by_cases e : j = f0
                  · rw [if_pos e, e]; simp
                  · rw [if_neg e]; simp [e]
              obtain ⟨W, hW⟩ : ∃ W, W = wo.setCell ⟨w1.heap.size, f0, none⟩ (.bool true) := ⟨_, rfl⟩
              obtain ⟨R5, F5, B5, z5⟩ := HW.out W hW
              have R6 : Hid ((W.alloc (.cells #[.int .i64 (f0 : Int)] 3)).ownsRow w2.heap.size 3 1 (.slice oa ol oc) ol (cellsN (rowI out))) := hid7 (R5.alloc _)
              have bA : Below W.heap.size W (W.alloc (.cells #[.int .i64 (f0 : Int)] 3)) := (Below.refl _ _).alloc (Nat.le_refl _) _
              have K5 := hid7 (And.intro F5 (And.intro B5 (And.intro z5 (And.intro hord bA))))
              rw [hW] at R6
              clear hx HRow HIn HRw HFl HL Hy hp hy hpk HE2 HW R5 F5 B5 hord bA hrd0
              have z6 : w2.heap.size ≤ wo.heap.size := by rw [hW] at z5; simpa [World.setCell] using z5
              go_wp2_with (first
                | (at_builtin; refine wpList_appN _ rfl _ _ 27 rfl elemN_int w2.heap.size _ ol (cellsN (rowI out)) rfl R6.out _ rfl 1 [.int .i64 (f0 : Int)] (.inr ⟨⟨_, 0, none⟩, 1, rfl, cells_new8 _ [.int .i64 (f0 : Int)] 3 _ (by simp [World.setCell])⟩) rfl (by simp [Value.oneCell']) (by unfold maxLen; omega) (by omega) (by simp [World.setCell]; omega) ?_; intro v' w6 hr6 hs6)
                | fail)
              obtain ⟨va6, vc6, e6, _, _⟩ := row_form hr6
              subst e6
              obtain ⟨F5, B5, z5', hord, bA⟩ := K5.out
              have hs7 : Step (W.alloc (.cells #[.int .i64 (f0 : Int)] 3)) (.slice oa ol oc) w6 (.slice va6 (ol + 1) vc6) := by rw [hW]; exact hs6
              rw [← hW] at R6
              have b6 := hs7.below (B := w2.heap.size) (by simp; omega) (fun g e => (R6.out.lt g e).1)
              have b7 : Below w2.heap.size W w6 := (bA.mono z5).trans b6
              have hw12 := K2.out.1.lt
              refine ⟨⟨out ++ [f0], hid7 ⟨?_, F5.keep (b7.block _ hw12), B5.trans (b7.mono (by omega)), Nat.le_trans z5 b7.size, hord, by rw [List.length_append, List.length_singleton]; omega⟩⟩, by simp only [slen]; show n - (ol + 1) < n - ol; omega⟩
              rw [List.length_append, List.length_singleton, ← HOL.out, show cellsN (rowI (out ++ [f0])) = cellsN (rowI out) ++ [.int .i64 (f0 : Int)] by simp [cellsN, rowI]]
              exact hr6
          | succ j =>
            obtain rfl : x = (j : Int) := by omega
            clear hx
            obtain ⟨gb, go, aj, cj, ega, hrow, hns, hlen⟩ := HRw.out j (by omega)
            subst ega
            have hfj := HFl.out j (by omega)
            have HB1 : Hid (bestS n g out (n - j) = if rdy g out j = true then (j : Int) else y) := hid7 (by
              have := Hy.out
              rw [show n - j = (n - (j + 1)) + 1 by omega, bestS, show n - (n - (j + 1) + 1) = j by omega, ← this])
            have HNs := hid7 hns
            obtain ⟨gl, hgl⟩ : ∃ gl, gl = (g j).length := ⟨_, rfl⟩
            have HGL := hid7 hgl
            rw [← hgl] at hrow hlen
            have HR0 : Hid (out.contains j = !rdK g out j 0) := hid7 (by simp [rdK])
            rw [HR0.out] at hfj
            clear hns hgl Hy HR0
            go_wp2_with fail
            go_loopw [10, 11] (fun rv qv wr => ∃ (q : Nat), qv = .int .i64 q ∧ q ≤ gl ∧ rv = .bool (rdK g out j q) ∧ wo = wr) (fun _ qv _ => gl - (intOf qv).toNat)
            case atStart => exact ⟨0, rfl, Nat.zero_le _, by simp, rfl⟩
            case round =>
              obtain ⟨q, rfl, hq, rfl, rfl⟩ := hrel
              by_cases hql : q < gl
              · have hql2 : q < (g j).length := by rw [← HGL.out]; exact hql
                obtain ⟨bj, oj, eaj, _, hc⟩ := row_cell HNs.out hql2
                have hcn : (g j)[q] < n := HIn.out j (by omega) _ (List.getElem_mem hql2)
                have hcc := HFl.out _ hcn
                have HS := hid7 (rdK_succ (out := out) hql2)
                subst eaj
                generalize (g j)[q] = c at *
                generalize out.contains c = oc' at *
                clear HNs HRw HFl HRow HIn HB1 HGL
                cases hrq : rdK g out j q with
                | true =>
                  rw [hrq] at HS
                  go_wp2_with fail
                  exact ⟨⟨q + 1, by go_num, by omega, by rw [HS.out]; simp, trivial⟩, by simp [intOf]; omega⟩
                | false =>
                  rw [hrq] at HS
                  go_wp2_with fail
                  exact ⟨⟨q + 1, by go_num, by omega, by rw [HS.out]; simp, trivial⟩, by simp [intOf]; omega⟩
              · obtain rfl : q = gl := by omega
                have HRd : Hid (rdK g out j q = rdy g out j) := hid7 (by rw [HGL.out]; exact rdK_all g out j)
                rw [HRd.out]
                clear HNs HRw HFl HRow HIn HGL HRd
                cases hrd : rdy g out j with
                | true =>
                  rw [hrd] at HB1
                  go_wp2_with fail
                  exact ⟨⟨j, (j : Int) - 1, (j : Int), rfl, by go_num, by omega, rfl, hid7 (by rw [HB1.out]; simp), trivial⟩, by simp [intOf]⟩
                | false =>
                  rw [hrd] at HB1
                  go_wp2_with fail
                  exact ⟨⟨j, (j : Int) - 1, y, rfl, by go_num, by omega, rfl, hid7 (by rw [HB1.out]; simp), trivial⟩, by simp [intOf]⟩
      · have hln : out.length = n := by omega
        have HE := hid7 (HE1.out wo out (by have := HL.out.2.2.2.2.1; rw [hln] at this; exact this) oa oc (nst_own HL.out.1).ns Bw.out)
        generalize out.length = ol at *
        subst hln
        clear HE1 HE2 HRow HIn HL
        go_wp2_with fail
        go_ret2
        exact HE.out
  · have HG : Hid (Calls Tryz.prog 25 #[.agg #[.slice a0 s.consts.length c0, .slice a1 s.funcs.length c1]] (w.alloc (.cells #[.slice a0 s.consts.length c0, .slice a1 s.funcs.length c1] 25)) fun e w1 => e = .returned (.tuple #[.slice none 0 0, .int .i64 30]) ∧ Hid (OrdEnd s w (.returned (.tuple #[.slice none 0 0, .int .i64 30])) w1)) := hid7 (hG.mono fun e w1 ⟨h1, h2⟩ => by
      rw [if_neg hr] at h1
      refine ⟨h1, hid7 ⟨b1.trans (h2.mono b1.size), ?_⟩⟩
      rw [if_neg hr])
    generalize s.consts.length = cl at HG ⊢
    generalize s.funcs.length = fl at HG ⊢
    clear hG hr n0 n1 hsf b1 hI64
    go_enter Tryz.func15, Tryz.ntmps15
    go_wp2_with (first | (go_at_call 25; refine HG.out.mono ?_; clear HG; rintro e w1 ⟨rfl, K1⟩) | fail)
    go_ret2
    exact K1.out
end Go.Proofs.YtodagpmcmjleaaaGreat
