/- The law AsmParts. -/
import Derived.Test.YtbjipcpoiiegkaaGreatDoorLBk5
import Derived.Test.YtbjipcpoiiegkaaGreatDoorAH
import Derived.Test.YtbjipcpoiiegkaaGreatDoorAJ
namespace Go.Proofs.YtbjipcpoiiegkaaGreatDoor
open Go.RowKit Go.Shelf
theorem constT_len (c : List UInt8) : (constT c).length = 10 + 2 * c.length := by
  simp only [constT, List.length_append, List.length_cons, List.length_nil, hexWord_len]
  omega
theorem flat_next {α : Type} (g : α → List UInt8) (l : List α) (k : Nat) (h : k < l.length) : (l.drop k).flatMap g = g l[k] ++ (l.drop (k + 1)).flatMap g := by
  rw [List.drop_eq_getElem_cons h, List.flatMap_cons]
theorem headS_right {f : Fn} (hl : f.lists = true) : headS f = headW f := if_pos (headOk_of hl)
set_option maxRecDepth 100000 in
set_option maxHeartbeats 4000000 in
theorem parts_walk (s : Scr) (V0 V1 : Value) (w : World) (hs : ScIs w.cell? s V0 V1) (hsf : s.fits) (hI64 : ∀ f ∈ s.funcs, ∀ x ∈ f.code, -9223372036854775808 ≤ x.2 ∧ x.2 ≤ 9223372036854775807) (hM : Marks w) (hL : Laid w) :
    Calls Tryz.prog 7 #[.agg #[V0, V1]] w fun e w' => e = .returned (.bool true) ∧ Below w.heap.size w w' := by
  have hs0 := hs
  obtain ⟨⟨A0, C0, rfl, hcs⟩, ⟨A1, C1, rfl, hfs⟩⟩ := hs
  have hb2 := (Below.refl _ w).alloc (Nat.le_refl _) (.cells #[.slice A0 s.consts.length C0, .slice A1 s.funcs.length C1] 39)
  have bA := heap_alloc_new w (.cells #[.slice A0 s.consts.length C0, .slice A1 s.funcs.length C1] 39)
  have hCl := fun W (hW : Below w.heap.size w W) => rclone_any s _ _ W (hs0.keep (below_keep hW)) hsf
  have hPr1 := fun u0 u1 W (hW : Below w.heap.size w W) (h : ScIs W.cell? s u0 u1) => print5_any s u0 u1 W (hL.keep hW).pow (hM.keep hW) h hsf
  have hRt := rright4_any s _ _ _ (hs0.keep (below_keep hb2)) hsf hI64
  have hK := fun W (hW : Below w.heap.size w W) => knows5_any W (hM.keep hW) (hL.keep hW)
  cases hr : s.right with
  | false =>
    rw [hr] at hRt
    rw [printS_no hr] at hPr1
    go_enter Tryz.func7, Tryz.ntmps7
    go_wp2_with (first
      | (go_at_call 23; refine hRt.mono ?_; rintro e w3 ⟨rfl, x3⟩; clear hRt; have hb3 := hb2.trans (x3.mono hb2.size); obtain ⟨p0, p1, _, _⟩ := cells2 ((x3.block _ (lt_of_block bA)).trans bA); have hC3 := hCl w3 hb3; clear hCl)
      | (go_at_call 18; refine hC3.mono ?_; rintro e w4 ⟨u0, u1, rfl, hX, y4⟩; clear hC3; have hb4 := hb3.trans (y4.mono hb3.size); obtain ⟨⟨A2, C2, rfl, _⟩, ⟨A3, C3, rfl, _⟩⟩ := id hX; have hP4 := hPr1 _ _ w4 hb4 hX; clear hPr1)
      | (go_at_call 21; refine hP4.mono ?_; rintro e w5 ⟨rfl, y5⟩; clear hP4; have hb5 := hb4.trans (y5.mono hb4.size); have hK5 := hK w5 hb5; clear hK)
      | (go_at_call 12; refine hK5.mono ?_; rintro e w6 ⟨rfl, y6⟩; clear hK5; have hb6 := hb5.trans (y6.mono hb5.size))
      | fail)
    go_ret
    exact ⟨rfl, hb6⟩
  | true =>
    rw [hr] at hRt
    have HT : Hid (printS s = s.consts.flatMap constT ++ s.funcs.flatMap fnT) := hid (by unfold printS; rw [if_pos hr]; rfl)
    have hTl : (printS s).length ≤ 1000000 := printS_len s
    have hSm := small_of hr
    have hc32 : s.consts.length ≤ 32 := hSm.c
    have hf16 : s.funcs.length ≤ 16 := hSm.f
    have lift : ∀ W, Below (w.alloc (.cells #[.slice A0 s.consts.length C0, .slice A1 s.funcs.length C1] 39)).heap.size (w.alloc (.cells #[.slice A0 s.consts.length C0, .slice A1 s.funcs.length C1] 39)) W → Below w.heap.size w W := fun W h => hb2.trans (h.mono hb2.size)
    have box : ∀ W, Below (w.alloc (.cells #[.slice A0 s.consts.length C0, .slice A1 s.funcs.length C1] 39)).heap.size (w.alloc (.cells #[.slice A0 s.consts.length C0, .slice A1 s.funcs.length C1] 39)) W → W.cell? ⟨w.heap.size, 0, none⟩ = some (.slice A0 s.consts.length C0) ∧ W.cell? ⟨w.heap.size, 1, none⟩ = some (.slice A1 s.funcs.length C1) := fun W hW => by
      obtain ⟨q0, q1, _, _⟩ := cells2 ((hW.block _ (lt_of_block bA)).trans bA)
      exact ⟨q0, q1⟩
    generalize printS s = t1 at *
    go_enter Tryz.func7, Tryz.ntmps7
    go_wp2_with (first
      | (go_at_call 23; refine hRt.mono ?_; rintro e w3 ⟨rfl, x3⟩; clear hRt; have hb3 := hb2.trans (x3.mono hb2.size); obtain ⟨p0, p1, _, _⟩ := cells2 ((x3.block _ (lt_of_block bA)).trans bA); have hC3 := hCl w3 hb3; clear hCl)
      | (go_at_call 18; refine hC3.mono ?_; rintro e w4 ⟨u0, u1, rfl, hX, y4⟩; clear hC3; have x4 := x3.trans (y4.mono x3.size); have hb4 := hb3.trans (y4.mono hb3.size); obtain ⟨⟨A2, C2, rfl, _⟩, ⟨A3, C3, rfl, _⟩⟩ := id hX; have hP4 := hPr1 _ _ w4 hb4 hX; clear hPr1)
      | (go_at_call 21; refine hP4.mono ?_; rintro e w5 ⟨rfl, y5⟩; clear hP4; have hb5 := hb4.trans (y5.mono hb4.size); have x5 := x4.trans (y5.mono x4.size))
      | fail)
    clear p0 p1 hb3 x3 x4 hb4 y4 y5 hX
    generalize hW1 : w.alloc (.cells #[.slice A0 s.consts.length C0, .slice A1 s.funcs.length C1] 39) = W1 at *
    clear hW1
    generalize hnc : s.consts.length = nc at box hc32 ⊢
    generalize hnf : s.funcs.length = nf at box hf16 ⊢
    have HC := hid hnc.symm
    have HF := hid hnf.symm
    clear hnc hnf bA hs0 hsf
    go_loopw [4, 5] (fun v i wr => ∃ k : Nat, k ≤ nc ∧ i = .int .i64 k ∧ v = .int .i64 (((s.consts.take k).flatMap constT).length : Nat) ∧ wr = w5) (fun _ i _ => nc - (intOf i).toNat)
    case atStart => exact ⟨0, Nat.zero_le _, rfl, rfl, rfl⟩
    case round =>
      obtain ⟨k, hk, rfl, rfl, rfl⟩ := hrel
      obtain ⟨p0, p1⟩ := box _ x5
      by_cases hlt : k < nc
      · rcases hcs with h0 | ⟨x0, o0, rfl, hc0⟩
        · have := HC.out; rw [h0] at this; simp at this; omega
        have kl : k < s.consts.length := by have := HC.out; omega
        have c0 := below_keep (lift _ x5) _ _ (hc0 k kl)
        have HX := hid (flat_snoc constT s.consts k kl)
        have hlen : ((s.consts.take k).flatMap constT).length ≤ 1000000 := by
          have := flat_le (l := s.consts.take k) (g := constT) (M := 600) fun x hx => constT_le (hSm.cs x (List.mem_of_mem_take hx))
          simp only [List.length_take] at this
          omega
        have hcl := hSm.cs s.consts[k] (by simp)
        clear hc0
        generalize s.consts[k] = c at c0 HX hcl
        have HN : Hid (((s.consts.take (k + 1)).flatMap constT).length = ((s.consts.take k).flatMap constT).length + (10 + 2 * c.length)) := hid (by rw [HX.out, List.length_append, constT_len])
        clear HX
        generalize ((s.consts.take k).flatMap constT).length = acc at HN hlen ⊢
        go_wp2_with fail
        refine ⟨⟨k + 1, by omega, by go_num, ?_, by first | rfl | trivial⟩, by simp [intOf]; omega⟩
        rw [HN.out]
        go_num
      · have htk : s.consts.take k = s.consts := List.take_of_length_le (by have := HC.out; omega)
        rw [htk]
        have hn : t1.length = (s.consts.flatMap constT).length + (s.funcs.flatMap fnT).length := by rw [HT.out, List.length_append]
        have e1 : (⟨t1.toArray⟩ : ByteArray).extract (s.consts.flatMap constT).length t1.length = ⟨(s.funcs.flatMap fnT).toArray⟩ := by
          rw [cut_back]
          congr 1
          rw [HT.out]
          simp
        have hfl : (s.funcs.flatMap fnT).length ≤ 1000000 := by omega
        generalize (s.consts.flatMap constT).length = acc0 at e1 hn ⊢
        have hle : (acc0 : Int) ≤ (t1.length : Int) := by omega
        clear hn
        go_wp2_with fail
        have hdec : decide (t1.length < acc0) = false := by simp; omega
        rw [hdec]
        clear hdec hle
        go_loopw [6, 7] (fun v i wr => ∃ k : Nat, k ≤ nf ∧ i = .int .i64 k ∧ v = .string ⟨((s.funcs.drop k).flatMap fnT).toArray⟩ ∧ ((s.funcs.drop k).flatMap fnT).length ≤ 1000000 ∧ Below W1.heap.size W1 wr) (fun _ i _ => nf - (intOf i).toNat)
        case atStart => exact ⟨0, Nat.zero_le _, rfl, rfl, hfl, x5⟩
        case round =>
          obtain ⟨i, hi, rfl, rfl, hrl, hb4⟩ := hrel
          obtain ⟨y0, y1⟩ := box _ hb4
          by_cases hil : i < nf
          · rcases hfs with h0 | ⟨x0, o0, rfl, hc0⟩
            · have := HF.out; rw [h0] at this; simp at this; omega
            have il : i < s.funcs.length := by have := HF.out; omega
            obtain ⟨v0, v1, v2, v3, k0, k1, k2, k3, hfn⟩ := hc0 i il
            have hk3 := fun W (hW : Below W1.heap.size W1 W) => below_keep (lift _ hW) _ _ k3
            have hkw := below_keep (lift _ hb4)
            replace k0 := hkw _ _ k0
            replace k1 := hkw _ _ k1
            replace k2 := hkw _ _ k2
            replace k3 := hkw _ _ k3
            have HX := hid (flat_next fnT s.funcs i il)
            have hsf := hSm.fs s.funcs[i] (by simp)
            clear hc0 hkw
            generalize s.funcs[i] = f at hfn HX hsf
            have hHd := head_any f v0 v1 v2 v3 wr (hM.keep (lift _ hb4)) (hfn.keep (below_keep (lift _ hb4))) ⟨by have := hsf.p; omega, by have := hsf.r; omega, by have := hsf.l; omega⟩
            have hhl := headS_le hsf
            have HTf : Hid (fnT f = headS f ++ [10] ++ f.code.flatMap lineT) := hid rfl
            have hfT := fnT_le hsf
            generalize headS f = hd at hHd hhl HTf
            obtain ⟨⟨a0, c0, rfl, _⟩, ⟨a1, c1, rfl, _⟩, ⟨a2, c2, rfl, _⟩, ⟨a3, c3, rfl, hI⟩⟩ := hfn
            generalize f.p.length = m0 at k0 hHd
            generalize f.r.length = m1 at k1 hHd
            generalize f.l.length = m2 at k2 hHd
            have hcx := hsf.x
            have hm256 := hsf.c
            generalize hm : f.code.length = m at k3 hk3 hHd hm256
            have HM := hid hm.symm
            clear hm hsf
            have hl2 : (hd ++ [10]).length ≤ 400000 := by simp only [List.length_append, List.length_cons, List.length_nil]; omega
            generalize (s.funcs.drop i).flatMap fnT = rs at HX hrl ⊢
            go_wp2_with (first | (go_at_call 16; refine hHd.mono ?_; rintro e w6 ⟨rfl, hb6'⟩; have hbr6 := hb4.trans (hb6'.mono hb4.size); obtain ⟨z0, z1⟩ := box _ hbr6) | fail)
            have e2 : (⟨hd.toArray⟩ : ByteArray) ++ ⟨#[10]⟩ = ⟨(hd ++ [10]).toArray⟩ := ByteArray.ext (by simp)
            rw [e2]
            clear hHd
            generalize hd ++ [10] = acc2 at HTf hl2 ⊢
            go_loopw [8, 9] (fun v i w7 => ∃ j : Nat, j ≤ m ∧ i = .int .i64 j ∧ v = .string ⟨(acc2 ++ (f.code.take j).flatMap lineT).toArray⟩ ∧ Below W1.heap.size W1 w7) (fun _ i _ => m - (intOf i).toNat)
            case atStart => exact ⟨0, Nat.zero_le _, rfl, by simp, hbr6⟩
            case round =>
              obtain ⟨j, hj, rfl, rfl, hb7⟩ := hrel
              obtain ⟨t0, t1'⟩ := box _ hb7
              have t3 := hk3 _ hb7
              by_cases hjl : j < m
              · rcases hI with h0 | ⟨x3, o3, rfl, hc3⟩
                · have := HM.out; rw [h0] at this; simp at this; omega
                have jl : j < f.code.length := by have := HM.out; omega
                obtain ⟨k0, k1⟩ := hc3 j jl
                replace k0 := below_keep (lift _ hb7) _ _ k0
                replace k1 := below_keep (lift _ hb7) _ _ k1
                have hxr := hcx f.code[j] (by simp)
                have HY := hid (flat_snoc lineT f.code j jl)
                have hlen3 : (acc2 ++ (f.code.take j).flatMap lineT).length ≤ 500000 := by
                  have := flat_le (l := f.code.take j) (g := lineT) (M := 43) fun x hx => lineT_le (hcx x (List.mem_of_mem_take hx))
                  simp only [List.length_take] at this
                  simp only [List.length_append]
                  omega
                clear hc3
                generalize f.code[j] = x at k0 k1 hxr HY
                obtain ⟨o, a⟩ := x
                simp only at k0 k1 hxr
                have HY' : Hid (acc2 ++ (f.code.take (j + 1)).flatMap lineT = acc2 ++ (f.code.take j).flatMap lineT ++ (lineS (o, a) ++ [10])) := hid (by rw [HY.out, List.append_assoc]; rfl)
                clear HY
                generalize acc2 ++ (f.code.take j).flatMap lineT = acc3 at HY' hlen3 ⊢
                have hLn := fun W (hW : Below w.heap.size w W) => line_any o a hxr.1 hxr.2 W (hL.keep hW).pow
                have hll := lineS_len (o, a) hxr.1 hxr.2
                generalize lineS (o, a) = ln at hLn hll HY'
                have hLn7 := hLn _ (lift _ hb7)
                clear hLn
                go_wp2_with (first | (go_at_call 10; refine hLn7.mono ?_; rintro e w8 ⟨rfl, hb8'⟩; have hbr8 := hb7.trans (hb8'.mono hb7.size)) | fail)
                refine ⟨⟨j + 1, by omega, by go_num, ?_, hbr8⟩, by simp [intOf]; omega⟩
                rw [HY'.out]
                exact congrArg Value.string (ByteArray.ext (by simp))
              · have htk : f.code.take j = f.code := List.take_of_length_le (by have := HM.out; omega)
                rw [htk, ← HTf.out]
                have hrn : rs.length = (fnT f).length + ((s.funcs.drop (i + 1)).flatMap fnT).length := by rw [HX.out, List.length_append]
                have hnl : ((s.funcs.drop (i + 1)).flatMap fnT).length ≤ 1000000 := by omega
                have g1 : (⟨rs.toArray⟩ : ByteArray).extract 0 (fnT f).length = ⟨(fnT f).toArray⟩ := by
                  rw [cut_front]
                  congr 1
                  rw [HX.out]
                  simp
                have g2 : (⟨rs.toArray⟩ : ByteArray).extract (fnT f).length rs.length = ⟨((s.funcs.drop (i + 1)).flatMap fnT).toArray⟩ := by
                  rw [cut_back]
                  congr 1
                  rw [HX.out]
                  simp
                have hle2 : ((fnT f).length : Int) ≤ (rs.length : Int) := by omega
                have HB := hid hb7
                clear HX HTf hrn hI hcx htk
                generalize fnT f = lf at *
                go_wp2_with fail
                exact ⟨⟨i + 1, by omega, by go_num, rfl, hnl, HB.out⟩, by simp [intOf]; omega⟩
          · have htk : s.funcs.drop i = [] := List.drop_eq_nil_of_le (by have := HF.out; omega)
            rw [htk]
            simp only [List.flatMap_nil]
            have hKw := hK _ (lift _ hb4)
            go_wp2_with (go_at_call 12; refine hKw.mono ?_; rintro e w9 ⟨rfl, y9⟩)
            go_ret
            exact ⟨rfl, (lift _ hb4).trans (y9.mono (lift _ hb4).size)⟩
end Go.Proofs.YtbjipcpoiiegkaaGreatDoor
