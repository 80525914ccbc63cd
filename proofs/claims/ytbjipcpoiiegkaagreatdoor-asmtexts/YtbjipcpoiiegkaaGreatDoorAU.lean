/- The document's Print. -/
import Derived.Test.YtbjipcpoiiegkaaGreatDoorAP
import Derived.Test.YtbjipcpoiiegkaaGreatDoorCTg
import Derived.Test.YtbjipcpoiiegkaaGreatDoorBD
namespace Go.Proofs.YtbjipcpoiiegkaaGreatDoor
open Go.RowKit
set_option maxRecDepth 100000 in
set_option maxHeartbeats 4000000 in
theorem rprint5_any (s : Scr) (V0 V1 : Value) (w : World) (hs : ScIs w.cell? s V0 V1) (hsf : s.fits) (hI64 : ∀ f ∈ s.funcs, ∀ x ∈ f.code, -9223372036854775808 ≤ x.2 ∧ x.2 ≤ 9223372036854775807) : Calls Tryz.prog 22 #[.agg #[V0, V1]] w fun e w' => e = .returned (.string ⟨(printS s).toArray⟩) ∧ Below w.heap.size w w' := by
  obtain ⟨W1, hW1⟩ : ∃ W1, W1 = w.alloc (.cells #[V0, V1] 39) := ⟨_, rfl⟩
  have hb1 : Below w.heap.size w W1 := by rw [hW1]; exact (Below.refl _ w).alloc (Nat.le_refl _) _
  have bA : W1.heap[w.heap.size]? = some (.cells #[V0, V1] 39 (0, 0)) := by rw [hW1]; exact heap_alloc_new w _
  have box : ∀ W, Below W1.heap.size W1 W → W.cell? ⟨w.heap.size, 0, none⟩ = some V0 ∧ W.cell? ⟨w.heap.size, 1, none⟩ = some V1 := fun W hW => by
    obtain ⟨q0, q1, _, _⟩ := cells2 ((hW.block _ (lt_of_block bA)).trans bA)
    exact ⟨q0, q1⟩
  obtain ⟨p0, p1⟩ := box W1 (Below.refl _ _)
  have hR := rright4_any s V0 V1 W1 (hs.keep (below_keep hb1)) hsf hI64
  have HS : Hid (s.right = true → Small s) := hid fun h => small_of h
  have HP : Hid (printS s = if s.right = true then printT s else []) := hid rfl
  cases hr : s.right with
  | false =>
    rw [hr] at hR
    have H1 : Hid (printS s = []) := hid (by rw [HP.out, hr]; rfl)
    go_enter Tryz.func22, Tryz.ntmps22
    go_wp2_with fail
    rw [← hW1]
    go_wp2_with (go_at_call 23; refine hR.mono ?_; rintro e w2 ⟨rfl, hb2⟩)
    go_ret
    exact ⟨by rw [H1.out]; rfl, hb1.trans (hb2.mono hb1.size)⟩
  | true =>
    rw [hr] at hR
    have H1 : Hid (printS s = printT s) := hid (by rw [HP.out, hr]; rfl)
    have hSm := HS.out hr
    clear HS HP hr hsf
    obtain ⟨⟨A0, C0, rfl, F0⟩, ⟨A1, C1, rfl, F1⟩⟩ := hs
    have hc32 : s.consts.length ≤ 32 := hSm.c
    have hf16 : s.funcs.length ≤ 16 := hSm.f
    generalize hnc : s.consts.length = nc at hW1 bA box p0 p1 hR hc32 ⊢
    generalize hnf : s.funcs.length = nf at hW1 bA box p0 p1 hR hf16 ⊢
    have HC := hid hnc.symm
    have HF := hid hnf.symm
    clear hnc hnf
    go_enter Tryz.func22, Tryz.ntmps22
    go_wp2_with fail
    rw [← hW1]
    go_wp2_with (first | (go_at_call 23; refine hR.mono ?_; rintro e w2 ⟨rfl, hb2⟩) | fail)
    have lift : ∀ W, Below W1.heap.size W1 W → Below w.heap.size w W := fun W h => hb1.trans (h.mono hb1.size)
    clear hW1 p0 p1 hR bA
    go_loopw [3, 4] (fun v i wr => ∃ k : Nat, k ≤ nc ∧ i = .int .i64 k ∧ v = .string ⟨((s.consts.take k).flatMap constT).toArray⟩ ∧ Below W1.heap.size W1 wr) (fun _ i _ => nc - (intOf i).toNat)
    case atStart => exact ⟨0, Nat.zero_le _, rfl, rfl, hb2⟩
    case round =>
      obtain ⟨k, hk, rfl, rfl, hbr⟩ := hrel
      obtain ⟨p0, p1⟩ := box _ hbr
      by_cases hlt : k < nc
      · rcases F0 with h0 | ⟨x0, o0, rfl, hc0⟩
        · have := HC.out; rw [h0] at this; simp at this; omega
        have kl : k < s.consts.length := by have := HC.out; omega
        have c0 := below_keep (lift _ hbr) _ _ (hc0 k kl)
        have HX := hid (flat_snoc constT s.consts k kl)
        have hlen : ((s.consts.take k).flatMap constT).length ≤ 1000000 := by
          have := flat_le (l := s.consts.take k) (g := constT) (M := 600) fun x hx => constT_le (hSm.cs x (List.mem_of_mem_take hx))
          simp only [List.length_take] at this
          omega
        have hcl := hSm.cs s.consts[k] (by simp)
        clear hc0
        generalize s.consts[k] = c at c0 HX hcl
        generalize (s.consts.take k).flatMap constT = acc at HX hlen ⊢
        have hO := rone_any ⟨2, 0, c⟩ (by simp [Val.right, hcl]) (by simp) (by simp)
        simp only [Val.v, show wordOf ⟨2, 0, c⟩ = hexWord c by simp [wordOf]] at hO
        have HK : Hid (constT c = [99, 111, 110, 115, 116] ++ 32 :: hexWord c ++ [10]) := hid rfl
        have hhl := hexWord_len c
        generalize hexWord c = hx at hO HK hhl
        go_wp2_with (first | (go_at_call 49; refine (hO _).mono ?_; rintro e w5 ⟨rfl, hb5'⟩; have hbr5 := hbr.trans (hb5'.mono hbr.size)) | fail)
        refine ⟨⟨k + 1, by omega, by go_num, ?_, hbr5⟩, by simp [intOf]; omega⟩
        rw [HX.out, HK.out]
        exact congrArg Value.string (ByteArray.ext (by simp))
      · have htk : s.consts.take k = s.consts := List.take_of_length_le (by have := HC.out; omega)
        rw [htk]
        have HE : Hid (printT s = s.consts.flatMap constT ++ s.funcs.flatMap fnT) := hid rfl
        have hal : (s.consts.flatMap constT).length ≤ 19200 := by
          have := flat_le (l := s.consts) (g := constT) (M := 600) fun x hx => constT_le (hSm.cs x hx)
          have := HC.out
          omega
        generalize s.consts.flatMap constT = acc0 at HE hal ⊢
        go_wp2_with fail
        go_loopw [3, 5] (fun v i wr => ∃ k : Nat, k ≤ nf ∧ i = .int .i64 k ∧ v = .string ⟨(acc0 ++ (s.funcs.take k).flatMap fnT).toArray⟩ ∧ Below W1.heap.size W1 wr) (fun _ i _ => nf - (intOf i).toNat)
        case atStart => exact ⟨0, Nat.zero_le _, rfl, by simp, hbr⟩
        case round =>
          obtain ⟨i, hi, rfl, rfl, hb4⟩ := hrel
          obtain ⟨y0, y1⟩ := box _ hb4
          by_cases hil : i < nf
          · rcases F1 with h0 | ⟨x0, o0, rfl, hc0⟩
            · have := HF.out; rw [h0] at this; simp at this; omega
            have il : i < s.funcs.length := by have := HF.out; omega
            obtain ⟨v0, v1, v2, v3, k0, k1, k2, k3, hfn⟩ := hc0 i il
            have hk3 := fun W (hW : Below W1.heap.size W1 W) => below_keep (lift _ hW) _ _ k3
            have hkw := below_keep (lift _ hb4)
            replace k0 := hkw _ _ k0
            replace k1 := hkw _ _ k1
            replace k2 := hkw _ _ k2
            replace k3 := hkw _ _ k3
            have HX := hid (flat_snoc fnT s.funcs i il)
            have hsf := hSm.fs s.funcs[i] (by simp)
            have hlen : (acc0 ++ (s.funcs.take i).flatMap fnT).length ≤ 300000 := by
              have := flat_le (l := s.funcs.take i) (g := fnT) (M := 12000) fun x hx => fnT_le (hSm.fs x (List.mem_of_mem_take hx))
              simp only [List.length_take] at this
              simp only [List.length_append]
              omega
            clear hc0 hkw
            generalize s.funcs[i] = f at hfn HX hsf
            have HX' : Hid (acc0 ++ (s.funcs.take (i + 1)).flatMap fnT = acc0 ++ (s.funcs.take i).flatMap fnT ++ fnT f) := hid (by rw [HX.out, List.append_assoc])
            clear HX
            generalize acc0 ++ (s.funcs.take i).flatMap fnT = acc at HX' hlen ⊢
            have hHd := rhead_any f v0 v1 v2 v3 wr (hfn.keep (below_keep (lift _ hb4))) ⟨by have := hsf.p; omega, by have := hsf.r; omega, by have := hsf.l; omega⟩
            have hhl := headS_le hsf
            have HT : Hid (fnT f = headS f ++ [10] ++ f.code.flatMap lineT) := hid rfl
            generalize headS f = hd at hHd hhl HT
            obtain ⟨⟨a0, c0, rfl, _⟩, ⟨a1, c1, rfl, _⟩, ⟨a2, c2, rfl, _⟩, ⟨a3, c3, rfl, hI⟩⟩ := hfn
            generalize f.p.length = m0 at k0 hHd
            generalize f.r.length = m1 at k1 hHd
            generalize f.l.length = m2 at k2 hHd
            have hcx := hsf.x
            have hm256 := hsf.c
            generalize hm : f.code.length = m at k3 hk3 hHd hm256
            have HM := hid hm.symm
            clear hm hsf
            have hl2 : (acc ++ (hd ++ [10])).length ≤ 400000 := by simp only [List.length_append, List.length_cons, List.length_nil]; omega
            go_wp2_with (first | (go_at_call 17; refine hHd.mono ?_; rintro e w5 ⟨rfl, hb5'⟩; have hbr5 := hb4.trans (hb5'.mono hb4.size); obtain ⟨z0, z1⟩ := box _ hbr5) | fail)
            have HT' : Hid (acc ++ fnT f = acc ++ (hd ++ [10]) ++ f.code.flatMap lineT) := hid (by rw [HT.out]; simp only [List.append_assoc])
            have e2 : (⟨acc.toArray⟩ : ByteArray) ++ ⟨hd.toArray⟩ ++ ⟨#[10]⟩ = ⟨(acc ++ (hd ++ [10])).toArray⟩ := ByteArray.ext (by simp)
            rw [e2]
            clear HT hHd
            generalize acc ++ (hd ++ [10]) = acc2 at HT' hl2 ⊢
            go_loopw [3, 6] (fun v i w7 => ∃ j : Nat, j ≤ m ∧ i = .int .i64 j ∧ v = .string ⟨(acc2 ++ (f.code.take j).flatMap lineT).toArray⟩ ∧ Below W1.heap.size W1 w7) (fun _ i _ => m - (intOf i).toNat)
            case atStart => exact ⟨0, Nat.zero_le _, rfl, by simp, hbr5⟩
            case round =>
              obtain ⟨j, hj, rfl, rfl, hb7⟩ := hrel
              obtain ⟨t0, t1⟩ := box _ hb7
              have t3 := hk3 _ hb7
              by_cases hjl : j < m
              · rcases hI with h0 | ⟨x3, o3, rfl, hc3⟩
                · have := HM.out; rw [h0] at this; simp at this; omega
                have jl : j < f.code.length := by have := HM.out; omega
                obtain ⟨k0, k1⟩ := hc3 j jl
                replace k0 := below_keep (lift _ hb7) _ _ k0
                replace k1 := below_keep (lift _ hb7) _ _ k1
                have hxr := hcx f.code[j] (by simp)
                have HY := hid (flat_snoc lineT f.code j jl)
                have hlen3 : (acc2 ++ (f.code.take j).flatMap lineT).length ≤ 500000 := by
                  have := flat_le (l := f.code.take j) (g := lineT) (M := 43) fun x hx => lineT_le (hcx x (List.mem_of_mem_take hx))
                  simp only [List.length_take] at this
                  simp only [List.length_append]
                  omega
                clear hc3
                generalize f.code[j] = x at k0 k1 hxr HY
                obtain ⟨o, a⟩ := x
                simp only at k0 k1 hxr
                have HY' : Hid (acc2 ++ (f.code.take (j + 1)).flatMap lineT = acc2 ++ (f.code.take j).flatMap lineT ++ (lineS (o, a) ++ [10])) := hid (by rw [HY.out, List.append_assoc]; rfl)
                clear HY
                generalize acc2 ++ (f.code.take j).flatMap lineT = acc3 at HY' hlen3 ⊢
                have hLn := rline_any o a hxr.1 hxr.2
                have hll := lineS_len (o, a) hxr.1 hxr.2
                generalize lineS (o, a) = ln at hLn hll HY'
                go_wp2_with (first | (go_at_call 11; refine (hLn _).mono ?_; rintro e w8 ⟨rfl, hb8'⟩; have hbr8 := hb7.trans (hb8'.mono hb7.size)) | fail)
                refine ⟨⟨j + 1, by omega, by go_num, ?_, hbr8⟩, by simp [intOf]; omega⟩
                rw [HY'.out]
                exact congrArg Value.string (ByteArray.ext (by simp))
              · have htk : f.code.take j = f.code := List.take_of_length_le (by have := HM.out; omega)
                rw [htk, ← HT'.out, ← HX'.out]
                go_wp2_with fail
                exact ⟨⟨i + 1, by omega, by go_num, rfl, hb7⟩, by simp [intOf]; omega⟩
          · have htk : s.funcs.take i = s.funcs := List.take_of_length_le (by have := HF.out; omega)
            rw [htk, ← HE.out]
            go_wp2_with fail
            go_ret
            exact ⟨by rw [H1.out]; rfl, lift _ hb4⟩
end Go.Proofs.YtbjipcpoiiegkaaGreatDoor
