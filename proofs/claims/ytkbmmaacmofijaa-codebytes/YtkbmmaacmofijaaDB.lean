/- The document's BytesOf of a script that may be. -/
import Derived.Test.YtkbmmaacmofijaaDP
import Derived.Test.YtkbmmaacmofijaaCG
import Derived.Test.YtkbmmaacmofijaaCT
import Derived.Test.YtkbmmaacmofijaaLApart
namespace Go.Proofs.Ytkbmmaacmofijaa
open Go.RowKit
theorem texts_le4 : ∀ (L : List (List UInt8)), (∀ x ∈ L, x.length ≤ 256) → (texts L).length ≤ 258 * L.length
  | [], _ => by simp [texts]
  | x :: r, h => by
    have a := texts_le4 r fun y hy => h y (List.mem_cons_of_mem _ hy)
    have b := h x (List.mem_cons_self ..)
    unfold texts at a ⊢
    simp only [List.flatMap_cons, List.length_append, List.length_cons, text_length] at a ⊢
    omega
theorem src_two {w : World} {x y : Value} (t : TypeId) (hx : x.oneCell' = true) (hy : y.oneCell' = true) (c : Nat) : Src Try.prog 1 36 (.slice (some ⟨w.heap.size, 0, none⟩) 2 c) [x, y].length [x, y] (w.alloc (.cells #[x, y] t)) :=
  Src.ofSlice _ Try.underlying36 _ 2 c [x, y] rfl (World.news_of_block (heap_alloc_new w _)) (by intro u hu; simp at hu; rcases hu with rfl | rfl <;> assumption)
theorem rtakes_s (x : Int) (w : World) : Calls Try.prog 69 #[.int .i64 x] w fun e w' => e = .returned (.int .i64 (takesN x)) ∧ Below w.heap.size w w' := by
  rw [← takes_same]
  exact rtakes4 x w
set_option maxRecDepth 100000 in
set_option maxHeartbeats 1000000 in
theorem rbytesOf_any (s : Scr) (V0 V1 : Value) (w : World) (hs : ScIs w.cell? s V0 V1) (hr : s.right = true) : Calls Try.prog 37 #[.agg #[V0, V1]] w (RowB (scrB s) w) := by
  obtain ⟨r0, r1, r2, r3, r4⟩ := Scr.right_parts hr
  obtain ⟨⟨A0, C0, rfl, h0⟩, ⟨A1, C1, rfl, h1⟩⟩ := hs
  obtain ⟨nc, hnc⟩ : ∃ n, n = s.consts.length := ⟨_, rfl⟩
  obtain ⟨nf, hnf⟩ : ∃ n, n = s.funcs.length := ⟨_, rfl⟩
  rw [← hnc] at r0 ⊢
  rw [← hnf] at r1 r2 ⊢
  have HC := hid hnc
  have HF := hid hnf
  rw [← hnc, ← hnf] at r4
  clear hnc hnf
  obtain ⟨W1, hW1⟩ : ∃ W1, W1 = w.alloc (.cells #[.slice A0 nc C0, .slice A1 nf C1] 25) := ⟨_, rfl⟩
  have hz1 : w.heap.size + 1 ≤ W1.heap.size := by rw [hW1]; simp
  have hb1 : Below w.heap.size w W1 := by rw [hW1]; exact (Below.refl _ w).alloc (Nat.le_refl _) _
  have bA : W1.heap[w.heap.size]? = some (.cells #[.slice A0 nc C0, .slice A1 nf C1] 25 (0, 0)) := by rw [hW1]; exact heap_alloc_new w _
  have hbox : ∀ W, Below W1.heap.size W1 W → W.cell? ⟨w.heap.size, 0, none⟩ = some (.slice A0 nc C0) ∧ W.cell? ⟨w.heap.size, 1, none⟩ = some (.slice A1 nf C1) := fun W hW => by
    obtain ⟨q0, q1, _, _⟩ := cells2 ((hW.block _ (lt_of_block bA)).trans bA)
    exact ⟨q0, q1⟩
  have lift : ∀ W, Below W1.heap.size W1 W → Below w.heap.size w W := fun W h => hb1.trans (h.mono hb1.size)
  have hO0 := own_lit1 W1 nc (by omega) W1.heap.size (Nat.le_refl _)
  have R0 : Run W1.heap.size W1 (W1.alloc (.cells #[.int .u8 (nc : Int)] 5)) (.slice (some ⟨W1.heap.size, 0, none⟩) 1 1) ([UInt8.ofNat nc] ++ texts (s.consts.take 0)) := ⟨by simpa [texts] using hO0, (Below.refl _ _).alloc (Nat.le_refl _) _, by simp⟩
  have fin : ∀ W v, Run W1.heap.size W1 W v (scrB s) → RowB (scrB s) w (.returned v) W := fun W v R => ⟨⟨v, rfl, R.row.mono fun k e => by have := (R.row.lt k e).1; omega⟩, lift _ R.below⟩
  obtain ⟨q0, q1⟩ := hbox W1 (Below.refl _ _)
  go_enter Try.func37, Try.ntmps37
  go_upto_region 1 with fail
  rw [← hW1]
  clear hW1
  go_wp2_with fail
  go_loopw [3, 4] (fun v i wr => ∃ (k : Nat) (v' : Value), k ≤ nc ∧ i = .int .i64 k ∧ v = v' ∧ Run W1.heap.size W1 wr v' ([UInt8.ofNat nc] ++ texts (s.consts.take k))) (fun _ i _ => nc - (intOf i).toNat)
  case atStart => exact ⟨0, _, Nat.zero_le _, rfl, rfl, R0⟩
  case round =>
    obtain ⟨k, v', hk, rfl, rfl, R⟩ := hrel
    obtain ⟨c0, c1⟩ := hbox wr R.below
    by_cases hlt : k < nc
    · rcases h0 with hz | ⟨b, off, hao, hc⟩
      · have := HC.out; rw [hz] at this; simp at this; omega
      subst hao
      have kl : k < s.consts.length := by have := HC.out; omega
      have d0 := below_keep (lift _ R.below) _ _ (hc k kl)
      have HS : Hid ([UInt8.ofNat nc] ++ texts (s.consts.take (k + 1)) = ([UInt8.ofNat nc] ++ texts (s.consts.take k)) ++ text s.consts[k]) := hid (by unfold texts; rw [List.take_add_one, List.getElem?_eq_getElem kl]; show _ ++ List.flatMap text (s.consts.take k ++ [s.consts[k]]) = _; rw [List.flatMap_append, List.flatMap_cons, List.flatMap_nil, List.append_nil, List.append_assoc])
      have hx := r3 s.consts[k] (by simp)
      have hlen : ([UInt8.ofNat nc] ++ texts (s.consts.take k)).length ≤ 10000 := by
        have := texts_le4 (s.consts.take k) (fun x hx => r3 x (List.mem_of_mem_take hx))
        simp only [List.length_append, List.length_singleton, List.length_take] at this ⊢
        omega
      generalize s.consts[k] = x at d0 HS hx
      generalize [UInt8.ofNat nc] ++ texts (s.consts.take k) = ys at R HS hlen
      have hT := rtextOne x wr (by omega)
      have hxl : (text x).length ≤ 300 := by rw [text_length]; omega
      generalize text x = tx at hT HS hxl
      clear hc
      go_wp2_with (first | (go_at_call 67; refine hT.mono ?_; clear hT; rintro e w2 ⟨r, rfl, hO2, hb2⟩; obtain ⟨ao, cap, rfl, S2⟩ := Side.new R hO2; have R2 := R.call hb2) | (at_builtin; refine wpList_app _ rfl _ _ _ _ rfl elem_u8 W1.heap.size _ _ rfl R2.row _ rfl (tx.map bv) (S2.src _) (by simp only [List.length_map]; unfold maxLen; omega) (by simp only [List.length_map]; omega) R2.size ?_; intro v3 w3 ho3 hs3))
      have R3 := R2.app ho3 hs3
      exact ⟨⟨k + 1, v3, by omega, by go_num, rfl, by rw [HS.out]; exact R3⟩, by simp [intOf]; omega⟩
    · have htk : s.consts.take k = s.consts := List.take_of_length_le (by have := HC.out; omega)
      rw [htk] at R
      have hlen : ([UInt8.ofNat nc] ++ texts s.consts).length ≤ 10000 := by
        have := texts_le4 s.consts r3
        have := HC.out
        simp only [List.length_append, List.length_singleton] at *
        omega
      have HE : Hid (scrB s = ([UInt8.ofNat nc] ++ texts s.consts ++ [UInt8.ofNat nf]) ++ s.funcs.flatMap funcB) := hid (by rw [scrB, ← HC.out, ← HF.out])
      generalize [UInt8.ofNat nc] ++ texts s.consts = ys at R hlen HE
      have HB := hid (byte_val nf (by omega))
      have hw : (nf : Int) % 256 = (nf : Int) := by omega
      have zR := R.size
      go_wp2_with (first | (at_builtin; refine wpList_app _ rfl _ _ _ _ rfl elem_u8 W1.heap.size _ _ rfl (Own.alloc R.row _) _ rfl [bv (UInt8.ofNat nf)] (src_one _ Try.underlying36 _ _ _ (by first | exact HB.out | (rw [hw]; exact HB.out)) rfl _) (by simp only [List.length_map, List.length_singleton]; unfold maxLen; omega) (by simp only [List.length_map, List.length_singleton]; omega) (by simp; omega) ?_; intro v3 w3 ho3 hs3))
      have R3 := (R.alloc _).app (ys := [UInt8.ofNat nf]) ho3 hs3
      have hhd : (ys ++ [UInt8.ofNat nf]).length ≤ 10001 := by simp only [List.length_append, List.length_singleton]; omega
      generalize ys ++ [UInt8.ofNat nf] = hd at R3 HE hhd
      clear ho3 hs3 R HB hw zR hlen
      go_wp2_with fail
      go_loopw [3, 5] (fun v i wr => ∃ (k : Nat) (v' : Value), k ≤ nf ∧ i = .int .i64 k ∧ v = v' ∧ Run W1.heap.size W1 wr v' (hd ++ (s.funcs.take k).flatMap funcB)) (fun _ i _ => nf - (intOf i).toNat)
      case atStart => exact ⟨0, v3, Nat.zero_le _, rfl, rfl, by simpa using R3⟩
      case round =>
        obtain ⟨k, v', hk, rfl, rfl, R⟩ := hrel
        obtain ⟨c0, c1⟩ := hbox wr R.below
        by_cases hlt : k < nf
        · rcases h1 with hz | ⟨x0, o0, hao, hc0⟩
          · have := HF.out; rw [hz] at this; simp at this; omega
          subst hao
          have kl : k < s.funcs.length := by have := HF.out; omega
          obtain ⟨t0, t1, t2, t3, y0, y1, y2, y3, hfn⟩ := hc0 k kl
          have fr := r4 s.funcs[k] (by simp)
          have hfl := flatB (s.funcs.take k) (fun f hf => r4 f (List.mem_of_mem_take hf))
          rw [List.length_take] at hfl
          have HS : Hid ((s.funcs.take (k + 1)).flatMap funcB = (s.funcs.take k).flatMap funcB ++ funcB s.funcs[k]) := hid (by rw [List.take_add_one, List.getElem?_eq_getElem kl]; show List.flatMap funcB (s.funcs.take k ++ [s.funcs[k]]) = _; rw [List.flatMap_append, List.flatMap_cons, List.flatMap_nil, List.append_nil])
          generalize s.funcs[k] = f at hfn HS fr
          generalize (s.funcs.take k).flatMap funcB = zs at R HS hfl
          have hkp := below_keep (lift _ R.below)
          replace y0 := hkp _ _ y0
          replace y1 := hkp _ _ y1
          replace y2 := hkp _ _ y2
          replace y3 := hkp _ _ y3
          clear hc0 hkp
          obtain ⟨⟨a0, k0, rfl, F0⟩, ⟨a1, k1, rfl, F1⟩, ⟨a2, k2, rfl, F2⟩, ⟨a3, k3, rfl, F3⟩⟩ := hfn
          obtain ⟨rl, rlc⟩ := Fn.right_lists fr
          have rc := Fn.right_code r0 r2 fr
          have e0 := rl f.p (by simp)
          have e1 := rl f.r (by simp)
          have e2 := rl f.l (by simp)
          have hL0 : ∀ W, Below W1.heap.size W1 W → Calls Try.prog 68 #[.slice a0 f.p.length k0] W (RowB ([UInt8.ofNat f.p.length] ++ byts f.p) W) := fun W hW => rlist_any a0 _ k0 f.p rfl W (F0.keep (below_keep (lift _ hW))) (by omega) e0.2
          have hL1 : ∀ W, Below W1.heap.size W1 W → Calls Try.prog 68 #[.slice a1 f.r.length k1] W (RowB ([UInt8.ofNat f.r.length] ++ byts f.r) W) := fun W hW => rlist_any a1 _ k1 f.r rfl W (F1.keep (below_keep (lift _ hW))) (by omega) e1.2
          have hL2 : ∀ W, Below W1.heap.size W1 W → Calls Try.prog 68 #[.slice a2 f.l.length k2] W (RowB ([UInt8.ofNat f.l.length] ++ byts f.l) W) := fun W hW => rlist_any a2 _ k2 f.l rfl W (F2.keep (below_keep (lift _ hW))) (by omega) e2.2
          have HT : Hid (hd ++ (s.funcs.take (k + 1)).flatMap funcB = hd ++ zs ++ ([UInt8.ofNat f.p.length] ++ byts f.p) ++ ([UInt8.ofNat f.r.length] ++ byts f.r) ++ ([UInt8.ofNat f.l.length] ++ byts f.l) ++ byts [((f.code.length / 256 : Nat) : Int), ((f.code.length % 256 : Nat) : Int)] ++ f.code.flatMap insB) := hid (by rw [HS.out, funcB, codeB, lens]; simp only [List.flatMap_cons, List.flatMap_nil, List.append_nil, List.append_assoc])
          have l0 : ([UInt8.ofNat f.p.length] ++ byts f.p).length ≤ 17 := by simp only [List.length_append, List.length_singleton, byts_length]; omega
          have l1 : ([UInt8.ofNat f.r.length] ++ byts f.r).length ≤ 17 := by simp only [List.length_append, List.length_singleton, byts_length]; omega
          have l2 : ([UInt8.ofNat f.l.length] ++ byts f.l).length ≤ 17 := by simp only [List.length_append, List.length_singleton, byts_length]; omega
          have hys : (hd ++ zs).length ≤ 50000 := by simp only [List.length_append]; omega
          generalize [UInt8.ofNat f.p.length] ++ byts f.p = L0 at hL0 HT l0
          generalize [UInt8.ofNat f.r.length] ++ byts f.r = L1 at hL1 HT l1
          generalize [UInt8.ofNat f.l.length] ++ byts f.l = L2 at hL2 HT l2
          generalize hd ++ zs = ys at R HT hys
          clear HS F0 F1 F2 rl fr e0 e1 e2
          generalize f.p.length = n0 at *
          generalize f.r.length = n1 at *
          generalize f.l.length = n2 at *
          obtain ⟨n3, hn3⟩ : ∃ n, n = f.code.length := ⟨_, rfl⟩
          rw [← hn3] at y3 HT rlc
          have H3 := hid hn3
          clear hn3
          obtain ⟨W4, hW4⟩ : ∃ W4, W4 = wr.alloc (.cells #[.slice a0 n0 k0, .slice a1 n1 k1, .slice a2 n2 k2, .slice a3 n3 k3] 32) := ⟨_, rfl⟩
          have AS := Aside.new R #[.slice a0 n0 k0, .slice a1 n1 k1, .slice a2 n2 k2, .slice a3 n3 k3] 32
          replace R := R.alloc (.cells #[.slice a0 n0 k0, .slice a1 n1 k1, .slice a2 n2 k2, .slice a3 n3 k3] 32)
          rw [← hW4] at AS R
          have hSk : ∀ W v, Aside W v wr.heap.size (.cells #[.slice a0 n0 k0, .slice a1 n1 k1, .slice a2 n2 k2, .slice a3 n3 k3] 32 (0, 0)) → W.cell? ⟨wr.heap.size, 0, none⟩ = some (.slice a0 n0 k0) ∧ W.cell? ⟨wr.heap.size, 1, none⟩ = some (.slice a1 n1 k1) ∧ W.cell? ⟨wr.heap.size, 2, none⟩ = some (.slice a2 n2 k2) ∧ W.cell? ⟨wr.heap.size, 3, none⟩ = some (.slice a3 n3 k3) := fun W v A => by
            refine ⟨?_, ?_, ?_, ?_⟩
            all_goals (rw [Lib.cell_of_heap A.there]; rfl)
          obtain ⟨p0, p1, p2, p3⟩ := hSk _ _ AS
          go_upto_region 11 with fail
          rw [← hW4]
          clear hW4
          go_cut [3] (fun v wx => Run W1.heap.size W1 wx v (ys ++ L0 ++ L1 ++ L2) ∧ Aside wx v wr.heap.size (.cells #[.slice a0 n0 k0, .slice a1 n1 k1, .slice a2 n2 k2, .slice a3 n3 k3] 32 (0, 0)))
          case first =>
            have hdr : Below W4.heap.size W4 W4.drew := (Below.refl _ _).drew
            replace R := R.call hdr
            replace AS := AS.call hdr
            go_region_held3 (fun W => W.cell? ⟨wr.heap.size, 0, none⟩ = some (.slice a0 n0 k0) ∧ W.cell? ⟨wr.heap.size, 1, none⟩ = some (.slice a1 n1 k1) ∧ W.cell? ⟨wr.heap.size, 2, none⟩ = some (.slice a2 n2 k2) ∧ W.cell? ⟨wr.heap.size, 3, none⟩ = some (.slice a3 n3 k3)) (first | exact hSk _ _ AS | go_keep) (first | (go_at_call 68; first | (refine (hL0 _ R.below).mono ?_; clear hL0; rintro e wn ⟨⟨r, rfl, hO⟩, hb⟩; obtain ⟨g0, j0, rfl, S0⟩ := Side.new R hO; replace R := R.call hb; replace AS := AS.call hb) | (refine (hL1 _ R.below).mono ?_; clear hL1; rintro e wn ⟨⟨r, rfl, hO⟩, hb⟩; obtain ⟨g1, j1, rfl, S1⟩ := Side.new R hO; replace R := R.call hb; replace AS := AS.call hb; first | (replace S0 := S0.call hb) | skip) | (refine (hL2 _ R.below).mono ?_; clear hL2; rintro e wn ⟨⟨r, rfl, hO⟩, hb⟩; obtain ⟨g2, j2, rfl, S2⟩ := Side.new R hO; replace R := R.call hb; replace AS := AS.call hb; (first | (replace S0 := S0.call hb) | skip); (first | (replace S1 := S1.call hb) | skip))) | (refine step_app _ rfl (.tmp 47) (.tmp 50) _ _ rfl elem_u8 W1.heap.size _ _ rfl R.row _ rfl (L0.map bv) (S0.src _) (by simp only [List.length_map]; unfold maxLen; omega) (by simp only [List.length_map]; omega) R.size ?_; intro vn wn ho hs; replace R := R.app ho hs; replace AS := AS.app hs; clear S0; (first | (replace S1 := S1.app hs) | skip); (first | (replace S2 := S2.app hs) | skip)) | (refine step_app _ rfl (.tmp 51) (.tmp 54) _ _ rfl elem_u8 W1.heap.size _ _ rfl R.row _ rfl (L1.map bv) (S1.src _) (by simp only [List.length_map, List.length_append]; unfold maxLen; omega) (by simp only [List.length_map, List.length_append]; omega) R.size ?_; intro vn wn ho hs; replace R := R.app ho hs; replace AS := AS.app hs; clear S1; (first | (replace S2 := S2.app hs) | skip)) | (refine step_app _ rfl (.tmp 55) (.tmp 58) _ _ rfl elem_u8 W1.heap.size _ _ rfl R.row _ rfl (L2.map bv) (S2.src _) (by simp only [List.length_map, List.length_append]; unfold maxLen; omega) (by simp only [List.length_map, List.length_append]; omega) R.size ?_; intro vn wn ho hs; replace R := R.app ho hs; replace AS := AS.app hs; clear S2))
            all_goals
              go_wp2_with fail
              go_meet
              exact ⟨R, AS⟩
          case rest =>
            obtain ⟨R5, A5⟩ := hcut
            clear R AS hL0 hL1 hL2
            have hlen5 : (ys ++ L0 ++ L1 ++ L2).length ≤ 50060 := by simp only [List.length_append] at hys ⊢; omega
            generalize ys ++ L0 ++ L1 ++ L2 = xs at R5 HT hlen5
            have z5 := R5.size
            obtain ⟨p0, p1, p2, p3⟩ := hSk _ _ A5
            have HQ : Hid ([Value.int .u8 ((n3 : Int) / 256), .int .u8 ((n3 : Int) % 256)] = (byts [((n3 / 256 : Nat) : Int), ((n3 % 256 : Nat) : Int)]).map bv) := hid (by
              simp only [byts, List.map_cons, List.map_nil, Int.toNat_natCast, bv, UInt8.toNat_ofNat']
              rw [Nat.mod_eq_of_lt (by omega), Nat.mod_eq_of_lt (by omega)]
              simp)
            have hq : (n3 : Int) / 256 % 256 = (n3 : Int) / 256 := by omega
            go_wp2_with (first | (at_builtin; refine wpList_app _ rfl _ _ _ _ rfl elem_u8 W1.heap.size _ _ rfl (Own.alloc R5.row _) _ rfl [Value.int .u8 ((n3 : Int) / 256), .int .u8 ((n3 : Int) % 256)] (src_two _ rfl rfl _) (by simp only [List.length_map, List.length_cons, List.length_nil]; unfold maxLen; omega) (by simp only [List.length_map, List.length_cons, List.length_nil]; omega) (by simp; omega) ?_; intro v6 w6 ho6 hs6; rw [HQ.out] at ho6))
            have R6 := (R5.alloc _).app ho6 hs6
            have A6 := (A5.alloc _).app hs6
            have hlen6 : (xs ++ byts [((n3 / 256 : Nat) : Int), ((n3 % 256 : Nat) : Int)]).length ≤ 50062 := by simp only [List.length_append, byts_length, List.length_cons, List.length_nil]; omega
            generalize xs ++ byts [((n3 / 256 : Nat) : Int), ((n3 % 256 : Nat) : Int)] = us at R6 HT hlen6
            clear ho6 hs6 A5 R5 HQ hq hlen5 z5 p0 p1 p2 p3
            obtain ⟨p0, p1, p2, p3⟩ := hSk _ _ A6
            go_wp2_with fail
            go_loopw [3, 7] (fun v i wr' => ∃ (j : Nat) (v' : Value), j ≤ n3 ∧ i = .int .i64 j ∧ v = v' ∧ Run W1.heap.size W1 wr' v' (us ++ (f.code.take j).flatMap insB) ∧ Aside wr' v' wr.heap.size (.cells #[.slice a0 n0 k0, .slice a1 n1 k1, .slice a2 n2 k2, .slice a3 n3 k3] 32 (0, 0))) (fun _ i _ => n3 - (intOf i).toNat)
            case atStart => exact ⟨0, v6, Nat.zero_le _, rfl, rfl, by simpa using R6, A6⟩
            case round =>
              obtain ⟨j, v', hj, rfl, rfl, R, A⟩ := hrel
              obtain ⟨p0, p1, p2, p3⟩ := hSk _ _ A
              by_cases hjl : j < n3
              · rcases F3 with hz | ⟨b3, off3, hao, hc3⟩
                · have := H3.out; rw [hz] at this; simp at this; omega
                subst hao
                have jl : j < f.code.length := by have := H3.out; omega
                obtain ⟨hc0, hc1⟩ := hc3 j jl
                have hx := rc f.code[j] (by simp)
                have HS : Hid (us ++ (f.code.take (j + 1)).flatMap insB = us ++ (f.code.take j).flatMap insB ++ insB f.code[j]) := hid (by rw [List.take_add_one, List.getElem?_eq_getElem jl]; show us ++ List.flatMap insB (f.code.take j ++ [f.code[j]]) = _; rw [List.flatMap_append, List.flatMap_cons, List.flatMap_nil, List.append_nil, List.append_assoc])
                have hlen7 : (us ++ (f.code.take j).flatMap insB).length ≤ 60000 := by
                  have := insB_flat (f.code.take j)
                  simp only [List.length_append, List.length_take] at this ⊢
                  omega
                generalize f.code[j] = x at hc0 hc1 hx HS
                generalize us ++ (f.code.take j).flatMap insB = vs at R HS hlen7
                obtain ⟨xo, xa⟩ := x
                simp only at hc0 hc1 hx
                obtain ⟨o, rfl⟩ := Int.eq_ofNat_of_zero_le hx.1
                have ho : o ≤ 255 := by omega
                have hTk := rtakes_s (o : Int)
                have i0 := below_keep (lift _ R.below) _ _ hc0
                have i1 := below_keep (lift _ R.below) _ _ hc1
                have HB := hid (byte_val o ho)
                have hw : (o : Int) % 256 = (o : Int) := by omega
                have zR := R.size
                have HI : insB ((o : Int), xa) = [UInt8.ofNat o] ++ (if takesN (o : Int) = 0 then [] else if takesN (o : Int) = 1 then be64 xa else [UInt8.ofNat xa.toNat]) := by unfold insB; simp only [Int.toNat_natCast]
                rw [HI] at HS
                clear HI
                clear hc3
                by_cases t0 : takesN (o : Int) = 0
                · rw [if_pos t0, List.append_nil] at HS
                  rw [t0] at hTk
                  clear t0 hx
                  go_wp2_with (first | (at_builtin; refine wpList_app _ rfl _ _ _ _ rfl elem_u8 W1.heap.size _ _ rfl (Own.alloc R.row _) _ rfl [bv (UInt8.ofNat o)] (src_one _ Try.underlying36 _ _ _ (by first | exact HB.out | (rw [hw]; exact HB.out)) rfl _) (by simp only [List.length_map, List.length_singleton]; unfold maxLen; omega) (by simp only [List.length_map, List.length_singleton]; omega) (by simp; omega) ?_; intro v8 w8 ho8 hs8; have R8 := (R.alloc _).app (ys := [UInt8.ofNat o]) ho8 hs8; have A8 := (A.alloc _).app hs8; clear ho8 hs8; obtain ⟨p80, p81, p82, p83⟩ := hSk _ _ A8; have i80 := below_keep (lift _ R8.below) _ _ hc0; have i81 := below_keep (lift _ R8.below) _ _ hc1; have z8 := R8.size; clear HB) | (go_at_call 69; refine (hTk _).mono ?_; rintro e w9 ⟨rfl, hb9⟩; clear hTk; have R9 := R8.call hb9; have A9 := A8.call hb9; obtain ⟨p90, p91, p92, p93⟩ := hSk _ _ A9; have i90 := below_keep (lift _ R9.below) _ _ hc0; have i91 := below_keep (lift _ R9.below) _ _ hc1; have z9 := R9.size))
                  exact ⟨⟨j + 1, v8, by omega, by go_num, rfl, by rw [HS.out]; exact R9, A9⟩, by simp [intOf]; omega⟩
                by_cases t1 : takesN (o : Int) = 1
                · rw [if_neg t0, if_pos t1, ← List.append_assoc] at HS
                  rw [t1] at hTk
                  clear t0 t1 hx
                  go_wp2_with (first | (at_builtin; refine wpList_app _ rfl _ _ _ _ rfl elem_u8 W1.heap.size _ _ rfl (Own.alloc R.row _) _ rfl [bv (UInt8.ofNat o)] (src_one _ Try.underlying36 _ _ _ (by first | exact HB.out | (rw [hw]; exact HB.out)) rfl _) (by simp only [List.length_map, List.length_singleton]; unfold maxLen; omega) (by simp only [List.length_map, List.length_singleton]; omega) (by simp; omega) ?_; intro v8 w8 ho8 hs8; have R8 := (R.alloc _).app (ys := [UInt8.ofNat o]) ho8 hs8; have A8 := (A.alloc _).app hs8; clear ho8 hs8; obtain ⟨p80, p81, p82, p83⟩ := hSk _ _ A8; have i80 := below_keep (lift _ R8.below) _ _ hc0; have i81 := below_keep (lift _ R8.below) _ _ hc1; have z8 := R8.size; clear HB) | (go_at_call 69; refine (hTk _).mono ?_; rintro e w9 ⟨rfl, hb9⟩; clear hTk; have R9 := R8.call hb9; have A9 := A8.call hb9; obtain ⟨p90, p91, p92, p93⟩ := hSk _ _ A9; have i90 := below_keep (lift _ R9.below) _ _ hc0; have i91 := below_keep (lift _ R9.below) _ _ hc1; have z9 := R9.size) | (go_at_call 70; refine (refNumber_any xa _).mono ?_; rintro e w10 ⟨r, rfl, hO10, hb10⟩; obtain ⟨g10, j10, rfl, S10⟩ := Side.new R9 hO10; have R10 := R9.call hb10; have A10 := A9.call hb10; have z10 := R10.size) | (at_builtin; refine wpList_app _ rfl _ _ _ _ rfl elem_u8 W1.heap.size _ _ rfl R10.row _ rfl ((be64 xa).map bv) (S10.src _) (by simp only [List.length_map, List.length_append, List.length_singleton, be64_length]; unfold maxLen; omega) (by simp only [List.length_map, List.length_append, List.length_singleton, be64_length]; omega) R10.size ?_; intro v11 w11 ho11 hs11))
                  have R11 := R10.app ho11 hs11
                  have A11 := A10.app hs11
                  exact ⟨⟨j + 1, v11, by omega, by go_num, rfl, by rw [HS.out]; exact R11, A11⟩, by simp [intOf]; omega⟩
                · rw [if_neg t0, if_neg t1, ← List.append_assoc] at HS
                  have hq := hx.2.2
                  rcases hq with h | h | hq
                  · exact absurd h t0
                  · exact absurd h t1
                  obtain ⟨q, rfl⟩ := Int.eq_ofNat_of_zero_le hq.1
                  have hq' : q ≤ 255 := by omega
                  have HB2 := hid (byte_val q hq')
                  have hw2 : (q : Int) % 256 = (q : Int) := by omega
                  rw [Int.toNat_natCast] at HS
                  have n0' : (takesN (o : Int) == 0) = false := by simp [t0]
                  have n1' : (takesN (o : Int) == 1) = false := by simp [t1]
                  generalize takesN (o : Int) = tk at hTk n0' n1'
                  clear t0 t1 hx
                  go_wp2_with (first | (at_builtin; refine wpList_app _ rfl _ _ _ _ rfl elem_u8 W1.heap.size _ _ rfl (Own.alloc R.row _) _ rfl [bv (UInt8.ofNat o)] (src_one _ Try.underlying36 _ _ _ (by first | exact HB.out | (rw [hw]; exact HB.out)) rfl _) (by simp only [List.length_map, List.length_singleton]; unfold maxLen; omega) (by simp only [List.length_map, List.length_singleton]; omega) (by simp; omega) ?_; intro v8 w8 ho8 hs8; have R8 := (R.alloc _).app (ys := [UInt8.ofNat o]) ho8 hs8; have A8 := (A.alloc _).app hs8; clear ho8 hs8; obtain ⟨p80, p81, p82, p83⟩ := hSk _ _ A8; have i80 := below_keep (lift _ R8.below) _ _ hc0; have i81 := below_keep (lift _ R8.below) _ _ hc1; have z8 := R8.size; clear HB) | (go_at_call 69; refine (hTk _).mono ?_; rintro e w9 ⟨rfl, hb9⟩; clear hTk; have R9 := R8.call hb9; have A9 := A8.call hb9; obtain ⟨p90, p91, p92, p93⟩ := hSk _ _ A9; have i90 := below_keep (lift _ R9.below) _ _ hc0; have i91 := below_keep (lift _ R9.below) _ _ hc1; have z9 := R9.size) | (at_builtin; refine wpList_app _ rfl _ _ _ _ rfl elem_u8 W1.heap.size _ _ rfl (Own.alloc R9.row _) _ rfl [bv (UInt8.ofNat q)] (src_one _ Try.underlying36 _ _ _ (by first | exact HB2.out | (rw [hw2]; exact HB2.out)) rfl _) (by simp only [List.length_map, List.length_append, List.length_singleton]; unfold maxLen; omega) (by simp only [List.length_map, List.length_append, List.length_singleton]; omega) (by simp; omega) ?_; intro v11 w11 ho11 hs11))
                  have R11 := (R9.alloc _).app (ys := [UInt8.ofNat q]) ho11 hs11
                  have A11 := (A9.alloc _).app hs11
                  exact ⟨⟨j + 1, v11, by omega, by go_num, rfl, by rw [HS.out]; exact R11, A11⟩, by simp [intOf]; omega⟩
              · have htk : f.code.take j = f.code := List.take_of_length_le (by have := H3.out; omega)
                rw [htk, ← HT.out] at R
                go_wp2_with fail
                exact ⟨⟨k + 1, _, by omega, by go_num, rfl, R⟩, by simp [intOf]; omega⟩
        · have htk : s.funcs.take k = s.funcs := List.take_of_length_le (by have := HF.out; omega)
          rw [htk, ← HE.out] at R
          have F := fin wr _ R
          go_wp2_with fail
          go_ret
          exact F
set_option maxRecDepth 100000 in
theorem rput4_any (s : Scr) (V0 V1 : Value) (w : World) (hs : ScIs w.cell? s V0 V1) (hsf : s.fits) (hI64 : ∀ f ∈ s.funcs, ∀ x ∈ f.code, -9223372036854775808 ≤ x.2 ∧ x.2 ≤ 9223372036854775807) : Calls Try.prog 19 #[.agg #[V0, V1]] w fun e w' => (∃ ao cap, e = .returned (.tuple #[.slice ao (putB4 s).length cap, .int .i64 (putE4 s)]) ∧ Bs w' ao (putB4 s)) ∧ Below w.heap.size w w' := by
  have hB : ∀ W, Below w.heap.size w W → s.right = true → Calls Try.prog 37 #[.agg #[V0, V1]] W (RowB (scrB s) W) := fun W hW hr => rbytesOf_any s V0 V1 W (hs.keep (below_keep hW)) hr
  have hR : ∀ W, Below w.heap.size w W → Calls Try.prog 14 #[.agg #[V0, V1]] W fun e w' => e = .returned (.bool s.right) ∧ Below W.heap.size W w' := fun W hW => rright4_any s _ _ W (hs.keep (below_keep hW)) hsf hI64
  obtain ⟨⟨A0, C0, rfl, _⟩, ⟨A1, C1, rfl, _⟩⟩ := hs
  generalize s.consts.length = n0 at *
  generalize s.funcs.length = n1 at *
  obtain ⟨W2, hW2⟩ : ∃ W2, W2 = w.alloc (.cells #[.slice A0 n0 C0, .slice A1 n1 C1] 25) := ⟨_, rfl⟩
  have hb2 : Below w.heap.size w W2 := by rw [hW2]; exact (Below.refl _ w).alloc (Nat.le_refl _) _
  have bA : W2.heap[w.heap.size]? = some (.cells #[.slice A0 n0 C0, .slice A1 n1 C1] 25 (0, 0)) := by rw [hW2]; exact heap_alloc_new w _
  have hR2 := hR W2 hb2
  cases hr : s.right with
  | false =>
    have e1 : putE4 s = 30 := by simp [putE4, hr]
    have e2 : putB4 s = [] := by simp [putB4, hr]
    rw [e1, e2]
    rw [hr] at hR2
    go_enter Try.func19, Try.ntmps19
    go_wp2_with fail
    rw [← hW2]
    clear hW2
    refine hR2.mono ?_
    rintro e w3 ⟨rfl, hb3⟩
    go_wp2_with fail
    go_ret2
    exact ⟨⟨none, 0, rfl, .inl rfl⟩, hb2.trans (hb3.mono hb2.size)⟩
  | true =>
    have e1 : putE4 s = 0 := by simp [putE4, hr]
    have e2 : putB4 s = scrB s := by simp [putB4, hr]
    rw [e1, e2]
    rw [hr] at hR2
    go_enter Try.func19, Try.ntmps19
    go_wp2_with fail
    rw [← hW2]
    clear hW2
    refine hR2.mono ?_
    rintro e w3 ⟨rfl, hb3⟩
    obtain ⟨p0, p1, _, _⟩ := cells2 ((hb3.block _ (lt_of_block bA)).trans bA)
    have hb23 := hb2.trans (hb3.mono hb2.size)
    have hB3 := hB w3 hb23 hr
    go_wp2_with (go_at_call 37; refine hB3.mono ?_; rintro e w4 ⟨⟨v, rfl, hO⟩, hb4⟩)
    obtain ⟨ao, cap, rfl, _, _, hBs, _⟩ := Own.bs hO
    go_ret2
    exact ⟨⟨ao, cap, rfl, hBs⟩, hb23.trans (hb4.mono hb23.size)⟩
end Go.Proofs.Ytkbmmaacmofijaa
