/- The law CodeBytes. -/
import Derived.Test.YtkbmmaacmofijaaDJ
import Derived.Test.YtkbmmaacmofijaaWS
import Derived.Test.YtkbmmaacmofijaaCK
import Derived.Test.YtkbmmaacmofijaaCS
import Derived.Test.YtkbmmaacmofijaaLCut
namespace Go.Proofs.Ytkbmmaacmofijaa
open Go.RowKit
theorem getS_fits (bs : List UInt8) : (getS bs).fits := by
  unfold getS
  split
  · exact gScr_fits _
  · exact ⟨by decide, by decide, fun f h => by simp at h, fun x h => by simp at h⟩
theorem lent_bs4 {w : World} {base g len cap : Nat} {bs : List UInt8} (hO : OwnB w base (.slice (some ⟨g, 0, none⟩) (len + 2) cap) (bs ++ [77, 78])) : Bs w (some ⟨g, 0, none⟩) bs := by
  obtain ⟨ao, cap', hv, _, _, hB, _⟩ := Own.bs hO
  simp only [Value.slice.injEq] at hv
  rw [← hv.1] at hB
  have := hB.take4 bs.length
  rwa [List.take_left] at this
set_option maxRecDepth 100000 in
set_option maxHeartbeats 4000000 in
theorem cbytes_walk (s : Scr) (V0 V1 : Value) (ab : Option Addr) (m cb : Nat) (bs : List UInt8) (hm : bs.length = m) (w : World) (hs : ScIs w.cell? s V0 V1) (hsf : s.fits) (hI64 : ∀ f ∈ s.funcs, ∀ x ∈ f.code, -9223372036854775808 ≤ x.2 ∧ x.2 ≤ 9223372036854775807) (hB : Bs w ab bs) (hm' : m ≤ 140737488351232) : Calls Try.prog 4 #[.agg #[V0, V1], .slice ab m cb] w fun e w' => e = .returned (.bool true) ∧ Below w.heap.size w w' := by
  have hC1 : ∀ W, Below w.heap.size w W → _ := fun W hW => rclone_any s V0 V1 W (hs.keep (below_keep hW)) hsf
  have hP1 : ∀ W u0 u1, ScIs W.cell? s u0 u1 → Calls Try.prog 18 #[.agg #[u0, u1]] W fun e w' => (∃ ao cap, e = .returned (.tuple #[.slice ao (putB4 s).length cap, .int .i64 (putE4 s)]) ∧ Bs w' ao (putB4 s)) ∧ Below W.heap.size W w' := fun W u0 u1 h => (put4_any s u0 u1 W h hsf).mono fun e w' h => ⟨by obtain ⟨⟨ao, cap, e1, e2, _⟩, _⟩ := put4_form h; exact ⟨ao, cap, e1, e2⟩, (put4_form h).2⟩
  have hP2 : ∀ W, Below w.heap.size w W → _ := fun W hW => rput4_any s V0 V1 W (hs.keep (below_keep hW)) hsf hI64
  have hG1 : ∀ W ga gc, Bs W ga bs → Calls Try.prog 20 #[.slice ga m gc] W (GetEnd4 bs W) := fun W ga gc h => get4_any ga m gc bs hm W h (by omega)
  have hG2 : ∀ W, Below w.heap.size w W → Calls Try.prog 21 #[.slice ab m cb] W (GetEnd4 bs W) := fun W hW => rget4_any ab m cb bs hm W (hB.keep (below_keep hW)) hm'
  have hE1 : ∀ W u0 u1, Below w.heap.size w W → ScIs W.cell? s u0 u1 → Calls Try.prog 15 #[.agg #[u0, u1], .agg #[V0, V1]] W fun e w' => e = .returned (.bool true) ∧ Below W.heap.size W w' := fun W u0 u1 hW hu => by
    have := rsame_any s s u0 u1 V0 V1 W hu (hs.keep (below_keep hW)) hsf hsf
    rw [decide_eq_true rfl] at this
    exact this
  have hE2 : ∀ W u0 u1 v0 v1, ScIs W.cell? (getS bs) u0 u1 → ScIs W.cell? (getS bs) v0 v1 → Calls Try.prog 15 #[.agg #[u0, u1], .agg #[v0, v1]] W fun e w' => e = .returned (.bool true) ∧ Below W.heap.size W w' := fun W u0 u1 v0 v1 h1 h2 => by
    have := rsame_any (getS bs) (getS bs) u0 u1 v0 v1 W h1 h2 (getS_fits bs) (getS_fits bs)
    rw [decide_eq_true rfl] at this
    exact this
  have hSt : ∀ W g c1, OwnB W w.heap.size (.slice (some ⟨g, 0, none⟩) (m + 2) c1) (bs ++ [77, 78]) → Below w.heap.size w W → Calls Try.prog 23 #[.slice (some ⟨g, 0, none⟩) m c1, .slice ab m cb] W fun e w' => e = .returned (.bool true) ∧ Below W.heap.size W w' := fun W g c1 hO hW => stays_any g m c1 _ bs ab cb W hm hm' hO (hB.keep (below_keep hW))
  have hLe : ∀ W, Below w.heap.size w W → _ := fun W hW => lent_any ab m cb bs W hm hm' (hB.keep (below_keep hW))
  have hKn := knows4_any
  obtain ⟨pb, hpb⟩ : ∃ x, x = putB4 s := ⟨_, rfl⟩
  obtain ⟨pe, hpe⟩ : ∃ x, x = putE4 s := ⟨_, rfl⟩
  rw [← hpb, ← hpe] at hP1 hP2
  obtain ⟨np, hnp⟩ : ∃ n, pb.length = n := ⟨_, rfl⟩
  rw [hnp] at hP1 hP2
  have HP := hid hnp
  clear hnp hpb hpe
  obtain ⟨⟨A0, C0, rfl, _⟩, ⟨A1, C1, rfl, _⟩⟩ := hs
  obtain ⟨n0, hn0⟩ : ∃ n, n = s.consts.length := ⟨_, rfl⟩
  obtain ⟨n1, hn1⟩ : ∃ n, n = s.funcs.length := ⟨_, rfl⟩
  rw [← hn0, ← hn1] at hC1 hP2 hE1 ⊢
  have HN0 := hid hn0
  have HN1 := hid hn1
  clear hn0 hn1
  have hgE : ∀ {W : World} {e : Ending} {W' : World}, GetEnd4 bs W e W' → (∃ a0 c0 a1 c1, e = .returned (.tuple #[.agg #[.slice a0 (getS bs).consts.length c0, .slice a1 (getS bs).funcs.length c1], .int .i64 (getE4 bs)]) ∧ ScIs W'.cell? (getS bs) (.slice a0 (getS bs).consts.length c0) (.slice a1 (getS bs).funcs.length c1)) ∧ Below W.heap.size W W' := fun {W e W'} h => by
    obtain ⟨⟨u0, u1, rfl, hS⟩, hb⟩ := h
    have hS' := hS
    obtain ⟨⟨a0, c0, rfl, _⟩, ⟨a1, c1, rfl, _⟩⟩ := hS'
    exact ⟨⟨a0, c0, a1, c1, rfl, hS⟩, hb⟩
  generalize getE4 bs = ge at hgE
  generalize getS bs = gs at hgE hE2
  generalize gs.consts.length = k0 at hgE
  generalize gs.funcs.length = k1 at hgE
  obtain ⟨W2, hW2⟩ : ∃ W2, W2 = w.alloc (.cells #[.slice A0 n0 C0, .slice A1 n1 C1] 25) := ⟨_, rfl⟩
  have hb2 : Below w.heap.size w W2 := by rw [hW2]; exact (Below.refl _ w).alloc (Nat.le_refl _) _
  have bA : W2.heap[w.heap.size]? = some (.cells #[.slice A0 n0 C0, .slice A1 n1 C1] 25 (0, 0)) := by rw [hW2]; exact heap_alloc_new w _
  have lift : ∀ W, Below W2.heap.size W2 W → Below w.heap.size w W := fun W h => hb2.trans (h.mono hb2.size)
  have boxA : ∀ W, Below W2.heap.size W2 W → W.cell? ⟨w.heap.size, 0, none⟩ = some (.slice A0 n0 C0) ∧ W.cell? ⟨w.heap.size, 1, none⟩ = some (.slice A1 n1 C1) := fun W hW => by
    obtain ⟨q0, q1, _, _⟩ := cells2 ((hW.block _ (lt_of_block bA)).trans bA)
    exact ⟨q0, q1⟩
  have hU := hLe W2 hb2
  clear hLe
  go_enter Try.func4, Try.ntmps4
  go_wp2_with fail
  rw [← hW2]
  clear hW2
  refine hU.mono ?_
  clear hU
  rintro e w3 ⟨g, c1, rfl, hO3, hb3⟩
  obtain ⟨p0, p1⟩ := boxA w3 hb3
  have hL3 := lent_bs4 hO3
  have hU := hC1 w3 (lift _ hb3)
  clear hC1
  go_wp2_with fail
  refine hU.mono ?_
  clear hU
  rintro e w4 ⟨u0, u1, rfl, hX, hb4'⟩
  have hX' := hX
  obtain ⟨⟨X0, G0, rfl, _⟩, ⟨X1, G1, rfl, _⟩⟩ := hX'
  rw [← HN0.out, ← HN1.out] at hX ⊢
  have hb4 := hb3.trans (hb4'.mono hb3.size)
  replace hO3 := Own.below hO3 hb4'
  replace hL3 := hL3.keep (below_keep hb4')
  obtain ⟨W5, hW5⟩ : ∃ W5, W5 = w4.alloc (.cells #[.slice X0 n0 G0, .slice X1 n1 G1] 25) := ⟨_, rfl⟩
  have hb45 : Below w4.heap.size w4 W5 := by rw [hW5]; exact (Below.refl _ _).alloc (Nat.le_refl _) _
  have bX : W5.heap[w4.heap.size]? = some (.cells #[.slice X0 n0 G0, .slice X1 n1 G1] 25 (0, 0)) := by rw [hW5]; exact heap_alloc_new w4 _
  have hb5 := hb4.trans (hb45.mono hb4.size)
  replace hX := hX.keep (below_keep hb45)
  replace hO3 := Own.below hO3 hb45
  replace hL3 := hL3.keep (below_keep hb45)
  have hU := hP1 W5 _ _ hX
  clear hP1
  go_wp2_with fail
  rw [← hW5]
  clear hW5
  refine hU.mono ?_
  clear hU
  rintro e w6 ⟨⟨ca, cc, rfl, hCb⟩, hb6'⟩
  have hb6 := hb5.trans (hb6'.mono hb5.size)
  obtain ⟨p0, p1⟩ := boxA w6 hb6
  have hU := hP2 w6 (lift _ hb6)
  clear hP2
  go_wp2_with (go_at_call 19; refine hU.mono ?_; clear hU; rintro e w7 ⟨⟨da, dc, rfl, hDb⟩, hb7'⟩)
  have hb57 := hb6'.trans (hb7'.mono hb6'.size)
  have hb7 := hb5.trans (hb57.mono hb5.size)
  replace hCb := hCb.keep (below_keep hb7')
  replace hL3 := hL3.keep (below_keep hb57)
  replace hO3 := Own.below hO3 hb57
  replace hX := hX.keep (below_keep hb57)
  have hU := hG1 w7 (some ⟨g, 0, none⟩) c1 hL3
  clear hG1
  refine hU.mono ?_
  clear hU
  intro e w8 hend
  obtain ⟨⟨y0, f0, y1, f1, rfl, hY⟩, hb8'⟩ := hgE hend
  clear hend
  obtain ⟨W9, hW9⟩ : ∃ W9, W9 = w8.alloc (.cells #[.slice y0 k0 f0, .slice y1 k1 f1] 25) := ⟨_, rfl⟩
  have hb89 : Below w8.heap.size w8 W9 := by rw [hW9]; exact (Below.refl _ _).alloc (Nat.le_refl _) _
  have bY : W9.heap[w8.heap.size]? = some (.cells #[.slice y0 k0 f0, .slice y1 k1 f1] 25 (0, 0)) := by rw [hW9]; exact heap_alloc_new w8 _
  have hb79 := hb8'.trans (hb89.mono hb8'.size)
  have hb9 := hb7.trans (hb79.mono hb7.size)
  replace hCb := hCb.keep (below_keep hb79)
  replace hDb := hDb.keep (below_keep hb79)
  replace hO3 := Own.below hO3 hb79
  replace hX := hX.keep (below_keep hb79)
  replace hY := hY.keep (below_keep hb89)
  have hU := hG2 W9 (lift _ hb9)
  clear hG2
  go_wp2_with fail
  rw [← hW9]
  clear hW9
  refine hU.mono ?_
  clear hU
  intro e w10 hend
  obtain ⟨⟨z0, h0, z1, h1, rfl, hZ⟩, hb10'⟩ := hgE hend
  clear hend hgE
  obtain ⟨W11, hW11⟩ : ∃ W11, W11 = w10.alloc (.cells #[.slice z0 k0 h0, .slice z1 k1 h1] 25) := ⟨_, rfl⟩
  have hb1011 : Below w10.heap.size w10 W11 := by rw [hW11]; exact (Below.refl _ _).alloc (Nat.le_refl _) _
  have bZ : W11.heap[w10.heap.size]? = some (.cells #[.slice z0 k0 h0, .slice z1 k1 h1] 25 (0, 0)) := by rw [hW11]; exact heap_alloc_new w10 _
  have hb911 := hb10'.trans (hb1011.mono hb10'.size)
  have hb11 := hb9.trans (hb911.mono hb9.size)
  replace hCb := hCb.keep (below_keep hb911)
  replace hDb := hDb.keep (below_keep hb911)
  replace hO3 := Own.below hO3 hb911
  replace hX := hX.keep (below_keep hb911)
  replace hY := hY.keep (below_keep hb911)
  replace hZ := hZ.keep (below_keep hb1011)
  replace bX := ((hb57.trans (hb79.mono hb57.size)).trans (hb911.mono (Nat.le_trans hb57.size hb79.size))).block _ (lt_of_block bX) |>.trans bX
  replace bY := (hb911.block _ (lt_of_block bY)).trans bY
  have boxes : ∀ W, Below W11.heap.size W11 W → (W.cell? ⟨w4.heap.size, 0, none⟩ = some (.slice X0 n0 G0) ∧ W.cell? ⟨w4.heap.size, 1, none⟩ = some (.slice X1 n1 G1)) ∧ (W.cell? ⟨w8.heap.size, 0, none⟩ = some (.slice y0 k0 f0) ∧ W.cell? ⟨w8.heap.size, 1, none⟩ = some (.slice y1 k1 f1)) ∧ W.cell? ⟨w10.heap.size, 0, none⟩ = some (.slice z0 k0 h0) ∧ W.cell? ⟨w10.heap.size, 1, none⟩ = some (.slice z1 k1 h1) := fun W hW => by
    obtain ⟨a0, a1, _, _⟩ := cells2 ((hW.block _ (lt_of_block bX)).trans bX)
    obtain ⟨b0, b1, _, _⟩ := cells2 ((hW.block _ (lt_of_block bY)).trans bY)
    obtain ⟨c0, c1, _, _⟩ := cells2 ((hW.block _ (lt_of_block bZ)).trans bZ)
    exact ⟨⟨a0, a1⟩, ⟨b0, b1⟩, c0, c1⟩
  have t1 := run_str hCb cc
  have t2 := run_str hDb dc
  rw [HP.out] at t1 t2
  have hS1 := hE2 W11 _ _ _ _ hY hZ
  clear hE2
  obtain ⟨⟨i0, i1⟩, ⟨i2, i3⟩, i4, i5⟩ := boxes W11 (Below.refl _ _)
  go_upto_region 7 with fail
  rw [← hW11]
  clear hW11
  go_wp2_with (first | (go_at_call 22; refine (num4_any _ _).mono ?_; rintro e w' ⟨rfl, hw'⟩; replace hw' := hw'.symm; subst hw') | (go_at_call 15; first | (refine hS1.mono ?_; clear hS1; rintro e w12 ⟨rfl, hb12⟩; have hb112 := hb11.trans (hb12.mono hb11.size); obtain ⟨⟨j0, j1⟩, ⟨j2, j3⟩, j4, j5⟩ := boxes w12 hb12; obtain ⟨q0, q1⟩ := boxA w12 hb112; have hS2 := hE1 w12 _ _ (lift _ hb112) (hX.keep (below_keep hb12)); clear hE1) | (refine hS2.mono ?_; clear hS2; rintro e w13 ⟨rfl, hb13'⟩; have hb13 := hb12.trans (hb13'.mono hb12.size); have hb113 := hb11.trans (hb13.mono hb11.size); have hS3 := hSt w13 g c1 ((Own.below hO3 hb13).mono fun k e => by have := (hO3.lt k e).1; have := hb2.size; omega) (lift _ hb113); clear hSt)) | (go_at_call 23; refine hS3.mono ?_; clear hS3; rintro e w14 ⟨rfl, hb14'⟩; have hb114 := hb113.trans (hb14'.mono hb113.size)) | (go_at_call 16; refine (hKn _).mono ?_; rintro e w15 ⟨rfl, hb15'⟩; have hb115 := hb114.trans (hb15'.mono hb114.size)))
  go_ret
  exact ⟨rfl, lift _ hb115⟩
end Go.Proofs.Ytkbmmaacmofijaa
