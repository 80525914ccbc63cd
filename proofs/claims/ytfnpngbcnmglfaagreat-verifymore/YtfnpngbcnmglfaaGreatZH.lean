/- Layer 10: verify.Check of any bytes. Layer 10: what the law knows. -/
import Derived.Test.YtfnpngbcnmglfaaGreatZG
namespace Go.Proofs.YtfnpngbcnmglfaaGreat
open Go.RowKit
theorem gets_fits (bs : List UInt8) : (getS bs).fits := by
  unfold getS
  split
  · exact gScr_fits _
  · exact ⟨by decide, by decide, fun f h => by simp at h, fun x h => by simp at h⟩
theorem RowN.lower {B B' : Nat} {W : World} {a : Option Addr} {ns : List Int} (h : RowN B' W a ns) (hb : B ≤ B') : RowN B W a ns := ⟨h.1, fun g hg => Nat.le_trans hb (h.2 g hg)⟩
theorem RepIs.low7 {s : Scr} {B B' b : Nat} {W : World} {v0 v1 : Value} {sa da oa : Option Addr} {g : Nat} {d : Nat → Nat} {o : List Nat} (h : RepIs s B' W v0 v1 sa da oa g d o) (hb : B ≤ B') (hbb : b < B') (x0 x1 x2 x3 x4 x5 x6 : Value) : RepIs s B (set7 W b x0 x1 x2 x3 x4 x5 x6) v0 v1 sa da oa g d o := by
  obtain ⟨base, hB, hO⟩ := h.own
  exact ⟨h.right, h.all, h.tot, h.ord, ⟨base, by omega, own_set7 hO (by omega)⟩, (h.st.set7 hbb).lower hb, (h.dp.set7 hbb).lower hb, h.dpi, (h.od.set7 hbb).lower hb, (h.rm.set7 hbb).lower hb⟩
theorem RepIs.below {s : Scr} {B : Nat} {W W' : World} {v0 v1 : Value} {sa da oa : Option Addr} {g : Nat} {d : Nat → Nat} {o : List Nat} (h : RepIs s B W v0 v1 sa da oa g d o) (hb : Below W.heap.size W W') : RepIs s B W' v0 v1 sa da oa g d o := by
  obtain ⟨base, hB, hO⟩ := h.own
  exact ⟨h.right, h.all, h.tot, h.ord, ⟨base, hB, own_below hO hb⟩, h.st.keep hb, h.dp.keep hb, h.dpi, h.od.keep hb, h.rm.keep hb⟩
/-- What Check answers. -/
def chE (bs : List UInt8) : Int := if getE4 bs = 0 then ofE (getS bs) else getE4 bs
def RepEnd (er : Int) (s : Scr) (w : World) (e : Ending) (w' : World) : Prop := Below w.heap.size w w' ∧ ((er ≠ 0 ∧ e = .returned (.tuple #[.agg zero7, .int .i64 er])) ∨
  (er = 0 ∧ ∃ v0 v1 sa sc da dc oa oc g d o, e = .returned (.tuple #[.agg #[v0, v1, .int .i64 (totS s).2, .slice sa s.funcs.length sc, .slice da s.funcs.length dc, .slice oa s.funcs.length oc, .slice (some ⟨g, 0, none⟩) s.funcs.length s.funcs.length], .int .i64 0]) ∧ RepIs s w.heap.size w' v0 v1 sa da oa g d o))
set_option maxRecDepth 100000 in
set_option maxHeartbeats 4000000 in
theorem check_any (a : Option Addr) (m c : Nat) (bs : List UInt8) (hm : bs.length = m) (w : World) (hB : Bs w a bs) (hm' : m ≤ 140737488355328) : Calls Tryz.prog 10 #[.slice a m c] w (RepEnd (chE bs) (getS bs) w) := by
  obtain ⟨w0, hw0⟩ : ∃ w0, w0 = w.alloc (.cells #[.slice none 0 0, .slice none 0 0, .int .i64 0, .slice none 0 0, .slice none 0 0, .slice none 0 0, .slice none 0 0] 30) := ⟨_, rfl⟩
  have b0 : Below w.heap.size w w0 := by rw [hw0]; exact (Below.refl _ w).alloc (Nat.le_refl _) _
  have z0 : w0.heap[w.heap.size]? = some (.cells zero7 30 (0, 0)) := by rw [hw0]; exact heap_alloc_new w _
  have s0 : w0.heap.size = w.heap.size + 1 := by rw [hw0]; simp
  have HG : Hid (Calls Tryz.prog 30 #[.slice a m c] (w.alloc (.cells #[.slice none 0 0, .slice none 0 0, .int .i64 0, .slice none 0 0, .slice none 0 0, .slice none 0 0, .slice none 0 0] 30)) fun e W1 => ∃ x0 y0 x1 y1 n0 n1, e = .returned (.tuple #[.agg #[.slice x0 n0 y0, .slice x1 n1 y1], .int .i64 (getE4 bs)]) ∧ May7 (W1.alloc (.cells #[.slice x0 n0 y0, .slice x1 n1 y1] 27)) w.heap.size ∧ (∀ i, (W1.alloc (.cells #[.slice x0 n0 y0, .slice x1 n1 y1] 27)).frozen? ⟨w.heap.size, i, none⟩ = false) ∧ Hid (Below w.heap.size w (W1.alloc (.cells #[.slice x0 n0 y0, .slice x1 n1 y1] 27)) ∧ (W1.alloc (.cells #[.slice x0 n0 y0, .slice x1 n1 y1] 27)).heap[w.heap.size]? = some (.cells zero7 30 (0, 0))) ∧
      Hid (Calls Tryz.prog 18 #[.agg #[.slice x0 n0 y0, .slice x1 n1 y1]] (W1.alloc (.cells #[.slice x0 n0 y0, .slice x1 n1 y1] 27)) fun e W2 => ∃ b0 k0 l0 b1 k1 l1 gv b3 k3 l3 b4 k4 l4 b5 k5 l5 b6 k6 l6 er, e = .returned (.tuple #[.agg #[.slice b0 k0 l0, .slice b1 k1 l1, .int .i64 gv, .slice b3 k3 l3, .slice b4 k4 l4, .slice b5 k5 l5, .slice b6 k6 l6], .int .i64 er]) ∧ May7 W2 w.heap.size ∧ (∀ i, W2.frozen? ⟨w.heap.size, i, none⟩ = false) ∧ Hid (W2.heap[w.heap.size]? = some (.cells zero7 30 (0, 0)) ∧ (getE4 bs = 0 → RepEnd (chE bs) (getS bs) w (.returned (.tuple #[.agg #[.slice b0 k0 l0, .slice b1 k1 l1, .int .i64 gv, .slice b3 k3 l3, .slice b4 k4 l4, .slice b5 k5 l5, .slice b6 k6 l6], .int .i64 er])) (set7 W2 w.heap.size (.slice b0 k0 l0) (.slice b1 k1 l1) (.int .i64 gv) (.slice b3 k3 l3) (.slice b4 k4 l4) (.slice b5 k5 l5) (.slice b6 k6 l6)))))) := hid9 (by
    rw [← hw0]
    refine (get4_any a m c bs hm w0 (hB.keep (below_keep b0)) hm').mono fun e W1 ⟨⟨u0, u1, e1, hS⟩, hb1⟩ => ?_
    obtain ⟨⟨x0, y0, q0, n0⟩, ⟨x1, y1, q1, n1⟩⟩ := hS
    subst q0; subst q1
    have hS : ScIs W1.cell? (getS bs) (.slice x0 (getS bs).consts.length y0) (.slice x1 (getS bs).funcs.length y1) := ⟨⟨x0, y0, rfl, n0⟩, ⟨x1, y1, rfl, n1⟩⟩
    obtain ⟨W3, hW3⟩ : ∃ W3, W3 = W1.alloc (.cells #[.slice x0 (getS bs).consts.length y0, .slice x1 (getS bs).funcs.length y1] 27) := ⟨_, rfl⟩
    have b3 : Below W1.heap.size W1 W3 := by rw [hW3]; exact (Below.refl _ _).alloc (Nat.le_refl _) _
    have k3 : Below w0.heap.size w0 W3 := hb1.trans (b3.mono hb1.size)
    have z3 : W3.heap[w.heap.size]? = some (.cells zero7 30 (0, 0)) := (k3.block _ (by omega)).trans z0
    have kw : Below w.heap.size w W3 := b0.trans (k3.mono b0.size)
    refine ⟨x0, y0, x1, y1, _, _, e1, ?_⟩
    rw [← hW3]
    refine ⟨⟨⟨_, Lib.cell_of_heap z3 0⟩, ⟨_, Lib.cell_of_heap z3 1⟩, ⟨_, Lib.cell_of_heap z3 2⟩, ⟨_, Lib.cell_of_heap z3 3⟩, ⟨_, Lib.cell_of_heap z3 4⟩, ⟨_, Lib.cell_of_heap z3 5⟩, ⟨_, Lib.cell_of_heap z3 6⟩⟩, fun i => Lib.frozen_of_heap z3 i, hid9 ⟨kw, z3⟩, hid9 ((of_any (getS bs) _ _ W3 (hS.keep (below_keep b3)) (gets_fits bs)).mono fun e W2 ⟨h1, h2⟩ => ?_)⟩
    have z2 : W2.heap[w.heap.size]? = some (.cells zero7 30 (0, 0)) := (h1.block _ (heap_lt z3)).trans z3
    have k2 : Below w.heap.size w W2 := kw.trans (h1.mono kw.size)
    have sz := heap_lt z3
    have may : May7 W2 w.heap.size := ⟨⟨_, Lib.cell_of_heap z2 0⟩, ⟨_, Lib.cell_of_heap z2 1⟩, ⟨_, Lib.cell_of_heap z2 2⟩, ⟨_, Lib.cell_of_heap z2 3⟩, ⟨_, Lib.cell_of_heap z2 4⟩, ⟨_, Lib.cell_of_heap z2 5⟩, ⟨_, Lib.cell_of_heap z2 6⟩⟩
    rcases h2 with ⟨h3, h4⟩ | ⟨h3, v0, v1, sa, sc, da, dc, oa, oc, g, d, o, h4, hR⟩
    · exact ⟨none, 0, 0, none, 0, 0, 0, none, 0, 0, none, 0, 0, none, 0, 0, none, 0, 0, _, h4, may, fun i => Lib.frozen_of_heap z2 i, hid9 ⟨z2, fun h0 => ⟨below_set7 k2 (Nat.le_refl _), .inl ⟨by rw [chE, if_pos h0]; exact h3, by rw [chE, if_pos h0]; rfl⟩⟩⟩⟩
    · obtain ⟨base, hbs, hO⟩ := hR.own
      obtain ⟨⟨p0, r0, q0, _⟩, ⟨p1, r1, q1, _⟩⟩ := own_is hO
      subst q0; subst q1
      exact ⟨p0, _, r0, p1, _, r1, _, sa, _, sc, da, _, dc, oa, _, oc, some ⟨g, 0, none⟩, _, _, _, h4, may, fun i => Lib.frozen_of_heap z2 i, hid9 ⟨z2, fun h0 => ⟨below_set7 k2 (Nat.le_refl _), .inr ⟨by rw [chE, if_pos h0]; exact h3, _, _, sa, sc, da, dc, oa, oc, g, d, o, rfl, hR.low7 (by omega) (by omega) _ _ _ _ _ _ _⟩⟩⟩⟩)
  have HB0 : Hid (∀ W, getE4 bs ≠ 0 → Below w.heap.size w W → RepEnd (chE bs) (getS bs) w (.returned (.tuple #[.agg #[.slice none 0 0, .slice none 0 0, .int .i64 0, .slice none 0 0, .slice none 0 0, .slice none 0 0, .slice none 0 0], .int .i64 (getE4 bs)])) (set7 W w.heap.size (.slice none 0 0) (.slice none 0 0) (.int .i64 0) (.slice none 0 0) (.slice none 0 0) (.slice none 0 0) (.slice none 0 0))) := hid9 fun W h hb => ⟨below_set7 hb (Nat.le_refl _), .inl ⟨by rw [chE, if_neg h]; exact h, by rw [chE, if_neg h]; rfl⟩⟩
  clear hw0 b0 z0 s0 hB hm hm'
  generalize getE4 bs = ge at *
  by_cases hge : ge = 0
  · subst hge
    clear HB0
    go_enter Tryz.func10, Tryz.ntmps10
    go_wp2_with (first
      | (go_at_call 30; refine HG.out.mono ?_; clear HG; rintro e w3 ⟨x0, y0, x1, y1, n0, n1, rfl, _, _, _, HO⟩)
      | (go_at_call 18; refine HO.out.mono ?_; clear HO; rintro e W2 ⟨b0, k0, l0, b1, k1, l1, gv, b3, k3, l3, b4, k4, l4, b5, k5, l5, b6, k6, l6, er, rfl, ⟨⟨u0, m0⟩, ⟨u1, m1⟩, ⟨u2, m2⟩, ⟨u3, m3⟩, ⟨u4, m4⟩, ⟨u5, m5⟩, ⟨u6, m6⟩⟩, fz, HQ⟩; have f0 := fz 0; have f1 := fz 1; have f2 := fz 2; have f3 := fz 3; have f4 := fz 4; have f5 := fz 5; have f6 := fz 6; clear fz)
      | fail)
    exact ret_rep rfl rfl rfl rfl HQ.out.1 (HQ.out.2 (by trivial))
  · have hne : (ge != 0) = true := by simpa using hge
    go_enter Tryz.func10, Tryz.ntmps10
    go_wp2_with (first
      | (go_at_call 30; refine HG.out.mono ?_; clear HG; rintro e w3 ⟨x0, y0, x1, y1, n0, n1, rfl, ⟨⟨u0, m0⟩, ⟨u1, m1⟩, ⟨u2, m2⟩, ⟨u3, m3⟩, ⟨u4, m4⟩, ⟨u5, m5⟩, ⟨u6, m6⟩⟩, fz, HZ, _⟩; have f0 := fz 0; have f1 := fz 1; have f2 := fz 2; have f3 := fz 3; have f4 := fz 4; have f5 := fz 5; have f6 := fz 6; clear fz)
      | fail)
    exact ret_rep rfl rfl rfl rfl HZ.out.2 (HB0.out _ hge HZ.out.1)
end Go.Proofs.YtfnpngbcnmglfaaGreat
namespace Go.Proofs.YtfnpngbcnmglfaaGreat
open Go.RowKit
def kb10 : List UInt8 := [0, 1, 0, 0, 0, 0, 0]
def kS10 : Scr := ⟨[], [⟨[], [], [], []⟩]⟩
theorem k_get : getE4 kb10 = 0 ∧ getS kb10 = kS10 := by
  have h : getOk kb10 = true := by decide
  obtain ⟨h1, h2⟩ := get_yes h
  exact ⟨h1, by rw [h2]; rfl⟩
theorem k_right : kS10.right = true := by decide
theorem k_all : allS kS10 = (0, [0]) := by decide
theorem k_ord : ordS kS10.funcs.length (gF kS10) = some [0] := by decide
theorem k_tot : totS kS10 = (0, 0) := by decide
theorem k_che : chE kb10 = 0 := by
  rw [chE, if_pos k_get.1, k_get.2, ofE, if_pos k_right, k_all, if_pos rfl, k_ord, k_tot]
  rfl
theorem k_deep {d : Nat → Nat} (h : DeepIs kS10.funcs.length (gF kS10) d) : deepL kS10 d = [1] := by
  have h0 := h 0 (by decide)
  have e : gF kS10 0 = [] := by decide
  rw [e] at h0
  have h1 : d 0 = 1 := h0
  show (List.range 1).map (fun x => ((d x : Nat) : Int)) = [1]
  simp [List.range, List.range.loop, h1]
set_option maxRecDepth 100000 in
set_option maxHeartbeats 1000000 in
theorem allRight_none (w : World) : Calls Tryz.prog 79 #[.slice none 0 0] w fun e w' => e = .returned (.bool true) ∧ w' = w := by
  go_enter Tryz.func79, Tryz.ntmps79
  go_wp2_with fail
  go_loopw [7] (fun iv wr => iv = .int .i64 0 ∧ w = wr) (fun _ _ => 0)
  case atStart => exact ⟨rfl, rfl⟩
  case round =>
    obtain ⟨rfl, rfl⟩ := hrel
    go_wp2_with fail
    go_ret
    exact ⟨rfl, rfl⟩
set_option maxRecDepth 100000 in
set_option maxHeartbeats 1000000 in
theorem vfits_none (a : Option Addr) (c : Nat) (w : World) : Calls Tryz.prog 40 #[.slice none 0 0, .slice a 0 c] w fun e w' => e = .returned (.bool true) ∧ w' = w := by
  go_enter Tryz.func40, Tryz.ntmps40
  go_wp2_with fail
  go_loopw [14] (fun iv wr => iv = .int .i64 0 ∧ w = wr) (fun _ _ => 0)
  case atStart => exact ⟨rfl, rfl⟩
  case round =>
    obtain ⟨rfl, rfl⟩ := hrel
    go_wp2_with (first | (go_at_call 79; refine (allRight_none _).mono ?_; rintro e w1 ⟨rfl, rfl⟩) | fail)
    go_ret
    exact ⟨rfl, rfl⟩
set_option maxRecDepth 100000 in
set_option maxHeartbeats 1000000 in
theorem fits10_k (V0 V1 : Value) (w : World) (hs : ScIs w.cell? kS10 V0 V1) : Calls Tryz.prog 20 #[.agg #[V0, V1], .slice none 0 0] w fun e w' => e = .returned (.bool true) ∧ Below w.heap.size w w' := by
  obtain ⟨⟨a0, c0, rfl, n0⟩, ⟨a1, c1, rfl, n1⟩⟩ := hs
  have hs : ScIs w.cell? kS10 (.slice a0 kS10.consts.length c0) (.slice a1 kS10.funcs.length c1) := ⟨⟨a0, c0, rfl, n0⟩, ⟨a1, c1, rfl, n1⟩⟩
  have b1 := (Below.refl _ w).alloc (Nat.le_refl _) (.cells #[.slice a0 kS10.consts.length c0, .slice a1 kS10.funcs.length c1] 27)
  have e0 := heap_alloc_new w (.cells #[.slice a0 kS10.consts.length c0, .slice a1 kS10.funcs.length c1] 27)
  have HR : Hid (Calls Tryz.prog 39 #[.agg #[.slice a0 kS10.consts.length c0, .slice a1 kS10.funcs.length c1]] (w.alloc (.cells #[.slice a0 kS10.consts.length c0, .slice a1 kS10.funcs.length c1] 27)) fun e W1 => e = .returned (.bool true) ∧ W1.cell? ⟨w.heap.size, 1, none⟩ = some (.slice a1 kS10.funcs.length c1) ∧ (∃ fb fo pa pc, a1 = some ⟨fb, fo, none⟩ ∧ W1.cell? ⟨fb, fo, none⟩ = some (.slice pa 0 pc)) ∧ Hid (Below w.heap.size w W1)) := hid9 ((right4_any kS10 _ _ _ (hs.keep (below_keep b1)) (by exact ⟨by decide, by decide, fun f h => by simp [kS10] at h; subst h; exact ⟨by decide, by decide, by decide, by decide⟩, fun x h => by simp [kS10] at h⟩)).mono fun e W1 ⟨h1, h2⟩ => by
    have bb := b1.trans (h2.mono b1.size)
    refine ⟨by rw [h1, k_right], Lib.cell_of_heap ((h2.block _ (heap_lt e0)).trans e0) 1, ?_, hid9 bb⟩
    rcases n1.keep (below_keep bb) with h | ⟨fb, fo, e, h⟩
    · cases h
    · obtain ⟨v0, v1, v2, v3, q0, _, _, _, ⟨pa, pc, q4, _⟩, _⟩ := h 0 (by decide)
      rw [q4] at q0
      exact ⟨fb, fo, pa, pc, e, by have e2 : kS10.funcs[0].p.length = 0 := rfl
                                   rw [e2] at q0; simpa using q0⟩)
  clear hs n0 n1 b1 e0
  go_enter Tryz.func20, Tryz.ntmps20
  go_wp2_with (first
    | (go_at_call 39; refine HR.out.mono ?_; clear HR; rintro e W1 ⟨rfl, x1, ⟨fb, fo, pa, pc, rfl, p0⟩, HB⟩)
    | (go_at_call 40; refine (vfits_none _ _ _).mono ?_; rintro e W2 ⟨rfl, rfl⟩)
    | fail)
  all_goals first | (go_ret; exact ⟨rfl, HB.out⟩) | (exfalso; rename_i h; exact absurd h (by decide))
theorem num10_any (x : Int) (w : World) : Calls Tryz.prog 13 #[.int .i64 x] w fun e w' => e = .returned (.int .i64 x) ∧ w' = w := by
  go_enter Tryz.func13, Tryz.ntmps13
  go_wp2
  go_ret
  exact ⟨rfl, rfl⟩
theorem ns_one (W : World) (x : Int) (B : Nat) (hB : W.heap.size = B) : NsAt (W.alloc (.cells #[.int .i64 x] 3)).cell? (some ⟨B, 0, none⟩) [x] := .inr ⟨B, 0, rfl, fun j hj => by
  obtain rfl : j = 0 := by simp at hj; omega
  subst hB
  exact Lib.cell_of_heap (heap_alloc_new W _) 0⟩
set_option maxRecDepth 100000 in
set_option maxHeartbeats 2000000 in
theorem knows10_any (w : World) : Calls Tryz.prog 15 #[] w fun e w' => e = .returned (.bool true) ∧ Below w.heap.size w w' := by
  obtain ⟨w0, hw0⟩ : ∃ w0, w0 = w.alloc (.cells #[.int .u8 0, .int .u8 1, .int .u8 0, .int .u8 0, .int .u8 0, .int .u8 0, .int .u8 0] 5) := ⟨_, rfl⟩
  have b0 : Below w.heap.size w w0 := by rw [hw0]; exact (Below.refl _ w).alloc (Nat.le_refl _) _
  have hB : Bs w0 (some ⟨w.heap.size, 0, none⟩) kb10 := by
    have hh : w0.heap[w.heap.size]? = some (.cells #[.int .u8 0, .int .u8 1, .int .u8 0, .int .u8 0, .int .u8 0, .int .u8 0, .int .u8 0] 5 (0, 0)) := by rw [hw0]; exact heap_alloc_new w _
    refine .inr ⟨w.heap.size, 0, rfl, fun j hj => ?_⟩
    have hj2 : j = 0 ∨ j = 1 ∨ j = 2 ∨ j = 3 ∨ j = 4 ∨ j = 5 ∨ j = 6 := by simp [kb10] at hj; omega
    rcases hj2 with rfl | rfl | rfl | rfl | rfl | rfl | rfl <;> exact Lib.cell_of_heap hh _
  have HC : Hid (Calls Tryz.prog 10 #[.slice (some ⟨w.heap.size, 0, none⟩) 7 7] (w.alloc (.cells #[.int .u8 0, .int .u8 1, .int .u8 0, .int .u8 0, .int .u8 0, .int .u8 0, .int .u8 0] 5)) fun e W1 => ∃ b0 l0 b1 l1 b3 l3 b4 l4 b5 l5 b6 l6, e = .returned (.tuple #[.agg #[.slice b0 0 l0, .slice b1 1 l1, .int .i64 0, .slice b3 1 l3, .slice b4 1 l4, .slice b5 1 l5, .slice b6 1 l6], .int .i64 0]) ∧
      Hid (Calls Tryz.prog 29 #[.slice b3 1 l3, .slice (some ⟨W1.heap.size + 1, 0, none⟩) 1 1] ((W1.alloc (.cells #[.slice b0 0 l0, .slice b1 1 l1, .int .i64 0, .slice b3 1 l3, .slice b4 1 l4, .slice b5 1 l5, .slice b6 1 l6] 30)).alloc (.cells #[.int .i64 0] 3)) fun e W2 => e = .returned (.bool true) ∧ W2.cell? ⟨W1.heap.size, 4, none⟩ = some (.slice b4 1 l4) ∧
        Hid (Calls Tryz.prog 29 #[.slice b4 1 l4, .slice (some ⟨W2.heap.size, 0, none⟩) 1 1] (W2.alloc (.cells #[.int .i64 1] 3)) fun e W3 => e = .returned (.bool true) ∧ (W3.cell? ⟨W1.heap.size, 0, none⟩ = some (.slice b0 0 l0) ∧ W3.cell? ⟨W1.heap.size, 1, none⟩ = some (.slice b1 1 l1)) ∧
          Hid (Calls Tryz.prog 20 #[.agg #[.slice b0 0 l0, .slice b1 1 l1], .slice none 0 0] W3 fun e W4 => e = .returned (.bool true) ∧ Hid (Below w.heap.size w W4))))) := hid9 (by
    rw [← hw0]
    refine (check_any (some ⟨w.heap.size, 0, none⟩) 7 7 kb10 rfl w0 hB (by omega)).mono fun e W1 ⟨h1, h2⟩ => ?_
    rw [k_che, k_get.2] at h2
    rcases h2 with ⟨h2, _⟩ | ⟨_, v0, v1, sa, sc, da, dc, oa, oc, g, d, o, e1, hR⟩
    · exact absurd rfl h2
    obtain ⟨base, hbs, hO⟩ := hR.own
    obtain ⟨⟨p0, r0, q0, _⟩, ⟨p1, r1, q1, _⟩⟩ := own_is hO
    subst q0; subst q1
    rw [k_tot] at e1
    have kw : Below w.heap.size w W1 := b0.trans (h1.mono b0.size)
    refine ⟨p0, r0, p1, r1, sa, sc, da, dc, oa, oc, some ⟨g, 0, none⟩, _, e1, hid9 ?_⟩
    obtain ⟨W2, hW2⟩ : ∃ W2, W2 = W1.alloc (.cells #[.slice p0 0 r0, .slice p1 1 r1, .int .i64 0, .slice sa 1 sc, .slice da 1 dc, .slice oa 1 oc, .slice (some ⟨g, 0, none⟩) 1 1] 30) := ⟨_, rfl⟩
    have e2 : W2.heap[W1.heap.size]? = some (.cells #[.slice p0 0 r0, .slice p1 1 r1, .int .i64 0, .slice sa 1 sc, .slice da 1 dc, .slice oa 1 oc, .slice (some ⟨g, 0, none⟩) 1 1] 30 (0, 0)) := by rw [hW2]; exact heap_alloc_new W1 _
    have b2 : Below W1.heap.size W1 W2 := by rw [hW2]; exact (Below.refl _ _).alloc (Nat.le_refl _) _
    have s2 : W2.heap.size = W1.heap.size + 1 := by rw [hW2]; simp
    show Calls Tryz.prog 29 _ ((W1.alloc (.cells #[.slice p0 0 r0, .slice p1 1 r1, .int .i64 0, .slice sa 1 sc, .slice da 1 dc, .slice oa 1 oc, .slice (some ⟨g, 0, none⟩) 1 1] 30)).alloc (.cells #[.int .i64 0] 3)) _
    rw [← hW2]
    have b3 : Below W2.heap.size W2 (W2.alloc (.cells #[.int .i64 0] 3)) := (Below.refl _ _).alloc (Nat.le_refl _) _
    have n3 : NsAt (W2.alloc (.cells #[.int .i64 0] 3)).cell? sa [0] := by
      have := (hR.st.keep (b2.trans (b3.mono b2.size))).1
      rw [k_all] at this
      exact this
    refine (lints_any sa (some ⟨W1.heap.size + 1, 0, none⟩) sc 1 1 1 [0] [0] rfl rfl _ n3 (ns_one W2 0 _ s2) (by omega) (by omega)).mono fun e W3 ⟨h3, k3, h4⟩ => ?_
    have b4 : Below W2.heap.size W2 W3 := by rw [h4]; exact below_draws2 b3 k3
    have e3 := (b4.block _ (heap_lt e2)).trans e2
    refine ⟨by rw [h3]; simp, Lib.cell_of_heap e3 4, hid9 ?_⟩
    have b5 : Below W3.heap.size W3 (W3.alloc (.cells #[.int .i64 1] 3)) := (Below.refl _ _).alloc (Nat.le_refl _) _
    have k5 : Below W1.heap.size W1 (W3.alloc (.cells #[.int .i64 1] 3)) := (b2.trans (b4.mono b2.size)).trans (b5.mono (by have := b4.size; have := b2.size; omega))
    have n5 : NsAt (W3.alloc (.cells #[.int .i64 1] 3)).cell? da [1] := by
      have := (hR.dp.keep k5).1
      rw [k_deep hR.dpi] at this
      exact this
    refine (lints_any da (some ⟨W3.heap.size, 0, none⟩) dc 1 1 1 [1] [1] rfl rfl _ n5 (ns_one W3 1 _ rfl) (by omega) (by omega)).mono fun e W4 ⟨h5, k6, h6⟩ => ?_
    have b6 : Below W3.heap.size W3 W4 := by rw [h6]; exact below_draws2 b5 k6
    have e4 := (b6.block _ (heap_lt e3)).trans e3
    have k7 : Below W1.heap.size W1 W4 := (b2.trans (b4.mono b2.size)).trans (b6.mono (by have := b4.size; have := b2.size; omega))
    refine ⟨by rw [h5]; simp, ⟨Lib.cell_of_heap e4 0, Lib.cell_of_heap e4 1⟩, hid9 ((fits10_k _ _ W4 (own_is (own_below hO k7))).mono fun e W5 ⟨h7, h8⟩ => ⟨h7, hid9 ?_⟩)⟩
    have kk := kw.trans (k7.mono kw.size)
    exact kk.trans (h8.mono kk.size))
  clear hw0 b0 hB
  go_enter Tryz.func15, Tryz.ntmps15
  go_wp2_with (first
    | (go_at_call 10; refine HC.out.mono ?_; clear HC; rintro e W1 ⟨b0, l0, b1, l1, b3, l3, b4, l4, b5, l5, b6, l6, rfl, H1⟩)
    | (go_at_call 13; refine (num10_any _ _).mono ?_; rintro e W2 ⟨rfl, w2e⟩; rw [w2e]; clear w2e)
    | (go_at_call 29; first | (refine H1.out.mono ?_; clear H1; rintro e W2 ⟨rfl, x4, H2⟩) | (refine H2.out.mono ?_; clear H2; rintro e W3 ⟨rfl, ⟨x0, x1⟩, H3⟩))
    | (go_at_call 20; refine H3.out.mono ?_; clear H3; rintro e W4 ⟨rfl, HB⟩)
    | fail)
  all_goals first | (go_ret; exact ⟨rfl, HB.out⟩)
end Go.Proofs.YtfnpngbcnmglfaaGreat
