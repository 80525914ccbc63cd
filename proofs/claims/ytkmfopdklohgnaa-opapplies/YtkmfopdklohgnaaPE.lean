/- The document's bytesOp, the rest. -/
import Derived.Test.YtkmfopdklohgnaaPD
namespace Go.Proofs.Ytkmfopdklohgnaa
open Go.RowKit
attribute [local go_sem high] eq_val eq_val0
theorem conv1at (w : World) (B : Nat) (hB : w.heap.size = B) (x : Int) (t : TypeId) :
    (convert 61 9 (.slice (some ⟨B, 0, none⟩) 1 1)).run Try.prog (w.alloc (.cells #[.int .u8 x] t)) = .ok (.string (strOfNums [x])) (w.alloc (.cells #[.int .u8 x] t)) := by
  subst hB
  exact conv1 w x t
set_option maxHeartbeats 1000000 in
set_option maxRecDepth 100000 in
theorem rb_same (bk off c : Nat) (xb yb : List UInt8) (w : World) (_hxb : xb.length ≤ 256) (_hyb : yb.length ≤ 256) (l0 : bk < w.heap.size) (_c02 : w.cell? ⟨bk, off + 2, none⟩ = some (.string ⟨xb.toArray⟩)) (_c12 : w.cell? ⟨bk, off + 3 + 2, none⟩ = some (.string ⟨yb.toArray⟩))  : Calls Try.prog 34 #[.string ⟨#[115, 97, 109, 101]⟩, .slice (some ⟨bk, off, none⟩) 2 c] w (Both (Val.truth (xb == yb)) 0 w) := by
  go_enter Try.func34, Try.ntmps34
  have hT := rtruth_any (xb == yb)
  generalize Val.truth (xb == yb) = r at *
  obtain ⟨rt, rn, rb⟩ := r
  go_wp2
  go_region_with (first | (go_at_call 31; refine (hT _).mono ?_; rintro e w3 ⟨rfl, rfl⟩; simp only [Val.box, Val.v]))
  all_goals go_wp2
  all_goals exact ret_mix (x := ⟨rt, rn, rb⟩) rfl rfl rfl rfl ((val_new w ⟨rt, rn, rb⟩).keep (keep_alloc _ _)) ⟨rfl, (((Below.refl _ w).alloc (Nat.le_refl _) _).alloc (by simp) _).drew⟩

set_option maxHeartbeats 1000000 in
set_option maxRecDepth 100000 in
theorem rb_less (bk off c : Nat) (xb yb : List UInt8) (w : World) (_hxb : xb.length ≤ 256) (_hyb : yb.length ≤ 256) (l0 : bk < w.heap.size) (_c02 : w.cell? ⟨bk, off + 2, none⟩ = some (.string ⟨xb.toArray⟩)) (_c12 : w.cell? ⟨bk, off + 3 + 2, none⟩ = some (.string ⟨yb.toArray⟩))  : Calls Try.prog 34 #[.string ⟨#[108, 101, 115, 115]⟩, .slice (some ⟨bk, off, none⟩) 2 c] w (Both (Val.truth (Op.bytesLess xb yb)) 0 w) := by
  go_enter Try.func34, Try.ntmps34
  have hT := rtruth_any (Op.bytesLess xb yb)
  generalize Val.truth (Op.bytesLess xb yb) = r at *
  obtain ⟨rt, rn, rb⟩ := r
  go_wp2
  go_region_with (first | (go_at_call 31; refine (hT _).mono ?_; rintro e w3 ⟨rfl, rfl⟩; simp only [Val.box, Val.v]))
  all_goals go_wp2
  all_goals exact ret_mix (x := ⟨rt, rn, rb⟩) rfl rfl rfl rfl ((val_new w ⟨rt, rn, rb⟩).keep (keep_alloc _ _)) ⟨rfl, (((Below.refl _ w).alloc (Nat.le_refl _) _).alloc (by simp) _).drew⟩

set_option maxHeartbeats 1000000 in
set_option maxRecDepth 100000 in
theorem rb_pack (bk off c : Nat) (xn : Int) (w : World) (l0 : bk < w.heap.size) (_c01 : w.cell? ⟨bk, off + 1, none⟩ = some (.int .i64 xn))  : Calls Try.prog 34 #[.string ⟨#[112, 97, 99, 107]⟩, .slice (some ⟨bk, off, none⟩) 1 c] w (Both ⟨2, 0, packV xn⟩ 0 w) := by
  go_enter Try.func34, Try.ntmps34
  go_wp2_with (first | (go_at_call 47; refine (packed_any _ _).mono ?_; rintro e w2 ⟨rfl, hb2⟩; have hbx := box_new0 w hb2; obtain ⟨⟨q0, q1, q2⟩, f0, f1, f2⟩ := box_cells hbx; have hsz : w.heap.size < w2.heap.size := (Array.getElem?_eq_some_iff.1 hbx).1))
  refine ret_mix (x := ⟨2, 0, packV xn⟩) rfl rfl rfl rfl (set3 hbx rfl ⟨2, 0, packV xn⟩) ⟨rfl, ?_⟩
  exact below3 (((Below.refl _ w).alloc (Nat.le_refl _) _).trans (hb2.mono (by simp)))

set_option maxHeartbeats 1000000 in
set_option maxRecDepth 100000 in
theorem rb_unpack (bk off c : Nat) (xb : List UInt8) (w : World) (_hxb : xb.length ≤ 256) (l0 : bk < w.heap.size) (_c02 : w.cell? ⟨bk, off + 2, none⟩ = some (.string ⟨xb.toArray⟩)) (g : xb.length ≤ 8) : Calls Try.prog 34 #[.string ⟨#[117, 110, 112, 97, 99, 107]⟩, .slice (some ⟨bk, off, none⟩) 1 c] w (Both ⟨1, unpackV xb, []⟩ 0 w) := by
  go_enter Try.func34, Try.ntmps34
  have hU := unpacked_any xb g
  simp only [Val.v] at hU
  go_wp2_with (first | (go_at_call 48; refine (hU _).mono ?_; rintro e w2 ⟨rfl, hb2⟩; have hbx := box_new0 w hb2; obtain ⟨⟨q0, q1, q2⟩, f0, f1, f2⟩ := box_cells hbx; have hsz : w.heap.size < w2.heap.size := (Array.getElem?_eq_some_iff.1 hbx).1))
  refine ret_mix (x := ⟨1, unpackV xb, []⟩) rfl rfl rfl rfl (set3 hbx rfl ⟨1, unpackV xb, []⟩) ⟨rfl, ?_⟩
  exact below3 (((Below.refl _ w).alloc (Nat.le_refl _) _).trans (hb2.mono (by simp)))

set_option maxHeartbeats 1000000 in
set_option maxRecDepth 100000 in
theorem rb_unlong (bk off c : Nat) (xb : List UInt8) (w : World) (_hxb : xb.length ≤ 256) (l0 : bk < w.heap.size) (_c02 : w.cell? ⟨bk, off + 2, none⟩ = some (.string ⟨xb.toArray⟩)) (g : 8 < (xb.length : Int)) : Calls Try.prog 34 #[.string ⟨#[117, 110, 112, 97, 99, 107]⟩, .slice (some ⟨bk, off, none⟩) 1 c] w (Both ⟨0, 0, []⟩ 41 w) := by
  go_enter Try.func34, Try.ntmps34
  have hU := unpacked_long xb (by omega)
  simp only [Val.v] at hU
  go_wp2_with (first | (go_at_call 48; refine (hU _).mono ?_; rintro e w2 ⟨rfl, hb2⟩; have hbx := box_new0 w hb2; obtain ⟨⟨q0, q1, q2⟩, f0, f1, f2⟩ := box_cells hbx; have hsz : w.heap.size < w2.heap.size := (Array.getElem?_eq_some_iff.1 hbx).1))
  refine ret_mix (x := ⟨0, 0, []⟩) rfl rfl rfl rfl (set3 hbx rfl ⟨0, 0, []⟩) ⟨rfl, ?_⟩
  exact below3 (((Below.refl _ w).alloc (Nat.le_refl _) _).trans (hb2.mono (by simp)))

set_option maxHeartbeats 1000000 in
set_option maxRecDepth 100000 in
theorem rb_one (bk off c : Nat) (xn : Int) (w : World) (l0 : bk < w.heap.size) (_c01 : w.cell? ⟨bk, off + 1, none⟩ = some (.int .i64 xn))  : Calls Try.prog 34 #[.string ⟨#[111, 110, 101]⟩, .slice (some ⟨bk, off, none⟩) 1 c] w (Both ⟨2, 0, [UInt8.ofNat (xn % 256).toNat]⟩ 0 w) := by
  go_enter Try.func34, Try.ntmps34
  go_wp2
  rw [conv1at _ (w.heap.size + 1) (by simp)]
  simp only [Result.andThen]
  rw [Oper.upon_value]
  go_wp2
  exact ret_mix (x := ⟨2, 0, [UInt8.ofNat (xn % 256).toNat]⟩) rfl rfl rfl rfl ((val_new w ⟨2, 0, [UInt8.ofNat (xn % 256).toNat]⟩).keep (keep_alloc _ _)) ⟨rfl, ((Below.refl _ w).alloc (Nat.le_refl _) _).alloc (by simp) _⟩

set_option maxHeartbeats 1000000 in
set_option maxRecDepth 100000 in
theorem rb_at (bk off c : Nat) (xb : List UInt8) (w : World) (_hxb : xb.length ≤ 256) (l0 : bk < w.heap.size) (_c02 : w.cell? ⟨bk, off + 2, none⟩ = some (.string ⟨xb.toArray⟩)) (p : Nat) (c11 : w.cell? ⟨bk, off + 3 + 1, none⟩ = some (.int .i64 p)) (g : p < xb.length) : Calls Try.prog 34 #[.string ⟨#[97, 116]⟩, .slice (some ⟨bk, off, none⟩) 2 c] w (Both ⟨1, ((xb.getD p 0).toNat : Int), []⟩ 0 w) := by
  go_enter Try.func34, Try.ntmps34
  have d1 : decide ((p : Int) < 0) = false := by simp
  have d2 : decide ((xb.length : Int) ≤ (p : Int)) = false := by simp; omega
  have HG := hidV (getD_at xb p g)
  go_wp2
  go_quiet (fail)
  go_wp2
  first
    | go_region_with (fail)
    | skip
  all_goals go_wp2
  all_goals have hE : ∀ h, IntKind.i64.wrap ((((⟨xb.toArray⟩ : ByteArray)[p]'h).toNat : Nat) : Int) = ((xb.getD p 0).toNat : Int) := fun h => by rw [HG.out, IntKind.wrap_i64]; have := (xb.getD p 0).toNat_lt; omega
  all_goals simp only [hE]
  all_goals exact ret_mix (x := ⟨1, ((xb.getD p 0).toNat : Int), []⟩) rfl rfl rfl rfl (set3 (W := (w.alloc (Val.box ⟨0, 0, []⟩)).drewN (nq + 1)) (heap_alloc_new w _) rfl ⟨1, ((xb.getD p 0).toNat : Int), []⟩) ⟨rfl, below3 (below_draws ((Below.refl _ w).alloc (Nat.le_refl _) _) (nq + 1))⟩

set_option maxHeartbeats 1000000 in
set_option maxRecDepth 100000 in
theorem rb_cut (bk off c : Nat) (xb : List UInt8) (w : World) (_hxb : xb.length ≤ 256) (l0 : bk < w.heap.size) (_c02 : w.cell? ⟨bk, off + 2, none⟩ = some (.string ⟨xb.toArray⟩)) (p q : Nat) (c11 : w.cell? ⟨bk, off + 3 + 1, none⟩ = some (.int .i64 p)) (c21 : w.cell? ⟨bk, off + 6 + 1, none⟩ = some (.int .i64 q)) (g : p ≤ q) (g2 : q ≤ xb.length) : Calls Try.prog 34 #[.string ⟨#[99, 117, 116]⟩, .slice (some ⟨bk, off, none⟩) 3 c] w (Both ⟨2, 0, (xb.take q).drop p⟩ 0 w) := by
  go_enter Try.func34, Try.ntmps34
  have d1 : decide ((p : Int) < 0) = false := by simp
  have d2 : decide ((q : Int) < (p : Int)) = false := by simp; omega
  have d3 : decide ((xb.length : Int) < (q : Int)) = false := by simp; omega
  go_wp2
  go_quiet (fail)
  go_wp2
  first
    | go_region_with (fail)
    | skip
  all_goals go_wp2
  all_goals simp only [cut_mid]
  all_goals exact ret_mix (x := ⟨2, 0, (xb.take q).drop p⟩) rfl rfl rfl rfl (set3 (W := (w.alloc (Val.box ⟨0, 0, []⟩)).drewN (nq + 1)) (heap_alloc_new w _) rfl ⟨2, 0, (xb.take q).drop p⟩) ⟨rfl, below3 (below_draws ((Below.refl _ w).alloc (Nat.le_refl _) _) (nq + 1))⟩

end Go.Proofs.Ytkmfopdklohgnaa
