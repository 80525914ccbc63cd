/- The document's bytesOp. -/
import Derived.Test.YtkmfopdklohgnaaPC
namespace Go.Proofs.Ytkmfopdklohgnaa
open Go.RowKit
attribute [local go_sem high] eq_val eq_val0
theorem rtruth_any (c : Bool) (w : World) : Calls Try.prog 31 #[.bool c] w fun e w' => e = .returned (Val.v (Val.truth c)) ∧ w' = w.alloc (Val.box (Val.truth c)) := by
  cases c
  all_goals
    go_enter Try.func31, Try.ntmps31
    go_wp2
    first
      | exact ret_val w (Val.truth false) rfl rfl rfl ⟨rfl, rfl⟩
      | exact ret_val w (Val.truth true) rfl rfl rfl ⟨rfl, rfl⟩
/-- A value and an error number are answered, and nothing old has turned. -/
def Both (v : Val) (er : Int) (w : World) (e : Ending) (w' : World) : Prop := e = .returned (.tuple #[v.v, .int .i64 er]) ∧ Below w.heap.size w w'
theorem below_like {w W : World} {o : Obj} (h1 : W.os = w.os) (h2 : W.tape = w.tape) (h3 : W.output = w.output) (h : W.heap = (w.alloc o).heap) : Below w.heap.size w W :=
  have b := (Below.refl w.heap.size w).alloc (Nat.le_refl _) o
  ⟨h1, h2, h3, by rw [h]; exact b.size, fun k hk => by rw [h]; exact b.block k hk⟩
theorem box_new0 (w : World) {w3 : World} (hb : Below (w.alloc (Val.box ⟨0, 0, []⟩)).heap.size (w.alloc (Val.box ⟨0, 0, []⟩)) w3) : w3.heap[w.heap.size]? = some (.cells #[.int .i64 0, .int .i64 0, .string ⟨#[]⟩] 39 (0, 0)) := by
  rw [hb.block _ (by simp)]
  exact heap_alloc_new w _
set_option maxHeartbeats 1000000 in
set_option maxRecDepth 100000 in
theorem rb_len (bk off c : Nat) (xb : List UInt8) (w : World) (_hxb : xb.length ≤ 256) (l0 : bk < w.heap.size) (_c02 : w.cell? ⟨bk, off + 2, none⟩ = some (.string ⟨xb.toArray⟩))  : Calls Try.prog 34 #[.string ⟨#[108, 101, 110]⟩, .slice (some ⟨bk, off, none⟩) 1 c] w (Both ⟨1, xb.length, []⟩ 0 w) := by
  go_enter Try.func34, Try.ntmps34
  go_wp2
  all_goals refine ret_mix (x := ⟨1, (xb.length : Int), []⟩) rfl rfl rfl rfl (val_new w ⟨1, (xb.length : Int), []⟩) ⟨rfl, below_like (o := Val.box ⟨1, (xb.length : Int), []⟩) rfl rfl rfl rfl⟩

set_option maxHeartbeats 1000000 in
set_option maxRecDepth 100000 in
theorem rb_long (bk off c : Nat) (xb yb : List UInt8) (w : World) (_hxb : xb.length ≤ 256) (_hyb : yb.length ≤ 256) (l0 : bk < w.heap.size) (_c02 : w.cell? ⟨bk, off + 2, none⟩ = some (.string ⟨xb.toArray⟩)) (_c12 : w.cell? ⟨bk, off + 3 + 2, none⟩ = some (.string ⟨yb.toArray⟩)) (g : 256 < (xb.length : Int) + yb.length) : Calls Try.prog 34 #[.string ⟨#[106, 111, 105, 110]⟩, .slice (some ⟨bk, off, none⟩) 2 c] w (Both ⟨0, 0, []⟩ 41 w) := by
  go_enter Try.func34, Try.ntmps34
  go_wp2
  go_quiet (fail)
  go_wp2
  all_goals first
    | exact ret_mix (x := ⟨0, 0, []⟩) rfl rfl rfl rfl (set3 (W := (w.alloc (Val.box ⟨0, 0, []⟩)).drewN nq) (heap_alloc_new w _) rfl ⟨0, 0, []⟩) ⟨rfl, below3 (below_draws ((Below.refl _ w).alloc (Nat.le_refl _) _) nq)⟩
    | exact ret_mix (x := ⟨0, 0, []⟩) rfl rfl rfl rfl (set3 (W := (w.alloc (Val.box ⟨0, 0, []⟩)).drewN nq) (heap_alloc_new w _) rfl ⟨0, 0, []⟩) ⟨rfl, (below3 (below_draws ((Below.refl _ w).alloc (Nat.le_refl _) _) nq)).drew⟩
    | exact ret_mix (x := ⟨0, 0, []⟩) rfl rfl rfl rfl (val_new w ⟨0, 0, []⟩) ⟨rfl, below_like (o := Val.box ⟨0, 0, []⟩) rfl rfl rfl rfl⟩

set_option maxHeartbeats 1000000 in
set_option maxRecDepth 100000 in
theorem rb_join (bk off c : Nat) (xb yb : List UInt8) (w : World) (_hxb : xb.length ≤ 256) (_hyb : yb.length ≤ 256) (l0 : bk < w.heap.size) (_c02 : w.cell? ⟨bk, off + 2, none⟩ = some (.string ⟨xb.toArray⟩)) (_c12 : w.cell? ⟨bk, off + 3 + 2, none⟩ = some (.string ⟨yb.toArray⟩)) (g : (xb.length : Int) + yb.length ≤ 256) : Calls Try.prog 34 #[.string ⟨#[106, 111, 105, 110]⟩, .slice (some ⟨bk, off, none⟩) 2 c] w (Both ⟨2, 0, xb ++ yb⟩ 0 w) := by
  go_enter Try.func34, Try.ntmps34
  go_wp2
  go_quiet (fail)
  go_wp2
  go_region_with (fail)
  all_goals go_wp2
  all_goals simp only [join_two]
  all_goals first
    | exact ret_mix (x := ⟨2, 0, xb ++ yb⟩) rfl rfl rfl rfl (set3 (W := (w.alloc (Val.box ⟨0, 0, []⟩)).drewN nq) (heap_alloc_new w _) rfl ⟨2, 0, xb ++ yb⟩) ⟨rfl, below3 (below_draws ((Below.refl _ w).alloc (Nat.le_refl _) _) nq)⟩
    | exact ret_mix (x := ⟨2, 0, xb ++ yb⟩) rfl rfl rfl rfl (set3 (W := (w.alloc (Val.box ⟨0, 0, []⟩)).drewN nq) (heap_alloc_new w _) rfl ⟨2, 0, xb ++ yb⟩) ⟨rfl, (below3 (below_draws ((Below.refl _ w).alloc (Nat.le_refl _) _) nq)).drew⟩
    | exact ret_mix (x := ⟨2, 0, xb ++ yb⟩) rfl rfl rfl rfl (val_new w ⟨2, 0, xb ++ yb⟩) ⟨rfl, below_like (o := Val.box ⟨2, 0, xb ++ yb⟩) rfl rfl rfl rfl⟩

set_option maxHeartbeats 1000000 in
set_option maxRecDepth 100000 in
theorem rb_nocut1 (bk off c : Nat) (yn zn : Int) (xb : List UInt8) (w : World) (_hxb : xb.length ≤ 256) (l0 : bk < w.heap.size) (_c02 : w.cell? ⟨bk, off + 2, none⟩ = some (.string ⟨xb.toArray⟩)) (_c11 : w.cell? ⟨bk, off + 3 + 1, none⟩ = some (.int .i64 yn)) (_c21 : w.cell? ⟨bk, off + 6 + 1, none⟩ = some (.int .i64 zn)) (g : yn < 0) : Calls Try.prog 34 #[.string ⟨#[99, 117, 116]⟩, .slice (some ⟨bk, off, none⟩) 3 c] w (Both ⟨0, 0, []⟩ 42 w) := by
  go_enter Try.func34, Try.ntmps34
  have d1 : decide (yn < 0) = true := by simpa using g
  go_wp2
  go_quiet (fail)
  all_goals go_wp2
  all_goals first
    | exact ret_mix (x := ⟨0, 0, []⟩) rfl rfl rfl rfl (set3 (W := (w.alloc (Val.box ⟨0, 0, []⟩)).drewN nq) (heap_alloc_new w _) rfl ⟨0, 0, []⟩) ⟨rfl, below3 (below_draws ((Below.refl _ w).alloc (Nat.le_refl _) _) nq)⟩
    | exact ret_mix (x := ⟨0, 0, []⟩) rfl rfl rfl rfl (set3 (W := (w.alloc (Val.box ⟨0, 0, []⟩)).drewN nq) (heap_alloc_new w _) rfl ⟨0, 0, []⟩) ⟨rfl, (below3 (below_draws ((Below.refl _ w).alloc (Nat.le_refl _) _) nq)).drew⟩
    | exact ret_mix (x := ⟨0, 0, []⟩) rfl rfl rfl rfl (val_new w ⟨0, 0, []⟩) ⟨rfl, below_like (o := Val.box ⟨0, 0, []⟩) rfl rfl rfl rfl⟩

set_option maxHeartbeats 1000000 in
set_option maxRecDepth 100000 in
theorem rb_nocut2 (bk off c : Nat) (yn zn : Int) (xb : List UInt8) (w : World) (_hxb : xb.length ≤ 256) (l0 : bk < w.heap.size) (_c02 : w.cell? ⟨bk, off + 2, none⟩ = some (.string ⟨xb.toArray⟩)) (_c11 : w.cell? ⟨bk, off + 3 + 1, none⟩ = some (.int .i64 yn)) (_c21 : w.cell? ⟨bk, off + 6 + 1, none⟩ = some (.int .i64 zn)) (g : 0 ≤ yn) (g2 : zn < yn) : Calls Try.prog 34 #[.string ⟨#[99, 117, 116]⟩, .slice (some ⟨bk, off, none⟩) 3 c] w (Both ⟨0, 0, []⟩ 42 w) := by
  go_enter Try.func34, Try.ntmps34
  have d1 : decide (yn < 0) = false := by simpa using g
  have d2 : decide (zn < yn) = true := by simpa using g2
  go_wp2
  go_quiet (fail)
  all_goals go_wp2
  all_goals first
    | exact ret_mix (x := ⟨0, 0, []⟩) rfl rfl rfl rfl (set3 (W := (w.alloc (Val.box ⟨0, 0, []⟩)).drewN nq) (heap_alloc_new w _) rfl ⟨0, 0, []⟩) ⟨rfl, below3 (below_draws ((Below.refl _ w).alloc (Nat.le_refl _) _) nq)⟩
    | exact ret_mix (x := ⟨0, 0, []⟩) rfl rfl rfl rfl (set3 (W := (w.alloc (Val.box ⟨0, 0, []⟩)).drewN nq) (heap_alloc_new w _) rfl ⟨0, 0, []⟩) ⟨rfl, (below3 (below_draws ((Below.refl _ w).alloc (Nat.le_refl _) _) nq)).drew⟩
    | exact ret_mix (x := ⟨0, 0, []⟩) rfl rfl rfl rfl (val_new w ⟨0, 0, []⟩) ⟨rfl, below_like (o := Val.box ⟨0, 0, []⟩) rfl rfl rfl rfl⟩

set_option maxHeartbeats 1000000 in
set_option maxRecDepth 100000 in
theorem rb_nocut3 (bk off c : Nat) (yn zn : Int) (xb : List UInt8) (w : World) (_hxb : xb.length ≤ 256) (l0 : bk < w.heap.size) (_c02 : w.cell? ⟨bk, off + 2, none⟩ = some (.string ⟨xb.toArray⟩)) (_c11 : w.cell? ⟨bk, off + 3 + 1, none⟩ = some (.int .i64 yn)) (_c21 : w.cell? ⟨bk, off + 6 + 1, none⟩ = some (.int .i64 zn)) (g : 0 ≤ yn) (g2 : yn ≤ zn) (g3 : (xb.length : Int) < zn) : Calls Try.prog 34 #[.string ⟨#[99, 117, 116]⟩, .slice (some ⟨bk, off, none⟩) 3 c] w (Both ⟨0, 0, []⟩ 42 w) := by
  go_enter Try.func34, Try.ntmps34
  have d1 : decide (yn < 0) = false := by simpa using g
  have d2 : decide (zn < yn) = false := by simpa using g2
  have d3 : decide ((xb.length : Int) < zn) = true := by simpa using g3
  go_wp2
  go_quiet (fail)
  all_goals go_wp2
  all_goals first
    | exact ret_mix (x := ⟨0, 0, []⟩) rfl rfl rfl rfl (set3 (W := (w.alloc (Val.box ⟨0, 0, []⟩)).drewN nq) (heap_alloc_new w _) rfl ⟨0, 0, []⟩) ⟨rfl, below3 (below_draws ((Below.refl _ w).alloc (Nat.le_refl _) _) nq)⟩
    | exact ret_mix (x := ⟨0, 0, []⟩) rfl rfl rfl rfl (set3 (W := (w.alloc (Val.box ⟨0, 0, []⟩)).drewN nq) (heap_alloc_new w _) rfl ⟨0, 0, []⟩) ⟨rfl, (below3 (below_draws ((Below.refl _ w).alloc (Nat.le_refl _) _) nq)).drew⟩
    | exact ret_mix (x := ⟨0, 0, []⟩) rfl rfl rfl rfl (val_new w ⟨0, 0, []⟩) ⟨rfl, below_like (o := Val.box ⟨0, 0, []⟩) rfl rfl rfl rfl⟩

set_option maxHeartbeats 1000000 in
set_option maxRecDepth 100000 in
theorem rb_noat1 (bk off c : Nat) (yn : Int) (xb : List UInt8) (w : World) (_hxb : xb.length ≤ 256) (l0 : bk < w.heap.size) (_c02 : w.cell? ⟨bk, off + 2, none⟩ = some (.string ⟨xb.toArray⟩)) (_c11 : w.cell? ⟨bk, off + 3 + 1, none⟩ = some (.int .i64 yn)) (g : yn < 0) : Calls Try.prog 34 #[.string ⟨#[97, 116]⟩, .slice (some ⟨bk, off, none⟩) 2 c] w (Both ⟨0, 0, []⟩ 42 w) := by
  go_enter Try.func34, Try.ntmps34
  have d1 : decide (yn < 0) = true := by simpa using g
  go_wp2
  go_quiet (fail)
  all_goals go_wp2
  all_goals first
    | exact ret_mix (x := ⟨0, 0, []⟩) rfl rfl rfl rfl (set3 (W := (w.alloc (Val.box ⟨0, 0, []⟩)).drewN nq) (heap_alloc_new w _) rfl ⟨0, 0, []⟩) ⟨rfl, below3 (below_draws ((Below.refl _ w).alloc (Nat.le_refl _) _) nq)⟩
    | exact ret_mix (x := ⟨0, 0, []⟩) rfl rfl rfl rfl (set3 (W := (w.alloc (Val.box ⟨0, 0, []⟩)).drewN nq) (heap_alloc_new w _) rfl ⟨0, 0, []⟩) ⟨rfl, (below3 (below_draws ((Below.refl _ w).alloc (Nat.le_refl _) _) nq)).drew⟩
    | exact ret_mix (x := ⟨0, 0, []⟩) rfl rfl rfl rfl (val_new w ⟨0, 0, []⟩) ⟨rfl, below_like (o := Val.box ⟨0, 0, []⟩) rfl rfl rfl rfl⟩

set_option maxHeartbeats 1000000 in
set_option maxRecDepth 100000 in
theorem rb_noat2 (bk off c : Nat) (yn : Int) (xb : List UInt8) (w : World) (_hxb : xb.length ≤ 256) (l0 : bk < w.heap.size) (_c02 : w.cell? ⟨bk, off + 2, none⟩ = some (.string ⟨xb.toArray⟩)) (_c11 : w.cell? ⟨bk, off + 3 + 1, none⟩ = some (.int .i64 yn)) (g : 0 ≤ yn) (g2 : (xb.length : Int) ≤ yn) : Calls Try.prog 34 #[.string ⟨#[97, 116]⟩, .slice (some ⟨bk, off, none⟩) 2 c] w (Both ⟨0, 0, []⟩ 42 w) := by
  go_enter Try.func34, Try.ntmps34
  have d1 : decide (yn < 0) = false := by simpa using g
  have d2 : decide ((xb.length : Int) ≤ yn) = true := by simpa using g2
  go_wp2
  go_quiet (fail)
  all_goals go_wp2
  all_goals first
    | exact ret_mix (x := ⟨0, 0, []⟩) rfl rfl rfl rfl (set3 (W := (w.alloc (Val.box ⟨0, 0, []⟩)).drewN nq) (heap_alloc_new w _) rfl ⟨0, 0, []⟩) ⟨rfl, below3 (below_draws ((Below.refl _ w).alloc (Nat.le_refl _) _) nq)⟩
    | exact ret_mix (x := ⟨0, 0, []⟩) rfl rfl rfl rfl (set3 (W := (w.alloc (Val.box ⟨0, 0, []⟩)).drewN nq) (heap_alloc_new w _) rfl ⟨0, 0, []⟩) ⟨rfl, (below3 (below_draws ((Below.refl _ w).alloc (Nat.le_refl _) _) nq)).drew⟩
    | exact ret_mix (x := ⟨0, 0, []⟩) rfl rfl rfl rfl (val_new w ⟨0, 0, []⟩) ⟨rfl, below_like (o := Val.box ⟨0, 0, []⟩) rfl rfl rfl rfl⟩

end Go.Proofs.Ytkmfopdklohgnaa
