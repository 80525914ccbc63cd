/- layer 3's helper 'one'; a struct's parts. -/
import Derived.Test.YtbhibhlabogohaaOK
namespace Go.Proofs.Ytbhibhlabogohaa
open Go.RowKit
attribute [local go_sem high] eq_val eq_val0
theorem vs_one' (w : World) (x : Val) (B : Nat) (hB : w.heap.size = B) : Vs (w.alloc (.cells #[.int .i64 x.t, .int .i64 x.n, .string ⟨x.b.toArray⟩] 45)) (some ⟨B, 0, none⟩) [x] := by
  subst hB
  exact vs_one w x
set_option maxHeartbeats 1000000 in
theorem one_any (b off c : Nat) (x : Val) (w : World) (h0 : w.cell? ⟨b, off, none⟩ = some (.int .i64 x.t)) (h1 : w.cell? ⟨b, off + 1, none⟩ = some (.int .i64 x.n)) (h2 : w.cell? ⟨b, off + 2, none⟩ = some (.string ⟨x.b.toArray⟩)) :
    Calls Try.prog 33 #[.slice (some ⟨b, off, none⟩) 1 c] w fun e w' => e = .returned x.v ∧ Below w.heap.size w w' := by
  obtain ⟨xt, xn, xb⟩ := x
  simp only at h0 h1 h2
  have hb := World.block_lt_of_cell? _ _ h0
  go_enter Try.func33, Try.ntmps33
  go_wp2
  exact ret_val w ⟨xt, xn, xb⟩ rfl rfl rfl ⟨rfl, (Below.refl _ w).alloc (Nat.le_refl _) _⟩
theorem field_n (x y z : Value) (w : World) : (Instr.field 45 (.agg #[x, y, z]) 1).run Try.prog w = .ok y w := by
  simp [Instr.field, asAgg, go_sem]
theorem field_b (x y z : Value) (w : World) : (Instr.field 45 (.agg #[x, y, z]) 2).run Try.prog w = .ok z w := by
  simp [Instr.field, asAgg, go_sem]
theorem Vs.drew {w : World} {a : Option Addr} {L : List Val} (h : Vs w a L) : Vs w.drew a L := h
theorem after1 {w1 w2 : World} {o1 : Obj} (hb : Below (w1.alloc o1).heap.size (w1.alloc o1) w2) : Below w1.heap.size w1 w2 :=
  ((Below.refl _ w1).alloc (Nat.le_refl _) _).trans (hb.mono (by simp))
theorem after2 {w1 w2 : World} {o1 o2 : Obj} (hb : Below ((w1.alloc o1).alloc o2).heap.size ((w1.alloc o1).alloc o2) w2) : Below w1.heap.size w1 w2 :=
  (((Below.refl _ w1).alloc (Nat.le_refl _) _).alloc (by simp) _).trans (hb.mono (by simp; omega))
theorem after3 {w1 w2 : World} {o1 o2 o3 : Obj} (hb : Below (((w1.alloc o1).alloc o2).alloc o3).heap.size (((w1.alloc o1).alloc o2).alloc o3) w2) : Below w1.heap.size w1 w2 :=
  ((((Below.refl _ w1).alloc (Nat.le_refl _) _).alloc (by simp) _).alloc (by simp; omega) _).trans (hb.mono (by simp; omega))
theorem after1d {w1 w2 : World} {o1 : Obj} (hb : Below (w1.alloc o1).drew.heap.size (w1.alloc o1).drew w2) : Below w1.heap.size w1 w2 :=
  ((Below.refl _ w1).alloc (Nat.le_refl _) _).drew.trans (hb.mono (by simp))
theorem after2d {w1 w2 : World} {o1 o2 : Obj} (hb : Below ((w1.alloc o1).alloc o2).drew.heap.size ((w1.alloc o1).alloc o2).drew w2) : Below w1.heap.size w1 w2 :=
  (((Below.refl _ w1).alloc (Nat.le_refl _) _).alloc (by simp) _).drew.trans (hb.mono (by simp; omega))
theorem after3d {w1 w2 : World} {o1 o2 o3 : Obj} (hb : Below (((w1.alloc o1).alloc o2).alloc o3).drew.heap.size (((w1.alloc o1).alloc o2).alloc o3).drew w2) : Below w1.heap.size w1 w2 :=
  ((((Below.refl _ w1).alloc (Nat.le_refl _) _).alloc (by simp) _).alloc (by simp; omega) _).drew.trans (hb.mono (by simp; omega))
end Go.Proofs.Ytbhibhlabogohaa
