/- Layer 18: a part, and votes, that are new. -/
import Derived.Test.YtaonchdpnllhpaaV8b
namespace Go.Proofs.Ytaonchdpnllhpaa
open Go.RowKit
theorem make18b (n : Nat) (hn : n ≤ 7) : ∀ V : World, (Instr.makeSlice 22 (.int .i64 (n : Int)) (.int .i64 (n : Int))).run Try.prog V = .ok (.slice (some ⟨V.heap.size, 0, none⟩) n n) (V.alloc (.cells (madeCells #[.bool false] n) 4)) := by
  intro V
  obtain ⟨i0, hi, hz0, hz1, hz2⟩ := info_parts (show (Try.prog.info? 4).map (fun i => (i.zero, i.size, i.bytes)) = some (some (.bool false), 1, 1) by kernel_rfl)
  have hr := run_make (P := Try.prog) V 22 4 i0 (.bool false) Try.underlying22 hi hz0 .i64 .i64 (n : Int) (n : Int) (by omega) (by omega) (by rw [hz2]; omega) (by omega)
  simpa only [Int.toNat_natCast, hz1, Nat.mul_one, Value.cells] using hr
theorem make18i (n : Nat) (hn : n ≤ 7) : ∀ V : World, (Instr.makeSlice 59 (.int .i64 (n : Int)) (.int .i64 (n : Int))).run Try.prog V = .ok (.slice (some ⟨V.heap.size, 0, none⟩) n n) (V.alloc (.cells (madeCells #[.int .i64 0] n) 3)) := by
  intro V
  obtain ⟨i0, hi, hz0, hz1, hz2⟩ := info_parts (show (Try.prog.info? 3).map (fun i => (i.zero, i.size, i.bytes)) = some (some (.int .i64 0), 1, 8) by kernel_rfl)
  have hr := run_make (P := Try.prog) V 59 3 i0 (.int .i64 0) Try.underlying59 hi hz0 .i64 .i64 (n : Int) (n : Int) (by omega) (by omega) (by rw [hz2]; omega) (by omega)
  simpa only [Int.toNat_natCast, hz1, Nat.mul_one, Value.cells] using hr
theorem make18m (n : Nat) (hn : n ≤ 7) : ∀ V : World, (Instr.makeSlice 33 (.int .i64 (n : Int)) (.int .i64 (n : Int))).run Try.prog V = .ok (.slice (some ⟨V.heap.size, 0, none⟩) n n) (V.alloc (.cells (madeCells #[.int .i64 0, .int .i64 0, .int .i64 0, .int .i64 0, .int .i64 0, .int .i64 0, .int .i64 0, .slice none 0 0] (n * 8)) 41)) := by
  intro V
  obtain ⟨i0, hi, hz0, hz1, hz2⟩ := info_parts (show (Try.prog.info? 41).map (fun i => (i.zero, i.size, i.bytes)) = some (some (.agg #[.int .i64 0, .int .i64 0, .int .i64 0, .int .i64 0, .int .i64 0, .int .i64 0, .int .i64 0, .slice none 0 0]), 8, 80) by kernel_rfl)
  have hr := run_make (P := Try.prog) V 33 41 i0 _ Try.underlying33 hi hz0 .i64 .i64 (n : Int) (n : Int) (by omega) (by omega) (by rw [hz2]; omega) (by omega)
  simpa only [Int.toNat_natCast, hz1, Value.cells] using hr
theorem ret_box1 {P : Program} {fn : Func} {R : Ending → World → Prop} {a : Act} {t : Tmp} {T : TypeId} {W : World} {b : Nat} {v : Value} (h : fn.results = #[.cell t T]) (ha : a.tmps[t]?.getD undef = .pointer (some ⟨b, 0, none⟩)) (hd : a.defers = []) (hl : (loadVar T ⟨b, 0, none⟩).run P W = .ok v W) (hR : R (.returned v) W) : bodyPost P fn R .ret a W :=
  bodyPost_ret (by simp [results, h, ha, asAddr, hl]) hd hR
theorem load_votes18 {w : World} {b : Nat} {x0 x1 x2 : Value} (h : w.heap[b]? = some (.cells #[x0, x1, x2] 70 (0, 0))) : (loadVar 70 ⟨b, 0, none⟩).run Try.prog w = .ok (.agg #[x0, x1, x2]) w := by
  simp [loadVar, go_sem, Lib.cell_of_heap h]
theorem four18 (w : World) (cs : Array Value) (e : TypeId) (o1 o2 o3 : Obj) : ((((w.alloc (.cells cs e)).alloc o1).alloc o2).alloc o3).drew.drew.heap[w.heap.size]? = some (.cells cs e (0, 0)) := by
  refine ((Below.heap_alloc _ _ _ ?_).trans ((Below.heap_alloc _ _ _ ?_).trans ((Below.heap_alloc _ _ _ ?_).trans (heap_alloc_new w _)))) <;> simp <;> omega
set_option maxRecDepth 100000 in
set_option maxHeartbeats 40000000 in
theorem newVotes_any18 {pb : Nat} {x : Pt} {lv sv dv mv : Value} (hn : x.n ≤ 7) (hi : x.id < x.n) (w : World) (h : PtAt pb x lv sv dv mv w) : Calls Try.prog 30 #[.pointer (some ⟨pb, 0, none⟩)] w fun e w' => ∃ sa sc da dc, e = .returned (.agg #[.slice sa x.n sc, .slice da x.n dc, .bool false]) ∧ Below w.heap.size w w' := by
  have hmb := make18b x.n hn
  have hmm := make18m x.n hn
  obtain ⟨M, hM⟩ : ∃ M, M = madeCells #[Value.int .i64 0, .int .i64 0, .int .i64 0, .int .i64 0, .int .i64 0, .int .i64 0, .int .i64 0, .slice none 0 0] (x.n * 8) := ⟨_, rfl⟩
  obtain ⟨B, hB⟩ : ∃ B, B = madeCells #[Value.bool false] x.n := ⟨_, rfl⟩
  rw [← hM] at hmm
  rw [← hB] at hmb
  have hB0 : B[x.id]? = some (.bool false) := by rw [hB]; simp [madeCells, hi, Nat.mod_one]
  have hB1 : x.id < B.size := by rw [hB]; simp [madeCells, hi]
  clear hM hB
  obtain ⟨⟨-, -, -, -, -, -, -⟩, ⟨c7, c8, -⟩, hl, -⟩ := h.rd
  have d2 : ∀ o1 o2, ((w.alloc o1).alloc o2).cell? ⟨pb, 8, none⟩ = some (.int .i64 x.n) := fun o1 o2 => (h.below ((((Below.refl _ w).alloc (Nat.le_refl _) o1)).alloc (by simp) o2)).rd.2.1.2.1
  have d3 : ∀ o1 o2 o3, (((w.alloc o1).alloc o2).alloc o3).cell? ⟨pb, 8, none⟩ = some (.int .i64 x.n) := fun o1 o2 o3 => (h.below ((((Below.refl _ w).alloc (Nat.le_refl _) o1).alloc (by simp) o2).alloc (by simp; omega) o3)).rd.2.1.2.1
  have d4 : ∀ o1 o2 o3 o4, ((((w.alloc o1).alloc o2).alloc o3).alloc o4).cell? ⟨pb, 8, none⟩ = some (.int .i64 x.n) := fun o1 o2 o3 o4 => (h.below (((((Below.refl _ w).alloc (Nat.le_refl _) o1).alloc (by simp) o2).alloc (by simp; omega) o3).alloc (by simp; omega) o4)).rd.2.1.2.1
  have d5 : ∀ o1 o2 o3 o4, ((((w.alloc o1).alloc o2).alloc o3).alloc o4).cell? ⟨pb, 7, none⟩ = some (.int .i64 x.id) := fun o1 o2 o3 o4 => (h.below (((((Below.refl _ w).alloc (Nat.le_refl _) o1).alloc (by simp) o2).alloc (by simp; omega) o3).alloc (by simp; omega) o4)).rd.2.1.1
  clear h
  go_enter Try.func30, Try.ntmps30
  go_wp2_with fail
  go_region_law fail
  all_goals
    go_wp2_with fail
    go_region_law fail
    all_goals
      go_wp2_with fail
      exact ret_box1 rfl rfl rfl (load_votes18 (four18 _ _ _ _ _ _)) ⟨_, _, _, _, rfl, (((((Below.refl _ w).alloc (Nat.le_refl _) _).alloc (by simp) _).alloc (by simp; omega) _).alloc (by simp; omega) _).drew.drew⟩
end Go.Proofs.Ytaonchdpnllhpaa
