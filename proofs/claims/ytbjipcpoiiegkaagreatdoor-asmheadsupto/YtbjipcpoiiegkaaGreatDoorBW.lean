/- How a function that came in is read, where its bulk is bounded. -/
import Derived.Test.YtbjipcpoiiegkaaGreatDoorCO
namespace Go.Proofs.YtbjipcpoiiegkaaGreatDoor
set_option maxRecDepth 100000
open Go.ChangeShapes Go.WideShapes Go.ChangeAt Go.RowKit
theorem open_fn5 {H : Type} {enc : TypeId × Value → H} {w : World} {base : Nat} {v : Value} {d0 : DataW H} {p0 : List MemPlace} (hval : Value.okWide Tryz.prog w .any base 32 v) (h : DataW.Trod enc Tryz.prog w 0 (fun _ => true) true 32 v d0 p0)
    {ts : List TypeId} {ds : List (DataW H)} (hsz : (DataW.weightsEach Tryz.prog ts ds).all (· ≤ reachBytes) = true) {j : Nat} (ht : ts[j]? = some 32) (hd : ds[j]? = some d0) (hb : Rows.uptoBulkAll ds ≤ 1048576) :
    ∃ (f : Fn) (v0 v1 v2 v3 : Value), v = .agg #[v0, v1, v2, v3] ∧ FnIs w.cell? f v0 v1 v2 v3 ∧ f.p.length ≤ 1048576 ∧ f.r.length ≤ 1048576 ∧ f.l.length ≤ 1048576 := by
  have hbk : Rows.uptoBulk d0 ≤ 1048576 := Nat.le_trans (bulks.within (List.mem_of_getElem? hd)) hb
  have hS : Sz 1048576 Tryz.prog 32 d0 := ⟨fun k hk => by simpa using List.all_eq_true.1 hsz k (weightsEach_mem ht hd hk), hbk⟩
  have ci : Tryz.prog.cellsOf 29 = 1 := by kernel_rfl
  have cx : Tryz.prog.cellsOf 30 = 1 := by kernel_rfl
  obtain ⟨cs, rfl, hl⟩ := okWide_struct Tryz.underlying32 hval
  obtain ⟨fuel, hf⟩ := h
  have hl' : cs.size = 4 := hl.trans (by kernel_rfl)
  obtain ⟨l⟩ := cs
  have hll : l.length = 4 := by simpa using hl'
  obtain ⟨y0, y1, y2, y3, m, hy, _, h0, h1, h2, h3⟩ := Go.Joins.trod_struct4 Tryz.underlying32 hf
  match l, hll with
  | [c0, c1, c2, c3], _ =>
    obtain ⟨rfl, rfl⟩ := Prod.mk.inj hy
    simp [Value.cells, ci, cx] at h0 h1 h2 h3
    obtain ⟨p, e0, _, m0⟩ := open_ns h0 (hS.part Tryz.underlying32 0 rfl rfl)
    obtain ⟨r, e1, _, m1⟩ := open_ns h1 (hS.part Tryz.underlying32 1 rfl rfl)
    obtain ⟨q, e2, _, m2⟩ := open_ns h2 (hS.part Tryz.underlying32 2 rfl rfl)
    obtain ⟨c, e3, _, _⟩ := open_is h3 (hS.part Tryz.underlying32 3 rfl rfl)
    exact ⟨⟨p, r, q, c⟩, c0, c1, c2, c3, rfl, ⟨e0, e1, e2, e3⟩, m0, m1, m2⟩
end Go.Proofs.YtbjipcpoiiegkaaGreatDoor
