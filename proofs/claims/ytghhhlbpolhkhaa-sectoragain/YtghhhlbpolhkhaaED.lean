/- Layer 15: filled. -/
import Derived.Test.YtghhhlbpolhkhaaEC
import Derived.Lib.BufferWrite
namespace Go.Proofs.Ytghhhlbpolhkhaa
open Go.RowKit
theorem run_str {w : World} {ao : Option Addr} {bs : List UInt8} (h : Bs w ao bs) (cap : Nat) : (convert 77 9 (.slice ao bs.length cap)).run Try.prog w = .ok (.string ⟨bs.toArray⟩) w := by
  have nums : ∀ l : List UInt8, strOfNums (l.map fun b => (b.toNat : Int)) = ⟨l.toArray⟩ := fun l => by
    unfold strOfNums
    rw [List.map_map]
    congr 2
    conv => rhs; rw [← List.map_id l]
    apply List.map_congr_left
    intro b _
    simp
  rcases h with rfl | ⟨b, off, rfl, hc⟩
  · cases ao with
    | none => exact run_convert_bytes_nil w 77 5 Try.underlying77 Try.underlying5 0 cap 9 Try.underlying9
    | some a =>
      rw [run_convert_bytes_string w 77 9 5 _ _ cap Try.underlying77 Try.underlying5 Try.underlying9]
      exact (run_bytesToString w a 0 cap [] (by simp [loadCells, loadCellsFrom])).trans rfl
  · rw [run_convert_bytes_arg w 77 5 Try.underlying77 Try.underlying5 b off bs.length cap (bs.map fun b => (b.toNat : Int)) (by simp) (fun i hi => by rw [hc i hi]; simp [List.getD, hi]) 9 Try.underlying9, nums]
theorem setRow_same (w : World) (g : Nat) (cs cur : Array Value) (t : TypeId) (fz : Nat × Nat) (h : w.heap[g]? = some (.cells cur t fz)) : (w.setRow g cs).heap[g]? = some (.cells cs t fz) := by
  unfold World.setRow
  simp only [Array.getElem?_modify, if_true, h, Option.map_some]
theorem setRow_other (w : World) (g k : Nat) (cs : Array Value) (h : k ≠ g) : (w.setRow g cs).heap[k]? = w.heap[k]? := by
  unfold World.setRow
  simp only [Array.getElem?_modify]
  rw [if_neg (Ne.symm h)]
theorem setRow_below {B : Nat} {w0 w : World} (h : Below B w0 w) (g : Nat) (cs : Array Value) (hg : B ≤ g) : Below B w0 (w.setRow g cs) := by
  refine ⟨h.os, h.tape, h.output, ?_, fun k hk => (setRow_other w g k cs (by omega)).trans (h.block k hk)⟩
  have : (w.setRow g cs).heap.size = w.heap.size := by simp [World.setRow]
  rw [this]; exact h.size
/-- A row of bytes that was filled. -/
theorem fill_list (b : Bt) (v : Value) (n : Nat) : (List.replicate n v).take 0 ++ Lib.byteCells b ++ (List.replicate n v).drop (0 + b.length) = (b.map fun x => Value.int .u8 (x.toNat : Int)) ++ List.replicate (n - b.length) v := by
  rw [List.take_zero, List.nil_append, Nat.zero_add, List.drop_replicate]
  rfl
theorem pad_map (b : Bt) : (padB b).map (fun x => Value.int .u8 (x.toNat : Int)) = (b.map fun x => Value.int .u8 (x.toNat : Int)) ++ List.replicate (64 - b.length) (Value.int .u8 0) := by
  unfold padB
  rw [List.map_append, List.map_replicate]
  rfl
theorem fill_cells (b : Bt) (cur : Array Value) (hc : cur = (List.replicate 64 (Value.int .u8 0)).toArray) : ∀ j (h : j < (padB b).length), ((cur.toList.take 0 ++ Lib.byteCells b ++ cur.toList.drop (0 + b.length)).toArray)[j]? = some (.int .u8 ((padB b)[j].toNat : Int)) := by
  have e : cur.toList.take 0 ++ Lib.byteCells b ++ cur.toList.drop (0 + b.length) = (padB b).map fun x => Value.int .u8 (x.toNat : Int) := by
    rw [hc, pad_map]
    exact fill_list b _ 64
  rw [e]
  intro j h
  rw [List.getElem?_toArray, List.getElem?_map, List.getElem?_eq_getElem h]
  rfl
theorem results_cell1 {fn : Func} {t : Tmp} {ty : TypeId} (h : fn.results = #[.cell t ty]) (tmps : Array Value) (P : Program) (w : World) (a : Addr) (v : Value) (ha : tmps[t]?.getD undef = .pointer (some a)) (hl : (loadVar ty a).run P w = .ok v w) :
    (results fn tmps).run P w = .ok v w := by
  simp [results, h, ha, asAddr, hl]
theorem load_sec {w : World} {b : Nat} {x y : Value} (h0 : w.cell? ⟨b, 0, none⟩ = some x) (h1 : w.cell? ⟨b, 1, none⟩ = some y) : (loadVar 48 ⟨b, 0, none⟩).run Try.prog w = .ok (.agg #[x, y]) w := by
  simp [loadVar, go_sem, h0, h1]
theorem ret_sec {fn : Func} {R : Ending → World → Prop} {a : Act} {t : Tmp} {w : World} {b : Nat} {x y : Value} (h : fn.results = #[.cell t 48]) (ha : a.tmps[t]?.getD undef = .pointer (some ⟨b, 0, none⟩)) (hd : a.defers = []) (h0 : w.cell? ⟨b, 0, none⟩ = some x) (h1 : w.cell? ⟨b, 1, none⟩ = some y) (hR : R (.returned (.agg #[x, y])) w) : bodyPost Try.prog fn R .ret a w :=
  bodyPost_ret (results_cell1 h _ _ _ _ _ ha (load_sec h0 h1)) hd hR
theorem set_two {W : World} {b : Nat} {c0 c1 : Value} {t : TypeId} (h : W.heap[b]? = some (.cells #[c0, c1] t (0, 0))) (x y : Value) : ((W.setCell ⟨b, 0, none⟩ x).setCell ⟨b, 1, none⟩ y).heap[b]? = some (.cells #[x, y] t (0, 0)) := by
  simp [World.setCell, Array.getElem?_modify, h]
set_option maxRecDepth 100000 in
theorem filled_any (b : Bt) (w : World) (hb : b.length ≤ 64) : Calls Try.prog 34 #[sv b] w fun e w' => e = .returned (fillS b).v ∧ Below w.heap.size w w' := by
  obtain ⟨cur, hcur⟩ : ∃ cur : Array Value, cur = (List.replicate 64 (Value.int .u8 0)).toArray := ⟨_, rfl⟩
  have hcs : cur.size = 64 := by rw [hcur, List.size_toArray, List.length_replicate]
  have hrow : ∀ W : World, W.heap[w.heap.size + 1]? = some (.cells cur 87 (0, 0)) → (Builtin.copy_ #[77, 9] 3 #[.slice (some ⟨w.heap.size + 1, 0, none⟩) 64 64, sv b]).run Try.prog W = .ok (goInt b.length) (W.setRow (w.heap.size + 1) (cur.toList.take 0 ++ Lib.byteCells b ++ cur.toList.drop (0 + b.length)).toArray) := fun W hW =>
    Lib.run_copy_row_string (P := Try.prog) W 77 9 3 5 (w.heap.size + 1) 0 64 64 ⟨b.toArray⟩ cur 87 Try.underlying77 (by kernel_rfl) hW hb (by rw [hcs]; show 0 + b.length ≤ 64; omega)
  have hcl := fill_cells b cur hcur
  have hobj : Obj.cells cur 87 (0, 0) = Obj.cells (List.replicate 64 (Value.int .u8 0)).toArray 87 (0, 0) := by rw [hcur]
  generalize (cur.toList.take 0 ++ Lib.byteCells b ++ cur.toList.drop (0 + b.length)).toArray = cs at *
  go_enter Try.func34, Try.ntmps34
  go_wp2_with fail
  generalize hW : World.alloc (World.alloc w _) _ = W
  have h1 : W.heap[w.heap.size + 1]? = some (.cells cur 87 (0, 0)) := by
    have := heap_alloc_new (w.alloc (.cells #[.string ⟨#[]⟩, .bool false] 48)) (Obj.cells (List.replicate 64 (Value.int .u8 0)).toArray 87)
    rw [World.size_alloc] at this
    rw [hobj, ← hW]
    exact this
  have h2 : W.heap[w.heap.size]? = some (.cells #[.string ⟨#[]⟩, .bool false] 48 (0, 0)) := by
    rw [← hW]
    exact (Below.heap_alloc (w.alloc (.cells #[.string ⟨#[]⟩, .bool false] 48)) _ w.heap.size (by simp)).trans (heap_alloc_new w _)
  have h3 : Below w.heap.size w W := by
    rw [← hW]
    exact ((Below.refl _ w).alloc (Nat.le_refl _) _).alloc (by simp) _
  clear hW
  rw [hrow W h1]
  obtain ⟨W2, hW2⟩ : ∃ W2, W2 = W.setRow (w.heap.size + 1) cs := ⟨_, rfl⟩
  have h4 : W2.heap[w.heap.size + 1]? = some (.cells cs 87 (0, 0)) := by rw [hW2]; exact setRow_same _ _ _ _ _ _ h1
  have h5 : W2.heap[w.heap.size]? = some (.cells #[.string ⟨#[]⟩, .bool false] 48 (0, 0)) := by rw [hW2]; exact (setRow_other _ _ _ _ (by omega)).trans h2
  have h6 : Below w.heap.size w W2 := by rw [hW2]; exact setRow_below h3 _ _ (by omega)
  rw [← hW2]
  have hst : (convert 77 9 (.slice (some ⟨w.heap.size + 1, 0, none⟩) 64 64)).run Try.prog W2 = .ok (sv (padB b)) W2 := by
    have := run_str (w := W2) (ao := some ⟨w.heap.size + 1, 0, none⟩) (bs := padB b) (.inr ⟨_, 0, rfl, fun j hj => by rw [Lib.cell_of_heap h4, Nat.zero_add]; exact hcl j hj⟩) 64
    rw [padB_length hb] at this
    exact this
  have d0 := Lib.cell_of_heap h5 0
  have d1 := Lib.cell_of_heap h5 1
  have f0 := Lib.frozen_of_heap h5 0
  have f1 := Lib.frozen_of_heap h5 1
  simp at d0 d1
  have HE : Hid (Below w.heap.size w ((W2.setCell ⟨w.heap.size, 0, none⟩ (sv (padB b))).setCell ⟨w.heap.size, 1, none⟩ (.bool false)) ∧ ((W2.setCell ⟨w.heap.size, 0, none⟩ (sv (padB b))).setCell ⟨w.heap.size, 1, none⟩ (.bool false)).heap[w.heap.size]? = some (.cells #[sv (padB b), .bool false] 48 (0, 0))) := hidb ⟨(h6.setCell (p := ⟨w.heap.size, 0, none⟩) (Nat.le_refl _) _).setCell (p := ⟨w.heap.size, 1, none⟩) (Nat.le_refl _) _, set_two h5 _ _⟩
  have HP : Hid ((fillS b).v = .agg #[sv (padB b), .bool false]) := hidb rfl
  clear hW2 hrow hcl hobj h1 h2 h3 h4 h5 h6 hcur hcs hb
  generalize padB b = p at *
  simp only [Result.andThen]
  go_wp2_with fail
  obtain ⟨H1, H2⟩ := HE.out
  refine ret_sec rfl rfl rfl ((Lib.cell_of_heap H2 0).trans rfl) ((Lib.cell_of_heap H2 1).trans rfl) ⟨?_, H1⟩
  rw [HP.out]
  rfl
end Go.Proofs.Ytghhhlbpolhkhaa
