/- Layer 15: files and disks in memory; the smallest functions. Layer 15: filled. Layer 16: a part; what its looks answer. -/
import Derived.Test.YthmjejmignangaaGreatDoorAN
import Derived.Lib.BufferWrite
namespace Go.Proofs.YthmjejmignangaaGreatDoor
open Go.RowKit
/-- Of what was there nothing turns but blocks of S. -/
structure Kt (S : Nat → Prop) (w w' : World) : Prop where
  os : w'.os = w.os
  tape : w'.tape = w.tape
  output : w'.output = w.output
  size : w.heap.size ≤ w'.heap.size
  block : ∀ i < w.heap.size, ¬ S i → w'.heap[i]? = w.heap[i]?
theorem Kt.refl (S : Nat → Prop) (w : World) : Kt S w w := ⟨rfl, rfl, rfl, Nat.le_refl _, fun _ _ _ => rfl⟩
theorem Kt.mono {S R : Nat → Prop} {w w' : World} (h : Kt S w w') (k : ∀ i < w.heap.size, S i → R i) : Kt R w w' := ⟨h.os, h.tape, h.output, h.size, fun i hi hn => h.block i hi fun x => hn (k i hi x)⟩
theorem Kt.trans {S R : Nat → Prop} {a b c : World} (h : Kt S a b) (k : Kt R b c) (m : ∀ i < a.heap.size, R i → S i) : Kt S a c :=
  ⟨k.os.trans h.os, k.tape.trans h.tape, k.output.trans h.output, Nat.le_trans h.size k.size, fun i hi hn => (k.block i (Nat.lt_of_lt_of_le hi h.size) fun x => hn (m i hi x)).trans (h.block i hi hn)⟩
theorem Kt.grown {g : Nat} {w w' : World} {S : Nat → Prop} (h : w.grownBy w' (some g)) (hs : S g) : Kt S w w' := ⟨h.os, h.tape, h.output, h.size, fun i hi hn => h.block i hi fun e => hn (by injection e with e; exact e ▸ hs)⟩
theorem Kt.step {v v' : Value} {w w' : World} {S : Nat → Prop} (h : Step w v w' v') (hs : ∀ g, v.ownBlock = some g → S g) : Kt S w w' := ⟨h.1.os, h.1.tape, h.1.output, h.1.size, fun i hi hn => h.1.block i hi fun e => hn (hs i e.symm)⟩
theorem Kt.below {w w' : World} {S : Nat → Prop} (h : Below w.heap.size w w') : Kt S w w' := ⟨h.os, h.tape, h.output, h.size, fun i hi _ => h.block i hi⟩
theorem Kt.drewN {S : Nat → Prop} {w w' : World} (h : Kt S w w') (M : Nat) : Kt S w (w'.drewN M) := ⟨h.os, h.tape, h.output, h.size, h.block⟩
theorem Kt.alloc {S : Nat → Prop} {w w' : World} (h : Kt S w w') (o : Obj) : Kt S w (w'.alloc o) := h.trans (Kt.below (S := S) ((Below.refl _ w').alloc (Nat.le_refl _) o)) fun _ _ x => x
theorem Kt.set {S : Nat → Prop} {w w' : World} (h : Kt S w w') {b j : Nat} {v : Value} (hb : b < w.heap.size → S b) : Kt S w (w'.setCell ⟨b, j, none⟩ v) :=
  ⟨h.os, h.tape, h.output, by rw [World.size_setCell]; exact h.size, fun i hi hn => (Below.heap_setCell _ _ _ _ (fun e => hn (by subst e; exact hb hi))).trans (h.block i hi hn)⟩
theorem Kt.low {S : Nat → Prop} {w w' : World} {B : Nat} (h : Kt S w w') (hB : B ≤ w.heap.size) (hs : ∀ i < B, ¬ S i) : Below B w w' := ⟨h.os, h.tape, h.output, h.size, fun i hi => h.block i (by omega) (hs i hi)⟩
theorem heap_ltb {w : World} {k : Nat} {o : Obj} (h : w.heap[k]? = some o) : k < w.heap.size := (Array.getElem?_eq_some_iff.1 h).1
/-- Where a file lies. -/
structure Fg where
  fb : Nat
  sl : Value
  mp : Option Nat
def Fg.has (g : Fg) (k : Nat) : Prop := k = g.fb ∨ g.sl.ownBlock = some k ∨ g.mp = some k
/-- The file lies there. -/
structure FlAt (w : World) (g : Fg) (f : Fl) : Prop where
  box : w.heap[g.fb]? = some (.cells #[sv f.name, g.sl, .map g.mp] 116 (0, 0))
  row : w.ownsRow 0 76 2 g.sl f.cs.length (secCs f.sure)
  map : MapS w g.mp f.cs.length f.wr
  len : f.cs.length ≤ 65536
  a1 : g.sl.ownBlock ≠ some g.fb
  a2 : g.mp ≠ some g.fb
  a3 : ∀ k, g.sl.ownBlock = some k → g.mp ≠ some k
section
variable {w : World} {g : Fg} {f : Fl}
theorem FlAt.lts (h : FlAt w g f) : ∀ k, g.has k → k < w.heap.size := by
  intro k hk
  rcases hk with rfl | e | e
  · exact heap_ltb h.box
  · exact (h.row.lt k e).2
  · exact h.map.lt k e
theorem row_keep {w w' : World} {base n size : Nat} {e : TypeId} {v : Value} {xs : List Value} (h : w.ownsRow base e size v n xs) (hb : ∀ k, v.ownBlock = some k → w'.heap[k]? = w.heap[k]?) : w'.ownsRow base e size v n xs := by
  refine ⟨h.1, ?_⟩
  rcases h.2 with h2 | ⟨g, cap, cur, rfl, hg, hh, r⟩
  · exact .inl h2
  · exact .inr ⟨g, cap, cur, rfl, hg, (hb g rfl).trans hh, r⟩
theorem FlAt.keep {w' : World} (h : FlAt w g f) (e : ∀ k, g.has k → w'.heap[k]? = w.heap[k]?) : FlAt w' g f :=
  ⟨(e _ (.inl rfl)).trans h.box, row_keep h.row fun k hk => e k (.inr (.inl hk)), h.map.keep fun b hb => e b (.inr (.inr hb)), h.len, h.a1, h.a2, h.a3⟩
theorem FlAt.kt {w' : World} {S : Nat → Prop} (h : FlAt w g f) (k : Kt S w w') (d : ∀ i, g.has i → ¬ S i) : FlAt w' g f := h.keep fun i hi => k.block i (h.lts i hi) (d i hi)
theorem FlAt.below {w' : World} (h : FlAt w g f) (k : Below w.heap.size w w') : FlAt w' g f := h.keep fun i hi => k.block i (h.lts i hi)
theorem FlAt.c0 (h : FlAt w g f) : w.cell? ⟨g.fb, 0, none⟩ = some (sv f.name) := Lib.cell_of_heap h.box 0
theorem FlAt.c1 (h : FlAt w g f) : w.cell? ⟨g.fb, 1, none⟩ = some g.sl := Lib.cell_of_heap h.box 1
theorem FlAt.c2 (h : FlAt w g f) : w.cell? ⟨g.fb, 2, none⟩ = some (.map g.mp) := Lib.cell_of_heap h.box 2
theorem FlAt.fr (h : FlAt w g f) (j : Nat) : w.frozen? ⟨g.fb, j, none⟩ = false := Lib.frozen_of_heap h.box j
theorem FlAt.form (h : FlAt w g f) : ∃ a c, g.sl = .slice a f.cs.length c ∧ f.cs.length ≤ c ∧ c ≤ maxLen := by
  obtain ⟨a, c, e, h1, h2, _⟩ := row_form h.row
  exact ⟨a, c, e, h1, h2⟩
end
theorem count15_any (w : World) (g : Fg) (f : Fl) (h : FlAt w g f) : Calls Tryz.prog 47 #[.pointer (some ⟨g.fb, 1, none⟩)] w fun e w' => e = .returned (.int .i64 (f.cs.length : Nat)) ∧ w' = w := by
  have c1 := h.c1
  obtain ⟨a, c, e, h1, h2⟩ := h.form
  have hl := h.len
  rw [e] at c1
  clear h e
  go_enter Tryz.func47, Tryz.ntmps47
  go_wp2_with fail
  go_ret
  exact ⟨rfl, rfl⟩
theorem tmod3 (n : Int) : (n.tmod 3 + 3).tmod 3 = n % 3 := by
  have h := Int.tmod_add_mul_tdiv n 3
  have a1 : -3 < n.tmod 3 := by have := Int.lt_tmod_of_pos n (b := 3) (by decide); omega
  have a2 : n.tmod 3 < 3 := Int.tmod_lt_of_pos n (by decide)
  rw [Int.tmod_eq_emod_of_nonneg (by omega)]
  omega
theorem fate15_any (n : Int) (w : World) : Calls Tryz.prog 66 #[.int .i64 n] w fun e w' => e = .returned (.int .i64 (fateN n)) ∧ w' = w := by
  have hw : wrap64 (n.tmod 3 + 3) = n.tmod 3 + 3 := by
    have a1 : -3 < n.tmod 3 := by have := Int.lt_tmod_of_pos n (b := 3) (by decide); omega
    have a2 : n.tmod 3 < 3 := Int.tmod_lt_of_pos n (by decide)
    unfold wrap64
    omega
  have H : Hid ((n.tmod 3 + 3).tmod 3 = fateN n) := hidb (tmod3 n)
  go_enter Tryz.func66, Tryz.ntmps66
  go_wp2_with fail
  go_ret
  rw [hw, H.out]
  exact ⟨rfl, rfl⟩
def byteB (x : UInt8) : Bool := decide (33 ≤ x.toNat) && decide (x.toNat ≤ 126)
def nameB (b : Bt) : Bool := decide (1 ≤ b.length) && decide (b.length ≤ 16) && b.all byteB
theorem isName_any (b : Bt) (w : World) (hb : b.length ≤ 281474976710656) : Calls Tryz.prog 76 #[sv b] w fun e w' => e = .returned (.bool (nameB b)) ∧ w' = w := by
  by_cases h1 : b.length < 1
  · have e : nameB b = false := by simp [nameB]; omega
    rw [e]
    go_enter Tryz.func76, Tryz.ntmps76
    go_wp2_with fail
    go_ret
    exact ⟨rfl, rfl⟩
  by_cases h2 : 16 < b.length
  · have e : nameB b = false := by simp [nameB]; omega
    rw [e]
    go_enter Tryz.func76, Tryz.ntmps76
    go_wp2_with fail
    go_ret
    exact ⟨rfl, rfl⟩
  have e : nameB b = b.all byteB := by simp [nameB]; omega
  rw [e]
  clear e
  obtain ⟨n, hn⟩ : ∃ n, n = b.length := ⟨_, rfl⟩
  go_enter Tryz.func76, Tryz.ntmps76
  go_wp2_with fail
  rw [← hn]
  have HN := hidb hn
  have HA : Hid (∀ i, i ≤ n → (∀ j (h : j < b.length), j < i → byteB b[j] = true) → i = n → b.all byteB = true) := hidb fun i hi h e => List.all_eq_true.2 fun x hx => by
    obtain ⟨j, hj, rfl⟩ := List.getElem_of_mem hx
    exact h j hj (by omega)
  clear hn
  go_loopw [14] (fun iv wr => ∃ i : Nat, iv = .int .i64 i ∧ i ≤ n ∧ wr = w ∧ Hid (∀ j (h : j < b.length), j < i → byteB b[j] = true)) (fun iv _ => n - (intOf iv).toNat)
  case atStart => exact ⟨0, rfl, by omega, rfl, hidb fun j _ h => absurd h (Nat.not_lt_zero _)⟩
  case round =>
    obtain ⟨i, rfl, hi, rfl, HI⟩ := hrel
    by_cases hlt : i < n
    · have hl : i < b.length := by rw [← HN.out]; exact hlt
      have HF : Hid (byteB b[i] = false → b.all byteB = false) := hidb fun h => by
        rw [List.all_eq_false]
        exact ⟨b[i], List.getElem_mem hl, by simp [h]⟩
      have HX : Hid ((⟨b.toArray⟩ : ByteArray)[i] = b[i]) := hidb rfl
      go_wp2_with fail
      · rename_i x1 x2
        go_ret
        rw [HF.out (by rw [HX.out] at x1 x2; unfold byteB; simp; omega)]
        exact ⟨rfl, rfl⟩
      · rename_i x1 x2
        refine ⟨⟨i + 1, by go_num, by omega, by first | rfl | trivial, hidb fun j hj hji => ?_⟩, by simp [intOf]; omega⟩
        by_cases e : j < i
        · exact HI.out j hj e
        · obtain rfl : j = i := by omega
          rw [HX.out] at x2
          unfold byteB; simp; omega
      · rename_i x1
        go_ret
        rw [HF.out (by rw [HX.out] at x1; unfold byteB; simp; omega)]
        exact ⟨rfl, rfl⟩
    · have HE := hidb (HA.out i hi HI.out (by omega))
      go_wp2_with fail
      go_ret
      rw [HE.out]
      exact ⟨rfl, rfl⟩
end Go.Proofs.YthmjejmignangaaGreatDoor
namespace Go.Proofs.YthmjejmignangaaGreatDoor
open Go.RowKit
theorem run_str {w : World} {ao : Option Addr} {bs : List UInt8} (h : Bs w ao bs) (cap : Nat) : (convert 29 9 (.slice ao bs.length cap)).run Tryz.prog w = .ok (.string ⟨bs.toArray⟩) w := by
  have nums : ∀ l : List UInt8, strOfNums (l.map fun b => (b.toNat : Int)) = ⟨l.toArray⟩ := fun l => by
    unfold strOfNums
    rw [List.map_map]
    congr 2
    conv => rhs; rw [← List.map_id l]
    apply List.map_congr_left
    intro b _
    simp
  rcases h with rfl | ⟨b, off, rfl, hc⟩
  · cases ao with
    | none => exact run_convert_bytes_nil w 29 5 Tryz.underlying29 Tryz.underlying5 0 cap 9 Tryz.underlying9
    | some a =>
      rw [run_convert_bytes_string w 29 9 5 _ _ cap Tryz.underlying29 Tryz.underlying5 Tryz.underlying9]
      exact (run_bytesToString w a 0 cap [] (by simp [loadCells, loadCellsFrom])).trans rfl
  · rw [run_convert_bytes_arg w 29 5 Tryz.underlying29 Tryz.underlying5 b off bs.length cap (bs.map fun b => (b.toNat : Int)) (by simp) (fun i hi => by rw [hc i hi]; simp [List.getD, hi]) 9 Tryz.underlying9, nums]
theorem setRow_same (w : World) (g : Nat) (cs cur : Array Value) (t : TypeId) (fz : Nat × Nat) (h : w.heap[g]? = some (.cells cur t fz)) : (w.setRow g cs).heap[g]? = some (.cells cs t fz) := by
  unfold World.setRow
  simp only [Array.getElem?_modify, if_true, h, Option.map_some]
theorem setRow_other (w : World) (g k : Nat) (cs : Array Value) (h : k ≠ g) : (w.setRow g cs).heap[k]? = w.heap[k]? := by
  unfold World.setRow
  simp only [Array.getElem?_modify]
  rw [if_neg (Ne.symm h)]
theorem setRow_below {B : Nat} {w0 w : World} (h : Below B w0 w) (g : Nat) (cs : Array Value) (hg : B ≤ g) : Below B w0 (w.setRow g cs) := by
  refine ⟨h.os, h.tape, h.output, ?_, fun k hk => (setRow_other w g k cs (by omega)).trans (h.block k hk)⟩
  have : (w.setRow g cs).heap.size = w.heap.size := by simp [World.setRow]
  rw [this]; exact h.size
/-- A row of bytes that was filled. -/
theorem fill_list (b : Bt) (v : Value) (n : Nat) : (List.replicate n v).take 0 ++ Lib.byteCells b ++ (List.replicate n v).drop (0 + b.length) = (b.map fun x => Value.int .u8 (x.toNat : Int)) ++ List.replicate (n - b.length) v := by
  rw [List.take_zero, List.nil_append, Nat.zero_add, List.drop_replicate]
  rfl
theorem pad_map (b : Bt) : (padB b).map (fun x => Value.int .u8 (x.toNat : Int)) = (b.map fun x => Value.int .u8 (x.toNat : Int)) ++ List.replicate (64 - b.length) (Value.int .u8 0) := by
  unfold padB
  rw [List.map_append, List.map_replicate]
  rfl
theorem fill_cells (b : Bt) (cur : Array Value) (hc : cur = (List.replicate 64 (Value.int .u8 0)).toArray) : ∀ j (h : j < (padB b).length), ((cur.toList.take 0 ++ Lib.byteCells b ++ cur.toList.drop (0 + b.length)).toArray)[j]? = some (.int .u8 ((padB b)[j].toNat : Int)) := by
  have e : cur.toList.take 0 ++ Lib.byteCells b ++ cur.toList.drop (0 + b.length) = (padB b).map fun x => Value.int .u8 (x.toNat : Int) := by
    rw [hc, pad_map]
    exact fill_list b _ 64
  rw [e]
  intro j h
  rw [List.getElem?_toArray, List.getElem?_map, List.getElem?_eq_getElem h]
  rfl
theorem results_cell1 {fn : Func} {t : Tmp} {ty : TypeId} (h : fn.results = #[.cell t ty]) (tmps : Array Value) (P : Program) (w : World) (a : Addr) (v : Value) (ha : tmps[t]?.getD undef = .pointer (some a)) (hl : (loadVar ty a).run P w = .ok v w) :
    (results fn tmps).run P w = .ok v w := by
  simp [results, h, ha, asAddr, hl]
theorem load_sec {w : World} {b : Nat} {x y : Value} (h0 : w.cell? ⟨b, 0, none⟩ = some x) (h1 : w.cell? ⟨b, 1, none⟩ = some y) : (loadVar 76 ⟨b, 0, none⟩).run Tryz.prog w = .ok (.agg #[x, y]) w := by
  simp [loadVar, go_sem, h0, h1]
theorem ret_sec {fn : Func} {R : Ending → World → Prop} {a : Act} {t : Tmp} {w : World} {b : Nat} {x y : Value} (h : fn.results = #[.cell t 76]) (ha : a.tmps[t]?.getD undef = .pointer (some ⟨b, 0, none⟩)) (hd : a.defers = []) (h0 : w.cell? ⟨b, 0, none⟩ = some x) (h1 : w.cell? ⟨b, 1, none⟩ = some y) (hR : R (.returned (.agg #[x, y])) w) : bodyPost Tryz.prog fn R .ret a w :=
  bodyPost_ret (results_cell1 h _ _ _ _ _ ha (load_sec h0 h1)) hd hR
theorem set_two {W : World} {b : Nat} {c0 c1 : Value} {t : TypeId} (h : W.heap[b]? = some (.cells #[c0, c1] t (0, 0))) (x y : Value) : ((W.setCell ⟨b, 0, none⟩ x).setCell ⟨b, 1, none⟩ y).heap[b]? = some (.cells #[x, y] t (0, 0)) := by
  simp [World.setCell, Array.getElem?_modify, h]
set_option maxRecDepth 100000 in
theorem filled_any (b : Bt) (w : World) (hb : b.length ≤ 64) : Calls Tryz.prog 81 #[sv b] w fun e w' => e = .returned (fillS b).v ∧ Below w.heap.size w w' := by
  obtain ⟨cur, hcur⟩ : ∃ cur : Array Value, cur = (List.replicate 64 (Value.int .u8 0)).toArray := ⟨_, rfl⟩
  have hcs : cur.size = 64 := by rw [hcur, List.size_toArray, List.length_replicate]
  have hrow : ∀ W : World, W.heap[w.heap.size + 1]? = some (.cells cur 175 (0, 0)) → (Builtin.copy_ #[29, 9] 3 #[.slice (some ⟨w.heap.size + 1, 0, none⟩) 64 64, sv b]).run Tryz.prog W = .ok (goInt b.length) (W.setRow (w.heap.size + 1) (cur.toList.take 0 ++ Lib.byteCells b ++ cur.toList.drop (0 + b.length)).toArray) := fun W hW =>
    Lib.run_copy_row_string (P := Tryz.prog) W 29 9 3 5 (w.heap.size + 1) 0 64 64 ⟨b.toArray⟩ cur 175 Tryz.underlying29 (by kernel_rfl) hW hb (by rw [hcs]; show 0 + b.length ≤ 64; omega)
  have hcl := fill_cells b cur hcur
  have hobj : Obj.cells cur 175 (0, 0) = Obj.cells (List.replicate 64 (Value.int .u8 0)).toArray 175 (0, 0) := by rw [hcur]
  generalize (cur.toList.take 0 ++ Lib.byteCells b ++ cur.toList.drop (0 + b.length)).toArray = cs at *
  go_enter Tryz.func81, Tryz.ntmps81
  go_wp2_with fail
  generalize hW : World.alloc (World.alloc w _) _ = W
  have h1 : W.heap[w.heap.size + 1]? = some (.cells cur 175 (0, 0)) := by
    have := heap_alloc_new (w.alloc (.cells #[.string ⟨#[]⟩, .bool false] 76)) (Obj.cells (List.replicate 64 (Value.int .u8 0)).toArray 175)
    rw [World.size_alloc] at this
    rw [hobj, ← hW]
    exact this
  have h2 : W.heap[w.heap.size]? = some (.cells #[.string ⟨#[]⟩, .bool false] 76 (0, 0)) := by
    rw [← hW]
    exact (Below.heap_alloc (w.alloc (.cells #[.string ⟨#[]⟩, .bool false] 76)) _ w.heap.size (by simp)).trans (heap_alloc_new w _)
  have h3 : Below w.heap.size w W := by
    rw [← hW]
    exact ((Below.refl _ w).alloc (Nat.le_refl _) _).alloc (by simp) _
  clear hW
  rw [hrow W h1]
  obtain ⟨W2, hW2⟩ : ∃ W2, W2 = W.setRow (w.heap.size + 1) cs := ⟨_, rfl⟩
  have h4 : W2.heap[w.heap.size + 1]? = some (.cells cs 175 (0, 0)) := by rw [hW2]; exact setRow_same _ _ _ _ _ _ h1
  have h5 : W2.heap[w.heap.size]? = some (.cells #[.string ⟨#[]⟩, .bool false] 76 (0, 0)) := by rw [hW2]; exact (setRow_other _ _ _ _ (by omega)).trans h2
  have h6 : Below w.heap.size w W2 := by rw [hW2]; exact setRow_below h3 _ _ (by omega)
  rw [← hW2]
  have hst : (convert 29 9 (.slice (some ⟨w.heap.size + 1, 0, none⟩) 64 64)).run Tryz.prog W2 = .ok (sv (padB b)) W2 := by
    have := run_str (w := W2) (ao := some ⟨w.heap.size + 1, 0, none⟩) (bs := padB b) (.inr ⟨_, 0, rfl, fun j hj => by rw [Lib.cell_of_heap h4, Nat.zero_add]; exact hcl j hj⟩) 64
    rw [padB_length hb] at this
    exact this
  have d0 := Lib.cell_of_heap h5 0
  have d1 := Lib.cell_of_heap h5 1
  have f0 := Lib.frozen_of_heap h5 0
  have f1 := Lib.frozen_of_heap h5 1
  simp at d0 d1
  have HE : Hid (Below w.heap.size w ((W2.setCell ⟨w.heap.size, 0, none⟩ (sv (padB b))).setCell ⟨w.heap.size, 1, none⟩ (.bool false)) ∧ ((W2.setCell ⟨w.heap.size, 0, none⟩ (sv (padB b))).setCell ⟨w.heap.size, 1, none⟩ (.bool false)).heap[w.heap.size]? = some (.cells #[sv (padB b), .bool false] 76 (0, 0))) := hidb ⟨(h6.setCell (p := ⟨w.heap.size, 0, none⟩) (Nat.le_refl _) _).setCell (p := ⟨w.heap.size, 1, none⟩) (Nat.le_refl _) _, set_two h5 _ _⟩
  have HP : Hid ((fillS b).v = .agg #[sv (padB b), .bool false]) := hidb rfl
  clear hW2 hrow hcl hobj h1 h2 h3 h4 h5 h6 hcur hcs hb
  generalize padB b = p at *
  simp only [Result.andThen]
  go_wp2_with fail
  obtain ⟨H1, H2⟩ := HE.out
  refine ret_sec rfl rfl rfl ((Lib.cell_of_heap H2 0).trans rfl) ((Lib.cell_of_heap H2 1).trans rfl) ⟨?_, H1⟩
  rw [HP.out]
  rfl
end Go.Proofs.YthmjejmignangaaGreatDoor
namespace Go.Proofs.YthmjejmignangaaGreatDoor
open Go.RowKit
/-- A part: epoch, number, count, index, bytes. -/
structure Prt where
  (e n c i : Int)
  b : Bt
  deriving DecidableEq
def Prt.cs (p : Prt) : List Value := [.int .i64 p.e, .int .i64 p.n, .int .i64 p.c, .int .i64 p.i, sv p.b]
def Prt.v (p : Prt) : Value := .agg #[.int .i64 p.e, .int .i64 p.n, .int .i64 p.c, .int .i64 p.i, sv p.b]
def noPrt : Prt := ⟨0, 0, 0, 0, []⟩
/-- Numbers of two bytes. -/
def Prt.sm (p : Prt) : Prop := (-9223372036854775808 ≤ p.e ∧ p.e ≤ 9223372036854775807) ∧ (-9223372036854775808 ≤ p.n ∧ p.n ≤ 9223372036854775807) ∧ (0 ≤ p.c ∧ p.c ≤ 65535) ∧ (0 ≤ p.i ∧ p.i ≤ 65535) ∧ p.b.length ≤ 9223372036854775807
def stmpB (n : Int) : Bool := decide (1 ≤ n) && decide (n ≤ 4611686018427387904)
def Prt.last (p : Prt) : Bool := decide (p.i = p.c - 1)
def Prt.may (p : Prt) : Bool := stmpB p.e && (stmpB p.n && (!decide (4096 < p.c) && (!decide (p.c ≤ p.i) && (if p.last then decide (0 < p.b.length) || decide (p.i = 0) else decide (p.b.length = 43)))))
def Prt.fol (p a : Prt) : Bool := if a.last then decide (p.i = 0) && (decide (p.n = a.n + 1) && decide (a.e ≤ p.e)) else decide (p.i = a.i + 1) && (decide (p.e = a.e) && (decide (p.n = a.n) && decide (p.c = a.c)))
theorem stamp_any (n : Int) (w : World) : Calls Tryz.prog 62 #[.int .i64 n] w fun e w' => e = .returned (.bool (stmpB n)) ∧ w' = w := by
  by_cases h : 1 ≤ n
  · have hs : stmpB n = decide (n ≤ 4611686018427387904) := by simp [stmpB, h]
    rw [hs]
    go_enter Tryz.func62, Tryz.ntmps62
    go_wp2_with fail
    go_ret
    exact ⟨rfl, rfl⟩
  · have hs : stmpB n = false := by simp [stmpB, h]
    rw [hs]
    go_enter Tryz.func62, Tryz.ntmps62
    go_wp2_with fail
    go_ret
    exact ⟨rfl, rfl⟩
/-- A part in a box. -/
theorem part_box (W : World) (p : Prt) : (W.alloc (.cells #[.int .i64 p.e, .int .i64 p.n, .int .i64 p.c, .int .i64 p.i, sv p.b] 71)).heap[W.heap.size]? = some (.cells #[.int .i64 p.e, .int .i64 p.n, .int .i64 p.c, .int .i64 p.i, sv p.b] 71 (0, 0)) := heap_alloc_new W _
theorem last_any (p : Prt) (hs : p.sm) (w : World) : Calls Tryz.prog 51 #[.agg #[.int .i64 p.e, .int .i64 p.n, .int .i64 p.c, .int .i64 p.i, sv p.b]] w fun e w' => e = .returned (.bool p.last) ∧ Below w.heap.size w w' := by
  have HL : Hid (p.last = decide (p.i = p.c - 1)) := hidb rfl
  obtain ⟨e, n, c, i, b⟩ := p
  obtain ⟨_, _, h1, _⟩ := hs
  simp only at h1 HL
  go_enter Tryz.func51, Tryz.ntmps51
  go_wp2_with fail
  go_ret
  rw [HL.out]
  exact ⟨by first | rfl | simp, (Below.refl _ w).alloc (Nat.le_refl _) _⟩
theorem part_cells {W : World} {q : Nat} {p : Prt} (h : W.heap[q]? = some (.cells #[.int .i64 p.e, .int .i64 p.n, .int .i64 p.c, .int .i64 p.i, sv p.b] 71 (0, 0))) : W.cell? ⟨q, 0, none⟩ = some (.int .i64 p.e) ∧ W.cell? ⟨q, 1, none⟩ = some (.int .i64 p.n) ∧ W.cell? ⟨q, 2, none⟩ = some (.int .i64 p.c) ∧ W.cell? ⟨q, 3, none⟩ = some (.int .i64 p.i) ∧ W.cell? ⟨q, 4, none⟩ = some (sv p.b) ∧ q < W.heap.size :=
  ⟨Lib.cell_of_heap h 0, Lib.cell_of_heap h 1, Lib.cell_of_heap h 2, Lib.cell_of_heap h 3, Lib.cell_of_heap h 4, heap_ltb h⟩
theorem eq_stmp (e n c e' n' c' : Int) (w : World) : (Op.equalIn 10000 69 (.agg #[.int .i64 e, .int .i64 n, .int .i64 c]) (.agg #[.int .i64 e', .int .i64 n', .int .i64 c'])).run Tryz.prog w = .ok (decide (e = e') && (decide (n = n') && decide (c = c'))) w := by
  have hS : Tryz.prog.underlying 69 = some (.struct (Tryz.prog.fieldsOf 69)) := by kernel_rfl
  rw [show (10000 : Nat) = 9999 + 1 from rfl, run_equalIn_agg w 9999 69 _ _ hS (by kernel_rfl)]
  simp only [Program.fieldsOf, Tryz.underlying69]
  go_simp
  by_cases h1 : e = e' <;> by_cases h2 : n = n' <;> by_cases h3 : c = c' <;> simp [h1, h2, h3]
attribute [local go_sem high] eq_stmp
set_option maxHeartbeats 1000000 in
set_option maxRecDepth 100000 in
theorem fol_any (p a : Prt) (hp : p.sm) (ha : a.sm) (han : a.n ≤ 4611686018427387904) (w : World) : Calls Tryz.prog 50 #[.agg #[.int .i64 p.e, .int .i64 p.n, .int .i64 p.c, .int .i64 p.i, sv p.b], .agg #[.int .i64 a.e, .int .i64 a.n, .int .i64 a.c, .int .i64 a.i, sv a.b]] w fun e w' => e = .returned (.bool (p.fol a)) ∧ Below w.heap.size w w' := by
  have HL := hidb (last_any a ha)
  have HF : Hid (p.fol a = if a.last then decide (p.i = 0) && (decide (p.n = a.n + 1) && decide (a.e ≤ p.e)) else decide (p.i = a.i + 1) && (decide (p.e = a.e) && (decide (p.n = a.n) && decide (p.c = a.c)))) := hidb rfl
  have HB : Hid (∀ W, Below ((w.alloc (.cells #[.int .i64 p.e, .int .i64 p.n, .int .i64 p.c, .int .i64 p.i, sv p.b] 71)).alloc (.cells #[.int .i64 a.e, .int .i64 a.n, .int .i64 a.c, .int .i64 a.i, sv a.b] 71)).heap.size ((w.alloc (.cells #[.int .i64 p.e, .int .i64 p.n, .int .i64 p.c, .int .i64 p.i, sv p.b] 71)).alloc (.cells #[.int .i64 a.e, .int .i64 a.n, .int .i64 a.c, .int .i64 a.i, sv a.b] 71)) W → W.heap[w.heap.size]? = some (.cells #[.int .i64 p.e, .int .i64 p.n, .int .i64 p.c, .int .i64 p.i, sv p.b] 71 (0, 0)) ∧ W.heap[w.heap.size + 1]? = some (.cells #[.int .i64 a.e, .int .i64 a.n, .int .i64 a.c, .int .i64 a.i, sv a.b] 71 (0, 0)) ∧ Below w.heap.size w W) := hidb fun W hb => by
    have b1 := part_box w p
    have b2 := part_box (w.alloc (.cells #[.int .i64 p.e, .int .i64 p.n, .int .i64 p.c, .int .i64 p.i, sv p.b] 71)) a
    have k2 := (Below.heap_alloc (w.alloc (.cells #[.int .i64 p.e, .int .i64 p.n, .int .i64 p.c, .int .i64 p.i, sv p.b] 71)) (.cells #[.int .i64 a.e, .int .i64 a.n, .int .i64 a.c, .int .i64 a.i, sv a.b] 71) w.heap.size (by simp)).trans b1
    rw [World.size_alloc] at b2
    have hw : Below w.heap.size w ((w.alloc (.cells #[.int .i64 p.e, .int .i64 p.n, .int .i64 p.c, .int .i64 p.i, sv p.b] 71)).alloc (.cells #[.int .i64 a.e, .int .i64 a.n, .int .i64 a.c, .int .i64 a.i, sv a.b] 71)) := ((Below.refl _ w).alloc (Nat.le_refl _) _).alloc (by simp) _
    exact ⟨(hb.block _ (heap_ltb k2)).trans k2, (hb.block _ (heap_ltb b2)).trans b2, hw.trans (hb.mono hw.size)⟩
  obtain ⟨pe, pn, pc, pi, pb⟩ := p
  obtain ⟨ae, an, ac, ai, ab⟩ := a
  obtain ⟨_, _, h1, _⟩ := hp
  obtain ⟨_, g0, _, g1, _⟩ := ha
  simp only at h1 g0 g1 HL HF HB han
  generalize (Prt.mk ae an ac ai ab).last = lst at HL HF
  have hw1 : IntKind.i64.wrap (an + 1) = an + 1 := by rw [IntKind.wrap_i64]; omega
  have hw2 : IntKind.i64.wrap (ai + 1) = ai + 1 := by rw [IntKind.wrap_i64]; omega
  cases lst with
  | true =>
    simp only [if_true] at HF
    go_enter Tryz.func50, Tryz.ntmps50
    go_wp2_with (first
      | (go_at_call 51; refine (HL.out _).mono ?_; clear HL; rintro e w1 ⟨rfl, hb⟩; obtain ⟨q1, q2, q3⟩ := HB.out w1 hb; obtain ⟨x0, x1, x2, x3, x4, x5⟩ := part_cells (p := ⟨pe, pn, pc, pi, pb⟩) q1; obtain ⟨y0, y1, y2, y3, y4, y5⟩ := part_cells (p := ⟨ae, an, ac, ai, ab⟩) q2; clear HB)
      | fail)
    all_goals (
      go_ret
      rw [HF.out]
      exact ⟨by simp [*], q3⟩)
  | false =>
    simp only [Bool.false_eq_true, if_false] at HF
    go_enter Tryz.func50, Tryz.ntmps50
    go_wp2_with (first
      | (go_at_call 51; refine (HL.out _).mono ?_; clear HL; rintro e w1 ⟨rfl, hb⟩; obtain ⟨q1, q2, q3⟩ := HB.out w1 hb; obtain ⟨x0, x1, x2, x3, x4, x5⟩ := part_cells (p := ⟨pe, pn, pc, pi, pb⟩) q1; obtain ⟨y0, y1, y2, y3, y4, y5⟩ := part_cells (p := ⟨ae, an, ac, ai, ab⟩) q2; clear HB)
      | fail)
    all_goals (
      go_ret
      rw [HF.out]
      exact ⟨by simp [*], q3⟩)
set_option maxHeartbeats 1000000 in
set_option maxRecDepth 100000 in
theorem may_any (p : Prt) (hp : p.sm) (w : World) : Calls Tryz.prog 74 #[.agg #[.int .i64 p.e, .int .i64 p.n, .int .i64 p.c, .int .i64 p.i, sv p.b]] w fun e w' => e = .returned (.bool p.may) ∧ Below w.heap.size w w' := by
  have HS1 := hidb (stamp_any p.e)
  have HS2 := hidb (stamp_any p.n)
  have HM : Hid (p.may = (stmpB p.e && (stmpB p.n && (!decide (4096 < p.c) && (!decide (p.c ≤ p.i) && (if p.last then decide (0 < p.b.length) || decide (p.i = 0) else decide (p.b.length = 43))))))) := hidb rfl
  have hb1 : Below w.heap.size w (w.alloc (.cells #[.int .i64 p.e, .int .i64 p.n, .int .i64 p.c, .int .i64 p.i, sv p.b] 71)) := (Below.refl _ w).alloc (Nat.le_refl _) _
  have HL : Hid (Calls Tryz.prog 51 #[.agg #[.int .i64 p.e, .int .i64 p.n, .int .i64 p.c, .int .i64 p.i, sv p.b]] (w.alloc (.cells #[.int .i64 p.e, .int .i64 p.n, .int .i64 p.c, .int .i64 p.i, sv p.b] 71)) fun e w' => e = .returned (.bool p.last) ∧ w'.heap[w.heap.size]? = some (.cells #[.int .i64 p.e, .int .i64 p.n, .int .i64 p.c, .int .i64 p.i, sv p.b] 71 (0, 0)) ∧ Below w.heap.size w w') := hidb ((last_any p hp _).mono fun e w' ⟨e1, b⟩ => ⟨e1, (b.block _ (heap_ltb (part_box w p))).trans (part_box w p), hb1.trans (b.mono hb1.size)⟩)
  obtain ⟨pe, pn, pc, pi, pb⟩ := p
  obtain ⟨_, _, h1, h2, h3⟩ := hp
  simp only at h1 h2 h3 HS1 HS2 HM HL hb1
  generalize (Prt.mk pe pn pc pi pb).last = lst at HL HM
  generalize stmpB pe = s1 at HS1 HM
  generalize stmpB pn = s2 at HS2 HM
  have HB1 := hidb hb1
  clear hb1 h1 h2
  have HP : Hid ((pb = [] ∧ decide ((0 : Int) < (pb.length : Int)) = false ∧ decide (0 < pb.length) = false) ∨ (decide ((0 : Int) < (pb.length : Int)) = true ∧ decide (0 < pb.length) = true)) := hidb (by
    cases pb with
    | nil => exact .inl ⟨rfl, rfl, rfl⟩
    | cons x l => exact .inr ⟨by simp, by simp⟩)
  have hq : ((pb.length : Int) == 43) = decide (pb.length = 43) := by
    by_cases h : pb.length = 43
    · simp [h]
    · have : ¬ (pb.length : Int) = 43 := by omega
      simp [h, this]
  have hz : (pi == 0) = decide (pi = 0) := rfl
  by_cases hc : 4096 < pc
  · have hc2 : decide (4096 < pc) = true := by simp [hc]
    clear HP HL
    cases s1 <;> cases s2
    all_goals (
      go_enter Tryz.func74, Tryz.ntmps74
      go_wp2_with (first
        | (go_at_call 62; refine (HS1.out _).mono ?_; clear HS1; rintro e w1 ⟨rfl, rfl⟩)
        | (go_at_call 62; refine (HS2.out _).mono ?_; clear HS2; rintro e w1 ⟨rfl, rfl⟩)
        | fail)
      go_ret
      rw [HM.out]
      exact ⟨by simp [hc2], HB1.out⟩)
  · have hc2 : decide (4096 < pc) = false := by simp [hc]
    by_cases hi : pc ≤ pi
    · have hi2 : decide (pc ≤ pi) = true := by simp [hi]
      clear HP HL
      cases s1 <;> cases s2
      all_goals (
        go_enter Tryz.func74, Tryz.ntmps74
        go_wp2_with (first
          | (go_at_call 62; refine (HS1.out _).mono ?_; clear HS1; rintro e w1 ⟨rfl, rfl⟩)
          | (go_at_call 62; refine (HS2.out _).mono ?_; clear HS2; rintro e w1 ⟨rfl, rfl⟩)
          | fail)
        go_ret
        rw [HM.out]
        exact ⟨by simp [hi2], HB1.out⟩)
    · have hi2 : decide (pc ≤ pi) = false := by simp [hi]
      cases s1 with
      | false =>
        clear HP HL
        go_enter Tryz.func74, Tryz.ntmps74
        go_wp2_with (first
          | (go_at_call 62; refine (HS1.out _).mono ?_; clear HS1; rintro e w1 ⟨rfl, rfl⟩)
          | fail)
        go_ret
        rw [HM.out]
        exact ⟨by simp, HB1.out⟩
      | true =>
        cases s2 with
        | false =>
          clear HP HL
          go_enter Tryz.func74, Tryz.ntmps74
          go_wp2_with (first
            | (go_at_call 62; refine (HS1.out _).mono ?_; clear HS1; rintro e w1 ⟨rfl, rfl⟩)
            | (go_at_call 62; refine (HS2.out _).mono ?_; clear HS2; rintro e w1 ⟨rfl, rfl⟩)
            | fail)
          go_ret
          rw [HM.out]
          exact ⟨by simp, HB1.out⟩
        | true =>
          cases lst with
          | false =>
            clear HP
            go_enter Tryz.func74, Tryz.ntmps74
            go_wp2_with (first
              | (go_at_call 62; refine (HS1.out _).mono ?_; clear HS1; rintro e w1 ⟨rfl, rfl⟩)
              | (go_at_call 62; refine (HS2.out _).mono ?_; clear HS2; rintro e w1 ⟨rfl, rfl⟩)
              | (go_at_call 51; refine HL.out.mono ?_; clear HL; rintro e w1 ⟨rfl, q1, HB3⟩; obtain ⟨x0, x1, x2, x3, x4, x5⟩ := part_cells (p := ⟨pe, pn, pc, pi, pb⟩) q1; simp only at x0 x1 x2 x3 x4)
              | fail)
            go_ret
            rw [HM.out]
            exact ⟨by simp [hc2, hi2], HB3⟩
          | true =>
            rcases HP.out with ⟨rfl, hl1, hl2⟩ | ⟨hl1, hl2⟩
            · go_enter Tryz.func74, Tryz.ntmps74
              go_wp2_with (first
                | (go_at_call 62; refine (HS1.out _).mono ?_; clear HS1; rintro e w1 ⟨rfl, rfl⟩)
                | (go_at_call 62; refine (HS2.out _).mono ?_; clear HS2; rintro e w1 ⟨rfl, rfl⟩)
                | (go_at_call 51; refine HL.out.mono ?_; clear HL; rintro e w1 ⟨rfl, q1, HB3⟩; obtain ⟨x0, x1, x2, x3, x4, x5⟩ := part_cells (p := ⟨pe, pn, pc, pi, []⟩) q1; simp only at x0 x1 x2 x3 x4)
                | fail)
              go_ret
              rw [HM.out]
              exact ⟨by simp [hc2, hi2], HB3⟩
            · go_enter Tryz.func74, Tryz.ntmps74
              go_wp2_with (first
                | (go_at_call 62; refine (HS1.out _).mono ?_; clear HS1; rintro e w1 ⟨rfl, rfl⟩)
                | (go_at_call 62; refine (HS2.out _).mono ?_; clear HS2; rintro e w1 ⟨rfl, rfl⟩)
                | (go_at_call 51; refine HL.out.mono ?_; clear HL; rintro e w1 ⟨rfl, q1, HB3⟩; obtain ⟨x0, x1, x2, x3, x4, x5⟩ := part_cells (p := ⟨pe, pn, pc, pi, pb⟩) q1; simp only at x0 x1 x2 x3 x4)
                | fail)
              go_ret
              rw [HM.out]
              exact ⟨by simp [hc2, hi2, hl2], HB3⟩
end Go.Proofs.YthmjejmignangaaGreatDoor
