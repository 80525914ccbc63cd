/- Layer 15: slices.Insert ahead of others. -/
import Derived.Test.YthmjejmignangaaGreatDoorEN
import Derived.Shelf.Spec.SlicesInsertGrow
namespace Go.Proofs.YthmjejmignangaaGreatDoor
open Go.RowKit Go.Lib
/-- Cells from a place on. -/
def putMany : Array Value → Nat → List Value → Array Value
  | cur, _, [] => cur
  | cur, o, v :: r => putMany (cur.setIfInBounds o v) (o + 1) r
theorem putMany_size : ∀ (vs : List Value) (o : Nat) (cur : Array Value), (putMany cur o vs).size = cur.size
  | [], _, _ => rfl
  | v :: r, o, cur => by rw [putMany, putMany_size r]; simp
theorem putMany_list : ∀ (vs : List Value) (o : Nat) (cur : Array Value), o + vs.length ≤ cur.size → (putMany cur o vs).toList = cur.toList.take o ++ vs ++ cur.toList.drop (o + vs.length)
  | [], o, cur, _ => by simp [putMany]
  | v :: r, o, cur, h => by
    simp only [List.length_cons] at h
    rw [putMany, putMany_list r (o + 1) _ (by simp; omega), Array.toList_setIfInBounds]
    have hl : cur.toList.length = cur.size := Array.length_toList
    have e1 : (cur.toList.set o v).take (o + 1) = cur.toList.take o ++ [v] := by
      rw [List.take_set, List.set_eq_take_append_cons_drop]
      have : o < (cur.toList.take (o + 1)).length := by rw [List.length_take]; omega
      rw [if_pos this, List.take_take, List.drop_take]
      simp
    have e2 : (cur.toList.set o v).drop (o + 1 + r.length) = cur.toList.drop (o + 1 + r.length) := by
      rw [List.drop_set_of_lt (by omega)]
    rw [e1, e2]
    simp [List.append_assoc, Nat.add_comm 1 r.length, Nat.add_assoc]
theorem heap_setCells (b : Nat) (e : TypeId) : ∀ (vs : List Value) (o : Nat) (w : World) (cur : Array Value), w.heap[b]? = some (.cells cur e (0, 0)) → (w.setCells b o vs).heap[b]? = some (.cells (putMany cur o vs) e (0, 0))
  | [], _, _, _, h => h
  | v :: r, o, w, cur, h => by
    rw [World.setCells, putMany]
    exact heap_setCells b e r (o + 1) _ _ (heap_setCell_same _ _ _ _ _ _ h)
theorem same_setCells (b : Nat) : ∀ (vs : List Value) (o : Nat) (w : World), (w.setCells b o vs).os = w.os ∧ (w.setCells b o vs).tape = w.tape ∧ (w.setCells b o vs).output = w.output ∧ (w.setCells b o vs).heap.size = w.heap.size ∧ ∀ k, k ≠ b → (w.setCells b o vs).heap[k]? = w.heap[k]?
  | [], _, _ => ⟨rfl, rfl, rfl, rfl, fun _ _ => rfl⟩
  | v :: r, o, w => by
    obtain ⟨h1, h2, h3, h4, h5⟩ := same_setCells b r (o + 1) (w.setCell ⟨b, o, none⟩ v)
    rw [World.setCells]
    refine ⟨h1, h2, h3, h4.trans (World.size_setCell _ _ _), fun k hk => (h5 k hk).trans (Below.heap_setCell _ _ _ _ hk)⟩
/-- The row behind the shift. -/
theorem shift_list {cur : List Value} {n c i : Nat} {xs : List Value} {x : Value} (hc : cur.length = c) (hn : cur.take n = xs) (hx : xs.length = n) (hi : i < n) (hr : n < c) : ((cur.take (i + 1) ++ xs.drop i ++ cur.drop (i + 1 + (xs.drop i).length)).take i ++ [x] ++ (cur.take (i + 1) ++ xs.drop i ++ cur.drop (i + 1 + (xs.drop i).length)).drop (i + 1)).take (n + 1) = xs.take i ++ x :: xs.drop i := by
  have hd : (xs.drop i).length = n - i := by rw [List.length_drop, hx]
  have hti : (cur.take (i + 1)).length = i + 1 := by rw [List.length_take]; omega
  have e1 : (cur.take (i + 1) ++ xs.drop i ++ cur.drop (i + 1 + (xs.drop i).length)).take i = xs.take i := by
    rw [List.append_assoc, List.take_append_of_le_length (by omega), List.take_take, ← hn, List.take_take]
    congr 1
    omega
  have e2 : (cur.take (i + 1) ++ xs.drop i ++ cur.drop (i + 1 + (xs.drop i).length)).drop (i + 1) = xs.drop i ++ cur.drop (i + 1 + (xs.drop i).length) := by
    rw [List.append_assoc, List.drop_append_of_le_length (by omega), List.drop_eq_nil_of_le (by omega), List.nil_append]
  rw [e1, e2]
  have hl : (xs.take i ++ [x] ++ xs.drop i).length = n + 1 := by simp; omega
  rw [show xs.take i ++ [x] ++ (xs.drop i ++ cur.drop (i + 1 + (xs.drop i).length)) = (xs.take i ++ [x] ++ xs.drop i) ++ cur.drop (i + 1 + (xs.drop i).length) by simp, List.take_append_of_le_length (by omega), List.take_of_length_le (by omega)]
  simp
abbrev tS : TypeId := 107
abbrev tE : TypeId := 110
theorem hutS : Tryz.prog.underlying 107 = some (.slice 110) := Tryz.underlying107
theorem hszE : (Tryz.prog.info? 110).map (·.size) = some 1 := by kernel_rfl
theorem zE : ∀ w, (Go.sizeOf 110).run Tryz.prog w = .ok 1 w := fun w => by kernel_rfl
set_option maxHeartbeats 4000000 in
set_option maxRecDepth 100000 in
theorem insert_shift (b n c i vb : Nat) (cs : List Value) (x : Value) (w : World) (hi : i < n) (hroom : n + 1 ≤ c) (_hc63 : c ≤ 9223372036854775807) (hvb : vb ≠ b) (hcl : cs.length = n) (hn : n ≤ 256)
    (hcs : ∀ j v, cs[j]? = some v → w.cell? ⟨b, j, none⟩ = some v) (hsp : ∀ j, j < n + 1 → (w.cell? ⟨b, j, none⟩).isSome = true) (hfz : ∀ j, w.frozen? ⟨b, j, none⟩ = false)
    (hvs : w.cell? ⟨vb, 0, none⟩ = some x) (h1c : ∀ v ∈ cs, v.oneCell' = true) (h1v : x.oneCell' = true)
    (tB : TypeId) (kB : Nat) (hsa : w.shape? vb = some (110, 1)) (hsb : w.shape? b = some (tB, kB)) (hkB : kB ≠ 0) (hfa : ∀ j, w.frozen? ⟨vb, j, none⟩ = false) :
    Calls Tryz.prog 104 #[.slice (some ⟨b, 0, none⟩) n c, .int .i64 i, .slice (some ⟨vb, 0, none⟩) 1 1] w fun e w' =>
      e = .returned (.slice (some ⟨b, 0, none⟩) (n + 1) c) ∧ w' = (w.drew.setCells b (i + 1) (cs.drop i)).setCells b i [x] := by
  have hz2 : ¬ ((i : Int) = (n : Int)) := by omega
  have hov : ∀ lb cb, (callFunc 122 #[.slice (some ⟨vb, 0, none⟩) 1 1, .slice (some ⟨b, i + 1, none⟩) lb cb]).run Tryz.prog w = .ok (.value (.bool false)) w := fun lb cb => by
    rw [run_callFunc_extern Tryz.func122 (by kernel_rfl) (by kernel_rfl) (by kernel_rfl) (e := Extern.SlicesOverlaps.overlaps #[107, 107] #[4]) (by kernel_rfl),
      Lib.run_overlaps_apart w 107 4 110 hutS 1 zE ⟨vb, 0, none⟩ ⟨b, i + 1, none⟩ 1 1 lb cb hvb 110 tB 1 kB hsa hsb hkB (hfa 0) (hfa 1)]
    rfl
  have hdl : (cs.drop i).length = n - i := by rw [List.length_drop, hcl]
  have hw1 : IntKind.i64.wrap ((i : Int) + 1) = (i : Int) + 1 := by rw [IntKind.wrap_i64]; omega
  have hw2 : IntKind.i64.wrap ((n : Int) + 1) = (n : Int) + 1 := by rw [IntKind.wrap_i64]; omega
  have hin : i ≤ n := by omega
  have hb1 : (0 : Int) ≤ (i : Int) + 1 := by omega
  have hb3 : (i : Int) ≤ (n : Int) + 1 := by omega
  have hb2 : ¬ (c = i + 1) := by omega
  have hb4 : ¬ (c = i) := by omega
  have hcp1 : ∀ ty dc sc, (Builtin.copy_ #[107, 107] ty #[.slice (some ⟨b, i + 1, none⟩) (n - i) dc, .slice (some ⟨b, i, none⟩) (n + 1 - i) sc]).run Tryz.prog w.drew = .ok (goInt (cs.drop i).length) (w.drew.setCells b (i + 1) (cs.drop i)) := fun ty dc sc =>
    run_copy_cells w.drew _ _ ty 110 b (i + 1) (n - i) dc ⟨b, i, none⟩ (n + 1 - i) sc (cs.drop i) hutS hszE (by rw [hdl]; simp only [Nat.min_def]; split <;> omega)
      (fun j v hj => by rw [Addr.add_lit]; exact hcs (i + j) v (by rwa [List.getElem?_drop] at hj))
      (fun j hj => hsp _ (by omega)) (fun j hj => hfz _) (fun v hv => h1c v (List.mem_of_mem_drop hv))
  obtain ⟨W1, hW1⟩ : ∃ W1, W1 = w.drew.setCells b (i + 1) (cs.drop i) := ⟨_, rfl⟩
  have hsp1 : ∀ k, k < n + 1 → (W1.cell? ⟨b, k, none⟩).isSome = true := fun k hk => by
    rw [hW1]
    exact isSome_setCells b _ _ _ (fun j hj => by rw [hdl] at hj; exact hsp _ (by omega)) _ (hsp k hk)
  have hcp2 : ∀ (W : World), (∀ x, W.cell? x = W1.cell? x) → (∀ x, W.frozen? x = W1.frozen? x) → ∀ ty dc, (Builtin.copy_ #[107, 107] ty #[.slice (some ⟨b, i, none⟩) (n + 1 - i) dc, .slice (some ⟨vb, 0, none⟩) 1 1]).run Tryz.prog W = .ok (goInt [x].length) (W.setCells b i [x]) := fun W hWc hWf ty dc =>
    run_copy_cells W _ _ ty 110 b i (n + 1 - i) dc ⟨vb, 0, none⟩ 1 1 [x] hutS hszE (by simp only [List.length_singleton, Nat.min_def]; split <;> omega)
      (fun j v hj => by
        rw [Addr.add_lit, hWc, hW1, World.cell?_setCells_out b _ _ _ _ (fun h _ => absurd h hvb)]
        cases j with
        | zero => simp at hj; subst hj; exact hvs
        | succ j => simp at hj)
      (fun j hj => by rw [hWc]; exact hsp1 _ (by simp at hj; omega)) (fun j hj => by rw [hWf, hW1, World.frozen?_setCells]; exact hfz _) (fun v hv => by simp at hv; subst hv; exact h1v)
  rw [← hW1] at hcp1
  clear hcs hsp hfz hvs h1c hsa hsb hfa hsp1
  go_enter Tryz.func104, Tryz.ntmps104
  go_wp2_with (simp only [hov])
  go_region_law (refine step_copy_runI rfl _ _ 107 107 rfl _ _ (by simp [Act.eval, Act.put]) (by simp [Act.eval, Act.put]) (hcp1 _ _ _) ?_)
  go_wp2_with (at_builtin; refine wpList_copy_runI _ rfl _ _ 107 107 rfl _ _ rfl rfl (hcp2 _ (fun _ => rfl) (fun _ => rfl) _ _) ?_)
  go_ret
  first | exact ⟨rfl, rfl⟩ | exact ⟨rfl, by rw [hW1]⟩
set_option maxHeartbeats 4000000 in
set_option maxRecDepth 100000 in
theorem insert_grow (b n c i vb : Nat) (cs : List Value) (x : Value) (w : World) (hi : i < n) (hnc : n ≤ c) (hroom : c < n + 1) (hcl : cs.length = n) (hn : n ≤ 256)
    (hcs : ∀ j v, cs[j]? = some v → w.cell? ⟨b, j, none⟩ = some v) (hvs : w.cell? ⟨vb, 0, none⟩ = some x) (h1c : ∀ v ∈ cs, v.oneCell' = true) (h1v : x.oneCell' = true) :
    Calls Tryz.prog 104 #[.slice (some ⟨b, 0, none⟩) n c, .int .i64 i, .slice (some ⟨vb, 0, none⟩) 1 1] w fun e w' =>
      ∃ G, n + 1 ≤ G ∧ G ≤ maxLen ∧ e = .returned (.slice (some ⟨w.heap.size, 0, none⟩) (n + 1) G) ∧ Hid (w' = (((w.alloc (.cells ((cs.take i).toArray ++ Builtin.zeroCells (Value.pointer none).cells (n + 1 - i) ++ Builtin.zeroCells (Value.pointer none).cells (G - (n + 1))) 110)).drew.setCells w.heap.size i [x]).drew).setCells w.heap.size (i + 1) (cs.drop i)) := by
  have i9 : ∃ i0, Tryz.prog.info? 110 = some i0 ∧ i0.zero = some (.pointer none) ∧ i0.size = 1 ∧ i0.bytes = 8 := ⟨_, rfl, rfl, rfl, rfl⟩
  obtain ⟨i0, hi0, hz0, hzs, hzb⟩ := i9
  have hz2 : ¬ ((i : Int) = (n : Int)) := by omega
  have hz3 : (c : Int) < (n : Int) + 1 := by omega
  have hbw : b < w.heap.size := block_lt_of_cell (hcs 0 _ (List.getElem?_eq_getElem (by omega)))
  have hvw : vb < w.heap.size := block_lt_of_cell hvs
  have hkk : (n : Int) + 1 - (i : Int) = ((n + 1 - i : Nat) : Int) := by omega
  have hik : i + (n + 1 - i) = n + 1 := by omega
  have hold : (Builtin.firstCells i0.size i (.slice (some ⟨b, 0, none⟩) i c)).run Tryz.prog w.drew = .ok (cs.take i).toArray w.drew := by
    rw [hzs]
    exact run_firstCells_some w.drew 1 i ⟨b, 0, none⟩ i c (cs.take i) (by rw [List.length_take]; omega) (fun j v hj => by
      rw [Addr.add_lit, Nat.zero_add]
      rw [List.getElem?_take] at hj
      split at hj
      · exact hcs j v hj
      · cases hj)
  have hrz : ∀ ty, (Builtin.append_ #[107, 3] ty #[.slice (some ⟨b, 0, none⟩) i c, .int .i64 ((n : Int) + 1 - (i : Int))]).run Tryz.prog w =
      .ok (.slice (some ⟨w.heap.size, 0, none⟩) (n + 1) (grownCap w (n + 1) c 110)) (w.drew.alloc (.cells ((cs.take i).toArray ++ Builtin.zeroCells (Value.pointer none).cells (n + 1 - i) ++ Builtin.zeroCells (Value.pointer none).cells (grownCap w (n + 1) c 110 - (n + 1))) 110)) := fun ty => by
    have h := Lib.run_append_grow_zeros w 107 3 ty 110 i0 _ .i64 .i64 hutS Tryz.underlying3 hi0 hz0 (some ⟨b, 0, none⟩) i c (cs.take i) hold (n + 1 - i) (by omega) (by omega) (by omega) (by omega) (by rw [hzb]; omega) (by rw [hzb, hik]; exact growslice_fits hroom (by omega))
    rw [hik] at h
    rw [hkk]
    exact h
  obtain ⟨G, hG⟩ : ∃ G, G = grownCap w (n + 1) c 110 := ⟨_, rfl⟩
  obtain ⟨ROW, hROW⟩ : ∃ ROW : Array Value, ROW = (cs.take i).toArray ++ Builtin.zeroCells (Value.pointer none).cells (n + 1 - i) ++ Builtin.zeroCells (Value.pointer none).cells (G - (n + 1)) := ⟨_, rfl⟩
  have hGn : n + 1 ≤ G := by rw [hG]; exact grownCap_ge w _ _ _
  have hGm : G ≤ maxLen := by
    have := grownCap_le_maxLen w (n + 1) c 110 (by unfold maxLen; omega)
    rw [← hG] at this
    exact this
  have hG63 : G ≤ 9223372036854775807 := by unfold maxLen at hGm; omega
  rw [← hG] at hrz
  rw [← hROW] at hrz
  have HE : Hid (∀ W, W = (((w.alloc (.cells ROW 110)).drew.setCells w.heap.size i [x]).drew).setCells w.heap.size (i + 1) (cs.drop i) → W = (((w.alloc (.cells ((cs.take i).toArray ++ Builtin.zeroCells (Value.pointer none).cells (n + 1 - i) ++ Builtin.zeroCells (Value.pointer none).cells (G - (n + 1))) 110)).drew.setCells w.heap.size i [x]).drew).setCells w.heap.size (i + 1) (cs.drop i)) := hidb fun W h => by rw [← hROW]; exact h
  have hRl : n + 1 ≤ ROW.size := by
    rw [hROW]
    simp [Builtin.zeroCells, Value.cells]
    omega
  obtain ⟨W1, hW1⟩ : ∃ W1, W1 = w.drew.alloc (.cells ROW 110) := ⟨_, rfl⟩
  rw [← hW1] at hrz
  have hN : ∀ j, j < n + 1 → (W1.cell? ⟨w.heap.size, j, none⟩).isSome = true := fun j hj => by
    rw [hW1, World.cell?_alloc_at (w := w.drew) ROW _ w.heap.size j rfl, Array.getElem?_eq_getElem (by omega)]; rfl
  have hNf : ∀ j, W1.frozen? ⟨w.heap.size, j, none⟩ = false := fun j => by rw [hW1]; exact World.frozen?_alloc_at (w := w.drew) ROW _ w.heap.size j rfl
  have hOb : ∀ j v, w.cell? ⟨b, j, none⟩ = some v → W1.cell? ⟨b, j, none⟩ = some v := fun j v h => by rw [hW1, World.cell?_alloc_past (w := w.drew) _ b j hbw]; exact h
  have hOv : w.cell? ⟨vb, 0, none⟩ = some x → W1.cell? ⟨vb, 0, none⟩ = some x := fun h => by rw [hW1, World.cell?_alloc_past (w := w.drew) _ vb 0 hvw]; exact h
  have hcpA : ∀ (W : World), (∀ x, W.cell? x = W1.cell? x) → (∀ x, W.frozen? x = W1.frozen? x) → ∀ ty dc, (Builtin.copy_ #[107, 107] ty #[.slice (some ⟨w.heap.size, i, none⟩) (n + 1 - i) dc, .slice (some ⟨vb, 0, none⟩) 1 1]).run Tryz.prog W = .ok (goInt [x].length) (W.setCells w.heap.size i [x]) := fun W hWc hWf ty dc =>
    run_copy_cells W _ _ ty 110 w.heap.size i (n + 1 - i) dc ⟨vb, 0, none⟩ 1 1 [x] hutS hszE (by simp only [List.length_singleton, Nat.min_def]; split <;> omega)
      (fun j v hj => by
        rw [Addr.add_lit, hWc]
        cases j with
        | zero => simp at hj; subst hj; exact hOv hvs
        | succ j => simp at hj)
      (fun j hj => by rw [hWc]; exact hN _ (by simp at hj; omega)) (fun j hj => by rw [hWf]; exact hNf _) (fun v hv => by simp at hv; subst hv; exact h1v)
  have hGi : ¬ (G = i) := by omega
  have hGim : ¬ (G = i + 1) := by omega
  have hci : ¬ (c = i) := by omega
  have hbN : b ≠ w.heap.size := by omega
  have hdl : (cs.drop i).length = n - i := by rw [List.length_drop, hcl]
  have hcpB : ∀ (W : World), (∀ y, W.cell? y = (W1.setCells w.heap.size i [x]).cell? y) → (∀ y, W.frozen? y = (W1.setCells w.heap.size i [x]).frozen? y) → ∀ ty dc sc, (Builtin.copy_ #[107, 107] ty #[.slice (some ⟨w.heap.size, i + 1, none⟩) (n - i) dc, .slice (some ⟨b, i, none⟩) (n - i) sc]).run Tryz.prog W = .ok (goInt (cs.drop i).length) (W.setCells w.heap.size (i + 1) (cs.drop i)) := fun W hWc hWf ty dc sc =>
    run_copy_cells W _ _ ty 110 w.heap.size (i + 1) (n - i) dc ⟨b, i, none⟩ (n - i) sc (cs.drop i) hutS hszE (by rw [hdl]; simp)
      (fun j v hj => by
        rw [Addr.add_lit, hWc, World.cell?_setCells_out _ _ _ _ _ (fun h _ => absurd h hbN)]
        exact hOb _ v (hcs (i + j) v (by rwa [List.getElem?_drop] at hj)))
      (fun j hj => by rw [hWc]; exact isSome_setCells _ _ _ _ (fun t ht => hN _ (by simp at ht; omega)) _ (hN _ (by omega)))
      (fun j hj => by rw [hWf, World.frozen?_setCells]; exact hNf _) (fun v hv => h1c v (List.mem_of_mem_drop hv))
  subst hW1
  have hE1 : ∀ x, ((w.alloc (.cells ROW 110)).drew).cell? x = (w.drew.alloc (.cells ROW 110)).cell? x := fun x => rfl
  have hE2 : ∀ x, ((w.alloc (.cells ROW 110)).drew).frozen? x = (w.drew.alloc (.cells ROW 110)).frozen? x := fun x => rfl
  have hF1 : ∀ y, (((w.alloc (.cells ROW 110)).drew.setCells w.heap.size i [x]).drew).cell? y = ((w.drew.alloc (.cells ROW 110)).setCells w.heap.size i [x]).cell? y := fun x => rfl
  have hF2 : ∀ y, (((w.alloc (.cells ROW 110)).drew.setCells w.heap.size i [x]).drew).frozen? y = ((w.drew.alloc (.cells ROW 110)).setCells w.heap.size i [x]).frozen? y := fun x => rfl
  have hw1 : IntKind.i64.wrap ((i : Int) + 1) = (i : Int) + 1 := by rw [IntKind.wrap_i64]; omega
  have hw2 : IntKind.i64.wrap ((n : Int) + 1) = (n : Int) + 1 := by rw [IntKind.wrap_i64]; omega
  have hb1 : (0 : Int) ≤ (i : Int) + 1 := by omega
  have hin : i ≤ n := by omega
  have hb3 : (i : Int) ≤ (n : Int) + 1 := by omega
  clear hkk hik hold hROW hG hRl hcs hvs h1c hOb hOv hNf hN
  go_enter Tryz.func104, Tryz.ntmps104
  go_wp2_with (first
    | (at_builtin; refine Lib.wpList_append_run _ rfl _ _ _ _ rfl _ _ rfl rfl _ _ (hrz _) ?_)
    | (at_builtin; refine wpList_copy_runI _ rfl _ _ 107 107 rfl _ _ rfl rfl (hcpA _ hE1 hE2 _ _) ?_)
    | (at_builtin; refine wpList_copy_runI _ rfl _ _ 107 107 rfl _ _ rfl rfl (hcpB _ (fun _ => rfl) (fun _ => rfl) _ _ _) ?_))
  go_region_law (refine step_copy_runI rfl _ _ 107 107 rfl (.slice (some ⟨w.heap.size, i + 1, none⟩) (n - i) (G - (i + 1))) (.slice (some ⟨b, i, none⟩) (n - i) (c - i)) (by simp [Act.eval, Act.put]) (by simp [Act.eval, Act.put]) (hcpB _ hF1 hF2 3 (G - (i + 1)) (c - i)) ?_)
  go_wp2
  go_ret
  exact ⟨G, hGn, hGm, rfl, hidb (HE.out _ rfl)⟩
theorem insOk : InsOk := by
  intro fsv n i fb vb1 xs w h h1 hi hn hv hne
  have hx : xs.length = n := by have := h.1; omega
  rcases h.2 with ⟨e, h0⟩ | ⟨g, c, cur, rfl, _, hg, hnc, hcm, hcs, ht⟩
  · omega
  rw [Nat.mul_one] at hcs ht
  have hcells : ∀ j v, xs[j]? = some v → w.cell? ⟨g, j, none⟩ = some v := fun j v hj => by
    have := World.ownsRow.cells h (g := g) rfl j v hj
    rw [Addr.add_lit] at this
    simpa using this
  have hvne : vb1 ≠ g := fun e => hne (by rw [e]; rfl)
  have hvs : w.cell? ⟨vb1, 0, none⟩ = some (.pointer (some ⟨fb, 0, none⟩)) := by rw [Lib.cell_of_heap hv]; rfl
  by_cases hroom : n + 1 ≤ c
  · refine (insert_shift g n c i vb1 xs (.pointer (some ⟨fb, 0, none⟩)) w hi hroom (by unfold maxLen at hcm; omega) hvne hx hn hcells (fun j hj => ?_) (fun j => Lib.frozen_of_heap hg j) hvs h1 rfl 110 c ?_ ?_ (by omega) (fun j => Lib.frozen_of_heap hv j)).mono ?_
    · rw [Lib.cell_of_heap hg, Array.getElem?_eq_getElem (by omega)]
      rfl
    · unfold World.shape?
      rw [hv]
      rfl
    · unfold World.shape?
      rw [hg]
      simp only [hcs]
    · rintro e w' ⟨rfl, rfl⟩
      obtain ⟨s1, s2, s3, s4, s5⟩ := same_setCells g (xs.drop i) (i + 1) w.drew
      obtain ⟨t1, t2, t3, t4, t5⟩ := same_setCells g [.pointer (some ⟨fb, 0, none⟩)] i (w.drew.setCells g (i + 1) (xs.drop i))
      have hh := heap_setCells g 110 [.pointer (some ⟨fb, 0, none⟩)] i _ _ (heap_setCells g 110 (xs.drop i) (i + 1) w.drew cur hg)
      have hd : (xs.drop i).length = n - i := by rw [List.length_drop, hx]
      refine ⟨some ⟨g, 0, none⟩, c, rfl, hidb ⟨⟨by simp; omega, .inr ⟨g, c, _, rfl, Nat.zero_le _, hh, hroom, hcm, by rw [putMany_size, putMany_size, hcs, Nat.mul_one], ?_⟩⟩, ⟨t1.trans s1, t2.trans s2, t3.trans s3, by rw [t4, s4]; exact Nat.le_refl _, fun k _ hk => ?_⟩, .inl rfl⟩⟩
      · rw [putMany_list _ _ _ (by rw [putMany_size]; simp; omega), putMany_list _ _ _ (by omega), Nat.mul_one]
        exact shift_list (c := c) (by simpa using hcs) ht hx hi (by omega)
      · have hkg : k ≠ g := fun e => hk (by rw [e]; rfl)
        exact (t5 k hkg).trans (s5 k hkg)
  · refine (insert_grow g n c i vb1 xs (.pointer (some ⟨fb, 0, none⟩)) w hi hnc (by omega) hx hn hcells hvs h1 rfl).mono ?_
    rintro e w' ⟨G, hG1, hG2, rfl, HW⟩
    have HW' := HW.out
    obtain ⟨ROW, hROW⟩ : ∃ ROW : Array Value, ROW = (xs.take i).toArray ++ Builtin.zeroCells (Value.pointer none).cells (n + 1 - i) ++ Builtin.zeroCells (Value.pointer none).cells (G - (n + 1)) := ⟨_, rfl⟩
    rw [← hROW] at HW'
    have hz : ∀ k, (Builtin.zeroCells (Value.pointer none).cells k).size = k := fun k => by simp [Builtin.zeroCells, Value.cells]
    have hRs : ROW.size = G := by
      rw [hROW, Array.size_append, Array.size_append, hz, hz]
      simp
      omega
    have hRt : ROW.toList.take i = xs.take i := by
      rw [hROW, Array.toList_append, Array.toList_append, List.append_assoc, List.take_append_of_le_length (by simp; omega)]
      simp [List.take_take]
    have hnew := heap_alloc_new w (.cells ROW 110)
    have hh := heap_setCells w.heap.size 110 (xs.drop i) (i + 1) ((w.alloc (.cells ROW 110)).drew.setCells w.heap.size i [.pointer (some ⟨fb, 0, none⟩)]).drew _ (heap_setCells w.heap.size 110 [.pointer (some ⟨fb, 0, none⟩)] i (w.alloc (.cells ROW 110)).drew ROW hnew)
    obtain ⟨s1, s2, s3, s4, s5⟩ := same_setCells w.heap.size [.pointer (some ⟨fb, 0, none⟩)] i (w.alloc (.cells ROW 110)).drew
    obtain ⟨t1, t2, t3, t4, t5⟩ := same_setCells w.heap.size (xs.drop i) (i + 1) ((w.alloc (.cells ROW 110)).drew.setCells w.heap.size i [.pointer (some ⟨fb, 0, none⟩)]).drew
    rw [← HW'] at hh t1 t2 t3 t4 t5
    have hb : Below w.heap.size w (w.alloc (.cells ROW 110)) := (Below.refl _ w).alloc (Nat.le_refl _) _
    have hd : (xs.drop i).length = n - i := by rw [List.length_drop, hx]
    refine ⟨some ⟨w.heap.size, 0, none⟩, G, rfl, hidb ⟨⟨by simp; omega, .inr ⟨w.heap.size, G, _, rfl, Nat.zero_le _, hh, hG1, hG2, by rw [putMany_size, putMany_size, hRs, Nat.mul_one], ?_⟩⟩, ⟨t1.trans (s1.trans hb.os), t2.trans (s2.trans hb.tape), t3.trans (s3.trans hb.output), ?_, fun k hk hkn => ?_⟩, .inr ⟨w.heap.size, rfl, Nat.le_refl _⟩⟩⟩
    · rw [putMany_list _ _ _ (by rw [putMany_size, hd]; omega), putMany_list _ _ _ (by simp; omega), Nat.mul_one]
      have e1 : (ROW.toList.take i ++ [Value.pointer (some ⟨fb, 0, none⟩)] ++ ROW.toList.drop (i + [Value.pointer (some ⟨fb, 0, none⟩)].length)).take (i + 1) = xs.take i ++ [.pointer (some ⟨fb, 0, none⟩)] := by
        rw [hRt, List.take_append_of_le_length (by simp; omega), List.take_of_length_le (by simp; omega)]
      rw [e1, List.take_append_of_le_length (by simp; omega), List.take_of_length_le (by simp; omega)]
      simp
    · show w.heap.size ≤ w'.heap.size
      rw [t4]
      show w.heap.size ≤ ((w.alloc (.cells ROW 110)).drew.setCells w.heap.size i [.pointer (some ⟨fb, 0, none⟩)]).heap.size
      rw [s4]
      exact hb.size
    · have hkw : k ≠ w.heap.size := by omega
      exact (t5 k hkw).trans ((s5 k hkw).trans (hb.block k hk))
end Go.Proofs.YthmjejmignangaaGreatDoor
