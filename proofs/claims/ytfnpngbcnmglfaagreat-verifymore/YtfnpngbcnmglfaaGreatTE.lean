/- types' open blocks: outward, first, innermost, innermostLoop. -/
import Derived.Test.YtfnpngbcnmglfaaGreatCC
namespace Go.Proofs.YtfnpngbcnmglfaaGreat
open Go.RowKit Go.Shelf
attribute [local go_sem] Oper.semAt_some
/-- A row of pointers to blocks. -/
def PsAt (C : Addr → Option Value) (a : Option Addr) (bs : List Nat) : Prop := bs = [] ∨ ∃ b off, a = some ⟨b, off, none⟩ ∧ ∀ j (h : j < bs.length), C ⟨b, off + j, none⟩ = some (.pointer (some ⟨bs[j], 0, none⟩))
theorem PsAt.keep {C C' : Addr → Option Value} {a : Option Addr} {bs : List Nat} (h : PsAt C a bs) (hk : ∀ x v, C x = some v → C' x = some v) : PsAt C' a bs := by
  rcases h with h | ⟨b, off, e, h⟩
  · exact .inl h
  · exact .inr ⟨b, off, e, fun j hj => hk _ _ (h j hj)⟩
theorem ps_some {C : Addr → Option Value} {a : Option Addr} {bs : List Nat} (h : PsAt C a bs) (h0 : 0 < bs.length) : ∃ b off, a = some ⟨b, off, none⟩ := by
  rcases h with rfl | ⟨b, off, e, _⟩
  · cases h0
  · exact ⟨b, off, e⟩
theorem ps_at {C : Addr → Option Value} {b off : Nat} {bs : List Nat} (h : PsAt C (some ⟨b, off, none⟩) bs) (j : Nat) (hj : j < bs.length) : C ⟨b, off + j, none⟩ = some (.pointer (some ⟨bs.getD j 0, 0, none⟩)) := by
  rcases h with rfl | ⟨b, off, e, h⟩
  · cases hj
  · cases e
    rw [h j hj, List.getD_eq_getElem?_getD, List.getElem?_eq_getElem hj]
    rfl
/-- The last one first. -/
def pw (bs : List Nat) : Nat → List Nat
  | 0 => []
  | k + 1 => bs.getD k 0 :: pw bs k
set_option maxRecDepth 100000 in
set_option maxHeartbeats 2000000 in
theorem outw_feeds (n : Nat) (hn1 : 1 ≤ n) (b bS B wb : Nat) (la : Option Addr) (lc m : Nat) (bs : List Nat) (hm : bs.length = m) (bm : m ≤ 1000000) (W : World) (c : W.cell? ⟨bS, 0, none⟩ = some (.pointer (some ⟨wb, 3, none⟩)))
    (hT : ∀ W', KpB bS B W W' → W'.cell? ⟨wb, 3, none⟩ = some (.slice la m lc) ∧ PsAt W'.cell? la bs) :
    Feeds Fence.wide n Tryz.prog 232 #[.pointer (some ⟨bS, 0, none⟩)] (fun x : Nat => #[.pointer (some ⟨x, 0, none⟩)]) b (KpB bS B) (pw bs m) W := by
  intro l J Jx _ _ hY h0
  refine callsIn_of_wp Tryz.func232 rfl trivial ?_ rfl
  simp only [Tryz.ntmps232, List.size_toArray, List.length_cons, List.length_nil, Nat.reduceAdd, Nat.reduceSub, Array.replicate_succ, Array.replicate_zero, List.push_toArray, List.append_toArray, List.nil_append, List.cons_append]
  have HT := hid7 hT
  have HC := hid7 c
  have c3 := (hT W (KpB.refl _ _ _)).1
  clear hT
  gi_wp2
  clear c c3
  gi_loopw [3] (fun iv wr => ∃ (k : Nat) (pre : List Nat), iv = .int .i64 ((k : Int) - 1) ∧ k ≤ m ∧ Hid (pw bs m = pre ++ pw bs k) ∧ Hid (KpB bS B W wr) ∧ J pre wr) (fun iv _ => (intOf iv + 1).toNat)
  case atStart => exact ⟨m, [], by go_num, Nat.le_refl _, hid7 (by simp), hid7 (KpB.refl _ _ _), h0⟩
  case round =>
    obtain ⟨k, pre, rfl, hk, hp, hK, hj⟩ := hrel
    cases k with
    | zero =>
      have hE : Hid (J (pw bs m) wr) := hid7 (by rw [hp.out]; simpa [pw] using hj)
      gi_wp2
      go_end0
      exact ⟨⟨_, rfl⟩, .inl hE.out⟩
    | succ k =>
      have c0 : wr.cell? ⟨bS, 0, none⟩ = some (.pointer (some ⟨wb, 3, none⟩)) := (cell_heap7 (hK.out bS (.inl rfl))).trans HC.out
      obtain ⟨c3, hn⟩ := HT.out wr hK.out
      obtain ⟨tb, tf, rfl⟩ := ps_some hn (by omega)
      have c1 := ps_at hn k (by omega)
      have hp2 : pw bs m = pre ++ [bs.getD k 0] ++ pw bs k := by rw [hp.out]; simp [pw]
      obtain ⟨fn, tmps, assign, body, hy, hR⟩ := hY pre (bs.getD k 0) wr hj (by rw [hp2]; exact List.prefix_append _ _)
      have HP := hid7 hp2
      clear hp hp2 hn
      have e1 : ((k + 1 : Nat) : Int) - 1 = k := by omega
      rw [e1]
      generalize bs.getD k 0 = y at c1 hy hR HP
      gi_wp2
      refine hR.mono ?_
      rintro e W3 (⟨rfl, hJ3, hK3⟩ | ⟨rfl, hx3⟩)
      · have K4 := hid7 (hK.out.trans hK3)
        clear hK3 hR hy hj hK c0 c1 c3
        gi_wp2
        exact ⟨⟨k, _, by go_num, by omega, HP, K4, hJ3⟩, by simp [intOf]⟩
      · gi_wp2
        refine bodyPost_ret (results_none rfl _ _ _) rfl ?_
        exact ⟨⟨_, rfl⟩, .inr ⟨_, hx3⟩⟩
theorem outward_any (x : Addr) (w : World) : Calls Tryz.prog 230 #[.pointer (some x)] w fun e w' => e = .returned (.func (.func 232) #[] #[.pointer (some ⟨w.heap.size, 0, none⟩)]) ∧ w' = w.alloc (.cells #[.pointer (some x)] 256) := by
  go_enter Tryz.func230, Tryz.ntmps230
  go_wp2
  go_ret
  exact ⟨rfl, rfl⟩
theorem yes_any (v : Value) (w : World) : Calls Tryz.prog 220 #[v] w fun e w' => e = .returned (.bool true) ∧ w' = w := by
  go_enter Tryz.func220, Tryz.ntmps220
  go_wp2
  go_ret
  exact ⟨rfl, rfl⟩
theorem loopQ_any (x : Nat) (l : Bool) (w : World) (h : w.cell? ⟨x, 2, none⟩ = some (.bool l)) : Calls Tryz.prog 221 #[.pointer (some ⟨x, 0, none⟩)] w fun e w' => e = .returned (.bool l) ∧ w' = w := by
  go_enter Tryz.func221, Tryz.ntmps221
  go_wp2
  go_ret
  exact ⟨rfl, rfl⟩
def fstIx (pr : Nat → Bool) : Nat → Option Nat
  | 0 => none
  | k + 1 => if pr k = true then some k else fstIx pr k
theorem fst_skip {pr : Nat → Bool} {m : Nat} : ∀ {k : Nat}, k ≤ m → (∀ i, k ≤ i → i < m → pr i = false) → fstIx pr m = fstIx pr k := by
  induction m with
  | zero => intro k hk _; rw [show k = 0 by omega]
  | succ m ih =>
    intro k hk h
    by_cases hkm : k = m + 1
    · rw [hkm]
    · rw [fstIx, if_neg (by rw [h m (by omega) (by omega)]; decide)]
      exact ih (by omega) (fun i h1 h2 => h i h1 (by omega))
def ptrB (bs : List Nat) : Option Nat → Value
  | none => .pointer none
  | some i => .pointer (some ⟨bs.getD i 0, 0, none⟩)
def FirstEnd7 (bs : List Nat) (r : Option Nat) (w : World) (e : Ending) (w' : World) : Prop := e = .returned (ptrB bs r) ∧ Below w.heap.size w w'
theorem results_cell7 {fn : Func} {t : Tmp} {ty : TypeId} (h : fn.results = #[.cell t ty]) (tmps : Array Value) (P : Program) (w : World) (a : Addr) (v : Value) (ha : tmps[t]?.getD undef = .pointer (some a)) (hl : (loadVar ty a).run P w = .ok v w) :
    (results fn tmps).run P w = .ok v w := by
  simp [results, h, ha, asAddr, hl]
theorem load_ptr7 {w : World} {b : Nat} {v : Value} (h : w.cell? ⟨b, 0, none⟩ = some v) : (loadVar 225 ⟨b, 0, none⟩).run Tryz.prog w = .ok v w := by
  simp [loadVar, go_sem, h]
structure FsI (bs : List Nat) (pr : Nat → Bool) (F m z : Nat) (w : World) (pre : List Nat) (W : World) : Prop where
  at' : ∃ k, k ≤ m ∧ pw bs m = pre ++ pw bs k ∧ ∀ i, k ≤ i → i < m → pr i = false
  box : Boxed W z 258 (.func (.func F) #[] #[])
  res : Boxed W (z + 1) 225 (.pointer none)
  bel : Below z w W
  siz : z + 3 ≤ W.heap.size
structure FsR (bs : List Nat) (pr : Nat → Bool) (m z : Nat) (w : World) (W : World) : Prop where
  yes : ∃ i, fstIx pr m = some i ∧ Boxed W (z + 1) 225 (.pointer (some ⟨bs.getD i 0, 0, none⟩))
  bel : Below z w W
  siz : z + 3 ≤ W.heap.size
theorem FsI.grow {bs : List Nat} {pr : Nat → Bool} {F m z : Nat} {w : World} {pre : List Nat} {W W' : World} {row : Option Nat} (h : FsI bs pr F m z w pre W) (hg : W.grownBy W' row) (hr : ∀ k, row = some k → z + 2 ≤ k) : FsI bs pr F m z w pre W' :=
  ⟨h.at', h.box.kept hg (fun e => by have := hr _ e.symm; omega), h.res.kept hg (fun e => by have := hr _ e.symm; omega), h.bel.grown hg (by have := h.siz; omega) (fun k e => by have := hr k e; omega), Nat.le_trans h.siz hg.size⟩
theorem FsR.grow {bs : List Nat} {pr : Nat → Bool} {m z : Nat} {w W W' : World} {row : Option Nat} (h : FsR bs pr m z w W) (hg : W.grownBy W' row) (hr : ∀ k, row = some k → z + 2 ≤ k) : FsR bs pr m z w W' := by
  obtain ⟨i, h1, h2⟩ := h.yes
  exact ⟨⟨i, h1, h2.kept hg (fun e => by have := hr _ e.symm; omega)⟩, h.bel.grown hg (by have := h.siz; omega) (fun k e => by have := hr k e; omega), Nat.le_trans h.siz hg.size⟩
set_option maxRecDepth 100000 in
set_option maxHeartbeats 4000000 in
theorem first_yes (wb : Nat) (la : Option Addr) (lc m : Nat) (bs : List Nat) (pr : Nat → Bool) (hm : bs.length = m) (bm : m ≤ 1000000) (w : World) (c3 : w.cell? ⟨wb, 3, none⟩ = some (.slice la m lc)) (hp : PsAt w.cell? la bs)
    (hF : ∀ W, Below w.heap.size w W → ∀ i, i < m → Calls Tryz.prog 220 #[.pointer (some ⟨bs.getD i 0, 0, none⟩)] W fun e w' => e = .returned (.bool (pr i)) ∧ w' = W) :
    Calls Tryz.prog 219 #[.pointer (some ⟨wb, 3, none⟩), .func (.func 220) #[] #[]] w (FirstEnd7 bs (fstIx pr m) w) := by
  refine (callsIn_wide (n := 3)).1 ?_
  refine callsIn_of_wp_marks Tryz.func219 rfl trivial ?_ rfl
  simp only [Tryz.ntmps219, List.size_toArray, List.length_cons, List.length_nil, Nat.reduceAdd, Nat.reduceSub, Array.replicate_succ, Array.replicate_zero, List.push_toArray, List.append_toArray, List.nil_append, List.cons_append]
  gi_wp2_with (refine ⟨trivial, ?_⟩; gi_at_call 230; refine (callsIn_wide.2 (outward_any _ _)).mono ?_; rintro e w' ⟨rfl, rfl⟩)
  have b0 := ((Boxed.new w 258 (.func (.func 220) #[] #[])).alloc (.cells #[.pointer none] 225)).alloc (.cells #[.pointer (some ⟨wb, 3, none⟩)] 256)
  have b1 := (Boxed.new (w.alloc (.cells #[.func (.func 220) #[] #[]] 258)) 225 (.pointer none)).alloc (.cells #[.pointer (some ⟨wb, 3, none⟩)] 256)
  have b2 := Boxed.new ((w.alloc (.cells #[.func (.func 220) #[] #[]] 258)).alloc (.cells #[.pointer none] 225)) 256 (.pointer (some ⟨wb, 3, none⟩))
  simp only [World.size_alloc] at b0 b1 b2
  have hB0 : Below w.heap.size w (((w.alloc (.cells #[.func (.func 220) #[] #[]] 258)).alloc (.cells #[.pointer none] 225)).alloc (.cells #[.pointer (some ⟨wb, 3, none⟩)] 256)) :=
    (((Below.refl _ w).alloc (Nat.le_refl _) _).alloc (by simp) _).alloc (by simp; omega) _
  have hsz : (((w.alloc (.cells #[.func (.func 220) #[] #[]] 258)).alloc (.cells #[.pointer none] 225)).alloc (.cells #[.pointer (some ⟨wb, 3, none⟩)] 256)).heap.size = w.heap.size + 3 := by simp
  generalize (((w.alloc (.cells #[.func (.func 220) #[] #[]] 258)).alloc (.cells #[.pointer none] 225)).alloc (.cells #[.pointer (some ⟨wb, 3, none⟩)] 256)) = W0 at *
  have hT : ∀ W W', Below w.heap.size w W → KpB (w.heap.size + 2) w.heap.size W W' → W'.cell? ⟨wb, 3, none⟩ = some (.slice la m lc) ∧ PsAt W'.cell? la bs := fun W W' hW hK => by
    have hk : ∀ x v, w.cell? x = some v → W'.cell? x = some v := fun x v h => by
      have hlt := World.block_lt_of_cell? w x h
      exact (cell_same7 (hK x.block (.inr hlt))).trans ((hW.cell hlt).trans h)
    exact ⟨hk _ _ c3, hp.keep hk⟩
  refine range_feeds (b := w.heap.size + 2) (Kp := KpB (w.heap.size + 2) w.heap.size) (xs := pw bs m) (encs := fun x : Nat => #[.pointer (some ⟨x, 0, none⟩)]) rfl (by decide) (gf := 232) (lb := #[.pointer (some ⟨w.heap.size + 2, 0, none⟩)]) rfl trivial (enters_of Tryz.func232 (by kernel_rfl) rfl) (by omega)
    (fun W hW => outw_feeds 2 (by decide) _ (w.heap.size + 2) w.heap.size wb la lc m bs hm bm W ((hW.cell (p := ⟨w.heap.size + 2, 0, none⟩) (by show w.heap.size + 2 < _; omega)).trans b2.cell) (fun W' hK => hT W W' (hB0.trans (hW.mono (by omega))) hK))
    (fun h k => h.trans k) (fun W l o hl k hk => World.putObj_heap_other (by omega)) (fun _ => rfl)
    (fun pre W => FsI bs pr 220 m w.heap.size w pre W) (fun _ W => FsR bs pr m w.heap.size w W) ?hI ?hR ?hIb ?hRb ?h0
    (fun x => { tmps := #[.pointer (some ⟨wb, 3, none⟩), .func (.func 220) #[] #[], undef, .pointer (some ⟨w.heap.size, 0, none⟩), .pointer (some ⟨w.heap.size + 1, 0, none⟩), .pointer (some ⟨x, 0, none⟩), .pointer (some ⟨wb, 3, none⟩), .func (.func 232) #[] #[.pointer (some ⟨w.heap.size + 1 + 1, 0, none⟩)], .pointer (some ⟨x, 0, none⟩), undef, undef, undef, undef], defers := [] }) ?assign ?body ?done ?ret
  case assign =>
    intro l x W K hK
    gi_wp2
    exact hK
  case hI =>
    rintro pre X Y row h hg hrow
    exact h.grow hg (fun k e => by have := (hrow _ e).1; omega)
  case hR =>
    rintro pre X Y row h hg hrow
    exact h.grow hg (fun k e => by have := (hrow _ e).1; omega)
  case hIb =>
    rintro pre W v h
    exact h.grow (grownBy_setCell' _ _ _) (fun k e => by simp at e; omega)
  case hRb =>
    rintro pre W v h
    exact h.grow (grownBy_setCell' _ _ _) (fun k e => by simp at e; omega)
  case h0 => exact ⟨⟨m, Nat.le_refl _, by simp, fun i h1 h2 => by omega⟩, b0, b1, hB0, by omega⟩
  case body =>
    rintro l pre x W h hx
    obtain ⟨k, hk, hpw, hpr⟩ := h.at'
    obtain ⟨rest, hrest⟩ := hx
    rw [hpw, List.append_assoc] at hrest
    have hrest := List.append_cancel_left hrest
    cases k with
    | zero => simp [pw] at hrest
    | succ k =>
      simp only [pw, List.cons_append, List.nil_append, List.cons.injEq] at hrest
      obtain ⟨rfl, -⟩ := hrest
      have hc := hid7 (hF W h.bel k (by omega))
      have c0 := h.box.cell
      have c1 := h.res.cell
      have z1 := h.res.frozen
      have H := hid7 h
      have hsiz := h.siz
      have HPW : Hid (pw bs m = (pre ++ [bs.getD k 0]) ++ pw bs k) := hid7 (by rw [hpw]; simp [pw])
      have HPR := hid7 hpr
      clear h hpw hpr b0 b1 b2 hB0 hT hp c3 hF
      generalize hy : bs.getD k 0 = y at hc HPW
      have HY := hid7 hy
      clear hy
      cases hv : pr k with
      | true =>
        rw [hv] at hc
        have HV := hid7 hv
        clear hv
        gi_wp2_with (first | (refine ⟨trivial, ?_⟩; gi_at_call 220; refine (CallsIn.inRound l (callsIn_wide.2 hc.out)).mono ?_; rintro e w1 ⟨rfl, w1e⟩; rw [w1e]; clear w1e) | fail)
        refine ⟨(KeepsOthers.setCell _ _ _).from _, ⟨k, ?_, ?_⟩, ?_, ?_⟩
        · rw [fst_skip hk HPR.out, fstIx, if_pos HV.out]
        · rw [HY.out]; exact H.out.res.set _
        · exact H.out.bel.setCell (p := ⟨w.heap.size + 1, 0, none⟩) (by show w.heap.size ≤ w.heap.size + 1; omega) _
        · simpa using hsiz
      | false =>
        rw [hv] at hc
        have HV := hid7 hv
        clear hv
        gi_wp2_with (first | (refine ⟨trivial, ?_⟩; gi_at_call 220; refine (CallsIn.inRound l (callsIn_wide.2 hc.out)).mono ?_; rintro e w1 ⟨rfl, w1e⟩; rw [w1e]; clear w1e) | fail)
        refine ⟨(KeepsOthers.refl _).from _, KpB.refl _ _ _, ⟨k, by omega, HPW.out, fun i h1 h2 => ?_⟩, H.out.box, H.out.res, H.out.bel, H.out.siz⟩
        by_cases hik : i = k
        · rw [hik]; exact HV.out
        · exact HPR.out i (by omega) h2
  case done =>
    rintro D W hD h hK
    obtain ⟨k, hk, hpw, hpr⟩ := h.at'
    have hk0 : k = 0 := by
      have := congrArg List.length hpw
      cases k with
      | zero => rfl
      | succ k => simp [pw] at this
    subst hk0
    have HR : Hid (fstIx pr m = none) := hid7 (by rw [fst_skip (Nat.zero_le _) hpr]; rfl)
    have c1 := h.res.cell
    have z1 := h.res.frozen
    have H := hid7 h
    clear h hpw hpr b0 b1 b2 hB0 hT hp c3 hF
    gi_wp2
    have hK2 : (W.setCell ⟨w.heap.size + 1, 0, none⟩ (.pointer none)).heap[D]? = some (.deferred (some [])) := (Below.heap_setCell _ _ _ D (by show D ≠ w.heap.size + 1; omega)).trans hK
    refine ⟨by simp, .inl ⟨_, _, rfl, run_takeDeferred hK2, ?_⟩⟩
    have g1 := box_putObj7 (H.out.res.set (.pointer none)) (by omega) (D := D) (.deferred none)
    refine ⟨_, results_cell7 rfl _ _ _ ⟨w.heap.size + 1, 0, none⟩ _ rfl (load_ptr7 g1.cell), ?_⟩
    exact ⟨by rw [HR.out]; rfl, below_putObj7 (H.out.bel.setCell (p := ⟨w.heap.size + 1, 0, none⟩) (by show w.heap.size ≤ w.heap.size + 1; omega) _) (by omega) _ (Array.getElem?_eq_some_iff.1 hK2).1⟩
  case ret =>
    rintro D pre W hD h hK
    obtain ⟨i, h1, h2⟩ := h.yes
    have HR := hid7 h1
    have H := hid7 h
    have H2 := hid7 h2
    clear b0 b1 b2 hB0 hT h h1 h2 hp c3 hF
    gi_wp2
    refine ⟨by simp, .inl ⟨_, _, rfl, run_takeDeferred hK, ?_⟩⟩
    have g1 := box_putObj7 H2.out (by omega) (D := D) (.deferred none)
    refine ⟨_, results_cell7 rfl _ _ _ ⟨w.heap.size + 1, 0, none⟩ _ rfl (load_ptr7 g1.cell), ?_⟩
    exact ⟨by rw [HR.out]; rfl, below_putObj7 H.out.bel (by omega) _ (Array.getElem?_eq_some_iff.1 hK).1⟩
set_option maxRecDepth 100000 in
set_option maxHeartbeats 4000000 in
theorem first_loop (wb : Nat) (la : Option Addr) (lc m : Nat) (bs : List Nat) (pr : Nat → Bool) (hm : bs.length = m) (bm : m ≤ 1000000) (w : World) (c3 : w.cell? ⟨wb, 3, none⟩ = some (.slice la m lc)) (hp : PsAt w.cell? la bs)
    (hF : ∀ W, Below w.heap.size w W → ∀ i, i < m → Calls Tryz.prog 221 #[.pointer (some ⟨bs.getD i 0, 0, none⟩)] W fun e w' => e = .returned (.bool (pr i)) ∧ w' = W) :
    Calls Tryz.prog 219 #[.pointer (some ⟨wb, 3, none⟩), .func (.func 221) #[] #[]] w (FirstEnd7 bs (fstIx pr m) w) := by
  refine (callsIn_wide (n := 3)).1 ?_
  refine callsIn_of_wp_marks Tryz.func219 rfl trivial ?_ rfl
  simp only [Tryz.ntmps219, List.size_toArray, List.length_cons, List.length_nil, Nat.reduceAdd, Nat.reduceSub, Array.replicate_succ, Array.replicate_zero, List.push_toArray, List.append_toArray, List.nil_append, List.cons_append]
  gi_wp2_with (refine ⟨trivial, ?_⟩; gi_at_call 230; refine (callsIn_wide.2 (outward_any _ _)).mono ?_; rintro e w' ⟨rfl, rfl⟩)
  have b0 := ((Boxed.new w 258 (.func (.func 221) #[] #[])).alloc (.cells #[.pointer none] 225)).alloc (.cells #[.pointer (some ⟨wb, 3, none⟩)] 256)
  have b1 := (Boxed.new (w.alloc (.cells #[.func (.func 221) #[] #[]] 258)) 225 (.pointer none)).alloc (.cells #[.pointer (some ⟨wb, 3, none⟩)] 256)
  have b2 := Boxed.new ((w.alloc (.cells #[.func (.func 221) #[] #[]] 258)).alloc (.cells #[.pointer none] 225)) 256 (.pointer (some ⟨wb, 3, none⟩))
  simp only [World.size_alloc] at b0 b1 b2
  have hB0 : Below w.heap.size w (((w.alloc (.cells #[.func (.func 221) #[] #[]] 258)).alloc (.cells #[.pointer none] 225)).alloc (.cells #[.pointer (some ⟨wb, 3, none⟩)] 256)) :=
    (((Below.refl _ w).alloc (Nat.le_refl _) _).alloc (by simp) _).alloc (by simp; omega) _
  have hsz : (((w.alloc (.cells #[.func (.func 221) #[] #[]] 258)).alloc (.cells #[.pointer none] 225)).alloc (.cells #[.pointer (some ⟨wb, 3, none⟩)] 256)).heap.size = w.heap.size + 3 := by simp
  generalize (((w.alloc (.cells #[.func (.func 221) #[] #[]] 258)).alloc (.cells #[.pointer none] 225)).alloc (.cells #[.pointer (some ⟨wb, 3, none⟩)] 256)) = W0 at *
  have hT : ∀ W W', Below w.heap.size w W → KpB (w.heap.size + 2) w.heap.size W W' → W'.cell? ⟨wb, 3, none⟩ = some (.slice la m lc) ∧ PsAt W'.cell? la bs := fun W W' hW hK => by
    have hk : ∀ x v, w.cell? x = some v → W'.cell? x = some v := fun x v h => by
      have hlt := World.block_lt_of_cell? w x h
      exact (cell_same7 (hK x.block (.inr hlt))).trans ((hW.cell hlt).trans h)
    exact ⟨hk _ _ c3, hp.keep hk⟩
  refine range_feeds (b := w.heap.size + 2) (Kp := KpB (w.heap.size + 2) w.heap.size) (xs := pw bs m) (encs := fun x : Nat => #[.pointer (some ⟨x, 0, none⟩)]) rfl (by decide) (gf := 232) (lb := #[.pointer (some ⟨w.heap.size + 2, 0, none⟩)]) rfl trivial (enters_of Tryz.func232 (by kernel_rfl) rfl) (by omega)
    (fun W hW => outw_feeds 2 (by decide) _ (w.heap.size + 2) w.heap.size wb la lc m bs hm bm W ((hW.cell (p := ⟨w.heap.size + 2, 0, none⟩) (by show w.heap.size + 2 < _; omega)).trans b2.cell) (fun W' hK => hT W W' (hB0.trans (hW.mono (by omega))) hK))
    (fun h k => h.trans k) (fun W l o hl k hk => World.putObj_heap_other (by omega)) (fun _ => rfl)
    (fun pre W => FsI bs pr 221 m w.heap.size w pre W) (fun _ W => FsR bs pr m w.heap.size w W) ?hI ?hR ?hIb ?hRb ?h0
    (fun x => { tmps := #[.pointer (some ⟨wb, 3, none⟩), .func (.func 221) #[] #[], undef, .pointer (some ⟨w.heap.size, 0, none⟩), .pointer (some ⟨w.heap.size + 1, 0, none⟩), .pointer (some ⟨x, 0, none⟩), .pointer (some ⟨wb, 3, none⟩), .func (.func 232) #[] #[.pointer (some ⟨w.heap.size + 1 + 1, 0, none⟩)], .pointer (some ⟨x, 0, none⟩), undef, undef, undef, undef], defers := [] }) ?assign ?body ?done ?ret
  case assign =>
    intro l x W K hK
    gi_wp2
    exact hK
  case hI =>
    rintro pre X Y row h hg hrow
    exact h.grow hg (fun k e => by have := (hrow _ e).1; omega)
  case hR =>
    rintro pre X Y row h hg hrow
    exact h.grow hg (fun k e => by have := (hrow _ e).1; omega)
  case hIb =>
    rintro pre W v h
    exact h.grow (grownBy_setCell' _ _ _) (fun k e => by simp at e; omega)
  case hRb =>
    rintro pre W v h
    exact h.grow (grownBy_setCell' _ _ _) (fun k e => by simp at e; omega)
  case h0 => exact ⟨⟨m, Nat.le_refl _, by simp, fun i h1 h2 => by omega⟩, b0, b1, hB0, by omega⟩
  case body =>
    rintro l pre x W h hx
    obtain ⟨k, hk, hpw, hpr⟩ := h.at'
    obtain ⟨rest, hrest⟩ := hx
    rw [hpw, List.append_assoc] at hrest
    have hrest := List.append_cancel_left hrest
    cases k with
    | zero => simp [pw] at hrest
    | succ k =>
      simp only [pw, List.cons_append, List.nil_append, List.cons.injEq] at hrest
      obtain ⟨rfl, -⟩ := hrest
      have hc := hid7 (hF W h.bel k (by omega))
      have c0 := h.box.cell
      have c1 := h.res.cell
      have z1 := h.res.frozen
      have H := hid7 h
      have hsiz := h.siz
      have HPW : Hid (pw bs m = (pre ++ [bs.getD k 0]) ++ pw bs k) := hid7 (by rw [hpw]; simp [pw])
      have HPR := hid7 hpr
      clear h hpw hpr b0 b1 b2 hB0 hT hp c3 hF
      generalize hy : bs.getD k 0 = y at hc HPW
      have HY := hid7 hy
      clear hy
      cases hv : pr k with
      | true =>
        rw [hv] at hc
        have HV := hid7 hv
        clear hv
        gi_wp2_with (first | (refine ⟨trivial, ?_⟩; gi_at_call 221; refine (CallsIn.inRound l (callsIn_wide.2 hc.out)).mono ?_; rintro e w1 ⟨rfl, w1e⟩; rw [w1e]; clear w1e) | fail)
        refine ⟨(KeepsOthers.setCell _ _ _).from _, ⟨k, ?_, ?_⟩, ?_, ?_⟩
        · rw [fst_skip hk HPR.out, fstIx, if_pos HV.out]
        · rw [HY.out]; exact H.out.res.set _
        · exact H.out.bel.setCell (p := ⟨w.heap.size + 1, 0, none⟩) (by show w.heap.size ≤ w.heap.size + 1; omega) _
        · simpa using hsiz
      | false =>
        rw [hv] at hc
        have HV := hid7 hv
        clear hv
        gi_wp2_with (first | (refine ⟨trivial, ?_⟩; gi_at_call 221; refine (CallsIn.inRound l (callsIn_wide.2 hc.out)).mono ?_; rintro e w1 ⟨rfl, w1e⟩; rw [w1e]; clear w1e) | fail)
        refine ⟨(KeepsOthers.refl _).from _, KpB.refl _ _ _, ⟨k, by omega, HPW.out, fun i h1 h2 => ?_⟩, H.out.box, H.out.res, H.out.bel, H.out.siz⟩
        by_cases hik : i = k
        · rw [hik]; exact HV.out
        · exact HPR.out i (by omega) h2
  case done =>
    rintro D W hD h hK
    obtain ⟨k, hk, hpw, hpr⟩ := h.at'
    have hk0 : k = 0 := by
      have := congrArg List.length hpw
      cases k with
      | zero => rfl
      | succ k => simp [pw] at this
    subst hk0
    have HR : Hid (fstIx pr m = none) := hid7 (by rw [fst_skip (Nat.zero_le _) hpr]; rfl)
    have c1 := h.res.cell
    have z1 := h.res.frozen
    have H := hid7 h
    clear h hpw hpr b0 b1 b2 hB0 hT hp c3 hF
    gi_wp2
    have hK2 : (W.setCell ⟨w.heap.size + 1, 0, none⟩ (.pointer none)).heap[D]? = some (.deferred (some [])) := (Below.heap_setCell _ _ _ D (by show D ≠ w.heap.size + 1; omega)).trans hK
    refine ⟨by simp, .inl ⟨_, _, rfl, run_takeDeferred hK2, ?_⟩⟩
    have g1 := box_putObj7 (H.out.res.set (.pointer none)) (by omega) (D := D) (.deferred none)
    refine ⟨_, results_cell7 rfl _ _ _ ⟨w.heap.size + 1, 0, none⟩ _ rfl (load_ptr7 g1.cell), ?_⟩
    exact ⟨by rw [HR.out]; rfl, below_putObj7 (H.out.bel.setCell (p := ⟨w.heap.size + 1, 0, none⟩) (by show w.heap.size ≤ w.heap.size + 1; omega) _) (by omega) _ (Array.getElem?_eq_some_iff.1 hK2).1⟩
  case ret =>
    rintro D pre W hD h hK
    obtain ⟨i, h1, h2⟩ := h.yes
    have HR := hid7 h1
    have H := hid7 h
    have H2 := hid7 h2
    clear b0 b1 b2 hB0 hT h h1 h2 hp c3 hF
    gi_wp2
    refine ⟨by simp, .inl ⟨_, _, rfl, run_takeDeferred hK, ?_⟩⟩
    have g1 := box_putObj7 H2.out (by omega) (D := D) (.deferred none)
    refine ⟨_, results_cell7 rfl _ _ _ ⟨w.heap.size + 1, 0, none⟩ _ rfl (load_ptr7 g1.cell), ?_⟩
    exact ⟨by rw [HR.out]; rfl, below_putObj7 H.out.bel (by omega) _ (Array.getElem?_eq_some_iff.1 hK).1⟩
end Go.Proofs.YtfnpngbcnmglfaaGreat
