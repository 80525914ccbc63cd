/- Layer 17: message.Fold of any records. -/
import Derived.Test.YtaonchdpnllhpaaMF
namespace Go.Proofs.Ytaonchdpnllhpaa
open Go.RowKit
theorem FolEnd.bool {b base : Nat} {o : Option St17} {w : World} {v : Value} {e : Ending} {w' : World} (h : FolEnd b base o w v e w') : ∃ y, e = .returned (.bool y) := by
  rcases h with ⟨_, h2, _⟩ | ⟨_, _, _, h2, _⟩
  · exact ⟨_, h2⟩
  · exact ⟨_, h2⟩
theorem FolEnd.after {b base : Nat} {o : Option St17} {w w1 : World} {v : Value} {e : Ending} {w' : World} (hb : Below w.heap.size w w1) (h : FolEnd b base o w1 v e w') : FolEnd b base o w v e w' := by
  rcases h with ⟨h1, h2, v', h3⟩ | ⟨t, v', h1, h2, h3, h4⟩
  · exact .inl ⟨h1, h2, v', (SStep.below hb).trans h3⟩
  · exact .inr ⟨t, v', h1, h2, h3, (SStep.below hb).trans h4⟩
/-- A record whose log lies there. -/
structure RIs (C : Addr → Option Value) (r : Rec17) (a : Option Addr) (n : Nat) : Prop where
  len : r.log.length = n
  es : EsAt C a r.log
  sm : ∀ x ∈ r.log, x.d.length ≤ 9223372036854775807
  lm : r.log.length ≤ 9000000000000
set_option maxRecDepth 100000 in
set_option maxHeartbeats 1000000 in
theorem follow_any17 (w0 : World) (b base : Nat) (s : St17) (v : Value) (r : Rec17) (a : Option Addr) (n c : Nat) (w : World) (H : SAt w base b s v) (hm : s.log.length ≤ 2048) (hr : RIs w0.cell? r a n) (hb0 : Below w0.heap.size w0 w) (hbase : w0.heap.size ≤ base) (hbb : w0.heap.size ≤ b) (hbs : base ≤ w.heap.size) : Calls Try.prog 43 #[.pointer (some ⟨b, 0, none⟩), recV r.kd r.vw r.nm r.op (.slice a n c)] w (FolEnd b base (fol s r) w v) := by
  obtain ⟨hn, hN, hsm, hlm⟩ := hr
  obtain ⟨W1, hW1⟩ : ∃ W, W = w.alloc (.cells #[.int .i64 r.kd, .int .i64 r.vw, .int .i64 r.nm, .int .i64 r.op, .slice a n c] 85) := ⟨_, rfl⟩
  have hb1 : Below w.heap.size w W1 := by rw [hW1]; exact (Below.refl _ w).alloc (Nat.le_refl _) _
  have hB1 : W1.heap[w.heap.size]? = some (.cells #[.int .i64 r.kd, .int .i64 r.vw, .int .i64 r.nm, .int .i64 r.op, .slice a n c] 85 (0, 0)) := by rw [hW1]; exact heap_alloc_new w _
  have box : ∀ W, Below W1.heap.size W1 W → W.cell? ⟨w.heap.size, 0, none⟩ = some (.int .i64 r.kd) ∧ W.cell? ⟨w.heap.size, 1, none⟩ = some (.int .i64 r.vw) ∧ W.cell? ⟨w.heap.size, 2, none⟩ = some (.int .i64 r.nm) ∧ W.cell? ⟨w.heap.size, 3, none⟩ = some (.int .i64 r.op) ∧ W.cell? ⟨w.heap.size, 4, none⟩ = some (.slice a n c) := fun W h => by
    have e := (h.block _ (lt_of_block hB1)).trans hB1
    refine ⟨?_, ?_, ?_, ?_, ?_⟩ <;> (rw [Lib.cell_of_heap e]; rfl)
  have hbw : Below w0.heap.size w0 W1 := hb0.trans (hb1.mono hb0.size)
  have hR := rightRec17_any r a n c W1 hn (hN.keep (below_keep hbw)) hsm
  have hA : ∀ W, Below W1.heap.size W1 W → ∀ e w', FolEnd b base (fol s r) W v e w' → FolEnd b base (fol s r) w v e w' := fun W hW e w' h => h.after (hb1.trans (hW.mono hb1.size))
  have hS : ∀ W, Below W1.heap.size W1 W → SAt W base b s v ∧ Below w0.heap.size w0 W ∧ base ≤ W.heap.size := fun W hW => ⟨H.below (hb1.trans (hW.mono hb1.size)), hbw.trans (hW.mono hbw.size), Nat.le_trans hbs (hb1.trans (hW.mono hb1.size)).size⟩
  have hfol : fol s r = if r.ok = false then none else if r.kd = 1 then folV s r.vw r.nm else if r.kd = 2 then folL s r.op.toNat r.log else folC s r.op := rfl
  have hfacts : r.ok = true → ((1 ≤ r.kd ∧ r.kd ≤ 3) ∧ 0 ≤ r.op ∧ r.op ≤ 1099511627776) ∧ ∀ x ∈ r.log, x.d.length ≤ 281474976710656 := fun h => by
    obtain ⟨a, _, _, b, c⟩ := Rec17.facts h
    exact ⟨⟨a, b⟩, fun x hx => Nat.le_trans (Ent.facts ((logOk.facts c).2 x hx)).2.2 (by decide)⟩
  have hV : ∀ W, Below W1.heap.size W1 W → Calls Try.prog 61 #[.pointer (some ⟨b, 0, none⟩), .int .i64 r.vw, .int .i64 r.nm] W (FolEnd b base (folV s r.vw r.nm) W v) := fun W hW => rise_any17 b base s v _ _ W (hS W hW).1
  have hC : ∀ W, Below W1.heap.size W1 W → Calls Try.prog 63 #[.pointer (some ⟨b, 0, none⟩), .int .i64 r.op] W (FolEnd b base (folC s r.op) W v) := fun W hW => commit_any17 b base s v _ W (hS W hW).1
  have hL : (∀ x ∈ r.log, x.d.length ≤ 281474976710656) → ∀ k : Nat, r.op = k → k ≤ 1099511627776 → ∀ W, Below W1.heap.size W1 W → Calls Try.prog 62 #[.pointer (some ⟨b, 0, none⟩), .int .i64 k, .slice a n c] W (FolEnd b base (folL s k r.log) W v) := fun hx k _ hk W hW => relog_any17 w0 b base s v k a n c r.log W (hS W hW).1 hm hn (by omega) (by omega) hN hx (hS W hW).2.1 hbase hbb (hS W hW).2.2
  clear hn hN hsm hlm H hB1 hbw hS
  obtain ⟨kd, vw, nm, op, L⟩ := r
  simp only at *
  generalize fol s ⟨kd, vw, nm, op, L⟩ = o at *
  generalize hok : Rec17.ok ⟨kd, vw, nm, op, L⟩ = ok at *
  clear hok
  cases ok with
  | false =>
    simp only [if_true] at hfol
    have HE := hid hfol
    clear hfol hA hV hC hL hfacts
    go_enter Try.func43, Try.ntmps43
    go_wp2_with fail
    rw [← hW1]
    clear hW1
    refine hR.mono ?_
    rintro e w2 ⟨rfl, hb2⟩
    clear hR
    go_wp2_with fail
    go_ret
    exact .inl ⟨HE.out, rfl, _, SStep.below (hb1.trans (hb2.mono hb1.size))⟩
  | true =>
    obtain ⟨⟨⟨k1, k2⟩, k3, k4⟩, k5⟩ := hfacts rfl
    simp only [Bool.true_eq_false, if_false] at hfol
    by_cases e1 : kd = 1
    · rw [if_pos e1] at hfol
      subst e1
      have HE := hid hfol
      clear hfol hC hL hfacts k5
      go_enter Try.func43, Try.ntmps43
      go_wp2_with fail
      rw [← hW1]
      clear hW1
      refine hR.mono ?_
      rintro e w2 ⟨rfl, hb2⟩
      clear hR
      obtain ⟨x0, x1, x2, x3, x4⟩ := box w2 hb2
      have hV2 := hV w2 hb2
      rw [← HE.out] at hV2
      clear hV box
      go_wp2_with (go_at_call 61; refine hV2.mono ?_; clear hV2; rintro e w3 hX; obtain ⟨y, rfl⟩ := hX.bool; have hX2 := hA w2 hb2 _ _ hX; clear hX)
      go_ret
      exact hX2
    · rw [if_neg e1] at hfol
      have d1 : decide (kd = 1) = false := decide_eq_false e1
      by_cases e2 : kd = 2
      · rw [if_pos e2] at hfol
        subst e2
        obtain ⟨k, rfl⟩ : ∃ k : Nat, op = k := ⟨op.toNat, by omega⟩
        rw [Int.toNat_natCast] at hfol
        have HE := hid hfol
        have hL2 := hL k5 k rfl (by omega)
        clear hfol hC hL hfacts hV k5
        go_enter Try.func43, Try.ntmps43
        go_wp2_with fail
        rw [← hW1]
        clear hW1
        refine hR.mono ?_
        rintro e w2 ⟨rfl, hb2⟩
        clear hR
        obtain ⟨x0, x1, x2, x3, x4⟩ := box w2 hb2
        have hL3 := hL2 w2 hb2
        rw [← HE.out] at hL3
        clear hL2 box
        go_wp2_with (go_at_call 62; refine hL3.mono ?_; clear hL3; rintro e w3 hX; obtain ⟨y, rfl⟩ := hX.bool; have hX2 := hA w2 hb2 _ _ hX; clear hX)
        go_ret
        exact hX2
      · obtain rfl : kd = 3 := by omega
        rw [if_neg e2] at hfol
        have HE := hid hfol
        clear hfol hL hfacts hV k5
        go_enter Try.func43, Try.ntmps43
        go_wp2_with fail
        rw [← hW1]
        clear hW1
        refine hR.mono ?_
        rintro e w2 ⟨rfl, hb2⟩
        clear hR
        obtain ⟨x0, x1, x2, x3, x4⟩ := box w2 hb2
        have hC2 := hC w2 hb2
        rw [← HE.out] at hC2
        clear hC box
        go_wp2_with (go_at_call 63; refine hC2.mono ?_; clear hC2; rintro e w3 hX; obtain ⟨y, rfl⟩ := hX.bool; have hX2 := hA w2 hb2 _ _ hX; clear hX)
        go_ret
        exact hX2
/-- Records lie there. -/
def RsAt17 (C : Addr → Option Value) (ao : Option Addr) (R : List Rec17) : Prop := R = [] ∨ ∃ b off, ao = some ⟨b, off, none⟩ ∧ ∀ j (h : j < R.length), C ⟨b, off + j * 5, none⟩ = some (.int .i64 R[j].kd) ∧ C ⟨b, off + j * 5 + 1, none⟩ = some (.int .i64 R[j].vw) ∧ C ⟨b, off + j * 5 + 2, none⟩ = some (.int .i64 R[j].nm) ∧ C ⟨b, off + j * 5 + 3, none⟩ = some (.int .i64 R[j].op) ∧ ∃ a c, C ⟨b, off + j * 5 + 4, none⟩ = some (.slice a R[j].log.length c) ∧ RIs C R[j] a R[j].log.length
theorem RIs.keep {C C' : Addr → Option Value} {r : Rec17} {a : Option Addr} {n : Nat} (h : RIs C r a n) (hk : ∀ a v, C a = some v → C' a = some v) : RIs C' r a n := ⟨h.len, h.es.keep hk, h.sm, h.lm⟩
theorem RsAt17.keep {C C' : Addr → Option Value} {ao : Option Addr} {R : List Rec17} (h : RsAt17 C ao R) (hk : ∀ a v, C a = some v → C' a = some v) : RsAt17 C' ao R := by
  rcases h with h | ⟨b, off, h, hc⟩
  · exact .inl h
  · refine .inr ⟨b, off, h, fun j hj => ?_⟩
    obtain ⟨h0, h1, h2, h3, a, c, h4, h5⟩ := hc j hj
    exact ⟨hk _ _ h0, hk _ _ h1, hk _ _ h2, hk _ _ h3, a, c, hk _ _ h4, h5.keep hk⟩
theorem RsAt17.get {C : Addr → Option Value} {ao : Option Addr} {R : List Rec17} (h : RsAt17 C ao R) {j : Nat} (hj : j < R.length) : ∃ b off, ao = some ⟨b, off, none⟩ ∧ C ⟨b, off + j * 5, none⟩ = some (.int .i64 R[j].kd) ∧ C ⟨b, off + j * 5 + 1, none⟩ = some (.int .i64 R[j].vw) ∧ C ⟨b, off + j * 5 + 2, none⟩ = some (.int .i64 R[j].nm) ∧ C ⟨b, off + j * 5 + 3, none⟩ = some (.int .i64 R[j].op) ∧ ∃ a c, C ⟨b, off + j * 5 + 4, none⟩ = some (.slice a R[j].log.length c) ∧ RIs C R[j] a R[j].log.length := by
  rcases h with h | ⟨b, off, h, hc⟩
  · subst h; simp at hj
  · exact ⟨b, off, h, hc j hj⟩
theorem fol_len {s t : St17} {r : Rec17} (h : fol s r = some t) (hs : s.log.length ≤ 2048) : t.log.length ≤ 2048 := by
  unfold fol at h
  split at h
  · cases h
  split at h
  · unfold folV at h; split at h
    · cases h
    · injection h with h; subst h; exact hs
  split at h
  · unfold folL at h; split at h
    · cases h
    · injection h with h; subst h
      simp only [List.length_append, List.length_take]
      omega
  · unfold folC at h; split at h
    · cases h
    · injection h with h; subst h; exact hs
theorem foldS_cons (s : St17) (r : Rec17) (l : List Rec17) : foldS s (r :: l) = (fol s r).bind fun t => foldS t l := by
  show (match fol s r with | none => none | some t => foldS t l) = _
  cases fol s r <;> rfl
theorem foldS_append (R T : List Rec17) : ∀ s, foldS s (R ++ T) = (foldS s R).bind fun t => foldS t T := by
  induction R with
  | nil => intro s; rfl
  | cons r R ih =>
    intro s
    rw [List.cons_append, foldS_cons, foldS_cons]
    cases fol s r with
    | none => rfl
    | some t => exact ih t
def zeroS : St17 := ⟨0, 0, 0, []⟩
theorem fold_take_none {R : List Rec17} {k : Nat} (h : foldS zeroS (R.take k) = none) : foldS zeroS R = none := by
  rw [← List.take_append_drop k R, foldS_append, h]
  rfl
theorem fold_take_succ {R : List Rec17} {k : Nat} {s : St17} (hk : k < R.length) (h : foldS zeroS (R.take k) = some s) : foldS zeroS (R.take (k + 1)) = fol s R[k] := by
  rw [List.take_add_one, List.getElem?_eq_getElem hk, Option.toList_some, foldS_append, h]
  show foldS s [R[k]] = _
  rw [foldS_cons]
  cases fol s R[k] <;> rfl
/-- How Fold ends: the state, or a zero one. -/
def FoldEnd (R : List Rec17) (w : World) (e : Ending) (w' : World) : Prop := Below w.heap.size w w' ∧ ((foldS zeroS R = none ∧ e = .returned (.tuple #[.agg #[.int .i64 0, .int .i64 0, .int .i64 0, .slice none 0 0], .bool false])) ∨ ∃ s a c, foldS zeroS R = some s ∧ e = .returned (.tuple #[.agg #[.int .i64 s.vw, .int .i64 s.nm, .int .i64 s.cm, .slice a s.log.length c], .bool true]) ∧ w'.ownsRow (w.heap.size + 1) 56 2 (.slice a s.log.length c) s.log.length (cellsE s.log))
theorem load_st {w : World} {b : Nat} {x0 x1 x2 x3 : Value} (h : w.heap[b]? = some (.cells #[x0, x1, x2, x3] 29 (0, 0))) : (loadVar 29 ⟨b, 0, none⟩).run Try.prog w = .ok (.agg #[x0, x1, x2, x3]) w := by
  simp [loadVar, go_sem, Lib.cell_of_heap h]
theorem ret_mix {fn : Func} {t u : Tmp} {ty : TypeId} (h : fn.results = #[.cell t ty, .tmp u]) (tmps : Array Value) (P : Program) (w : World) (a : Addr) (v : Value) (ha : tmps[t]?.getD undef = .pointer (some a)) (hl : (loadVar ty a).run P w = .ok v w) :
    (results fn tmps).run P w = .ok (.tuple #[v, tmps[u]?.getD undef]) w := by
  simp [results, h, ha, asAddr, hl]
theorem ret_box2 {P : Program} {fn : Func} {R : Ending → World → Prop} {a : Act} {t u : Tmp} {T : TypeId} {W : World} {b : Nat} {v z : Value} (h : fn.results = #[.cell t T, .tmp u]) (ha : a.tmps[t]?.getD undef = .pointer (some ⟨b, 0, none⟩)) (hd : a.defers = []) (hu : a.tmps[u]?.getD undef = z) (hl : (loadVar T ⟨b, 0, none⟩).run P W = .ok v W) (hR : R (.returned (.tuple #[v, z])) W) : bodyPost P fn R .ret a W :=
  bodyPost_ret (by rw [ret_mix h _ _ _ _ _ ha hl, hu]) hd hR
set_option maxRecDepth 100000 in
set_option maxHeartbeats 1000000 in
theorem fold_any17 (a : Option Addr) (n c : Nat) (R : List Rec17) (w : World) (hn : R.length = n) (hN : RsAt17 w.cell? a R) (hm : n ≤ 9000000000000) : Calls Try.prog 27 #[.slice a n c] w (FoldEnd R w) := by
  obtain ⟨W1, hW1⟩ : ∃ W, W = (w.alloc (.cells #[.int .i64 0, .int .i64 0, .int .i64 0, .slice none 0 0] 29)).alloc (.cells #[.int .i64 0, .int .i64 0, .int .i64 0, .slice none 0 0] 29) := ⟨_, rfl⟩
  have hz1 : W1.heap.size = w.heap.size + 2 := by rw [hW1]; simp
  have hb1 : Below w.heap.size w W1 := by rw [hW1]; exact (two_boxes _ _ _ _ _).2
  have hB1 : W1.heap[w.heap.size + 1]? = some (.cells #[.int .i64 0, .int .i64 0, .int .i64 0, .slice none 0 0] 29 (0, 0)) := by rw [hW1]; exact (two_boxes _ _ _ _ _).1
  have hR1 : W1.heap[w.heap.size]? = some (.cells #[.int .i64 0, .int .i64 0, .int .i64 0, .slice none 0 0] 29 (0, 0)) := by rw [hW1, Below.heap_alloc _ _ _ (by simp)]; exact heap_alloc_new w _
  have hS1 : SAt W1 (w.heap.size + 1) (w.heap.size + 1) zeroS (.slice none 0 0) := ⟨hB1, World.ownsRow_nil _ _ _ _⟩
  have HN := hid hn
  have HZ := hid hN
  clear hn hN
  go_enter Try.func27, Try.ntmps27
  go_wp2_with fail
  rw [← hW1]
  clear hW1
  go_loopw [9] (fun iv wr => ∃ (k : Nat) (s : St17) (v : Value), iv = .int .i64 k ∧ k ≤ n ∧ Hid (foldS zeroS (R.take k) = some s) ∧ Hid (s.log.length ≤ 2048 ∧ SAt wr (w.heap.size + 1) (w.heap.size + 1) s v ∧ SStep (w.heap.size + 1) W1 (.slice none 0 0) wr v)) (fun iv _ => n - (intOf iv).toNat)
  case atStart => exact ⟨0, zeroS, _, rfl, Nat.zero_le _, hid (by rw [List.take_zero]; rfl), hid ⟨by decide, hS1, SStep.refl _ _ _⟩⟩
  case round =>
    obtain ⟨k, s, v, rfl, hk, HF, HS⟩ := hrel
    have hbr : Below w.heap.size w wr := HS.out.2.2.bel hb1 (by omega) (fun k e => by cases e)
    have keep : ∀ {w9 : World} {v9 : Value}, SStep (w.heap.size + 1) W1 (.slice none 0 0) w9 v9 → w9.heap[w.heap.size]? = some (.cells #[.int .i64 0, .int .i64 0, .int .i64 0, .slice none 0 0] 29 (0, 0)) := fun h => (h.1.block _ (by omega) (fun e => by
      rcases e with e | e
      · omega
      · cases e)).trans hR1
    by_cases hlt : k < n
    · have hkl : k < R.length := by rw [HN.out]; exact hlt
      obtain ⟨zb, zo, e1, y0, y1, y2, y3, la, lc, y4, hI⟩ := HZ.out.get hkl
      have z0 := below_keep hbr _ _ y0
      have z1 := below_keep hbr _ _ y1
      have z2 := below_keep hbr _ _ y2
      have z3 := below_keep hbr _ _ y3
      have z4 := below_keep hbr _ _ y4
      clear y0 y1 y2 y3 y4
      subst e1
      have hnext := fold_take_succ hkl HF.out
      have hnone : fol s R[k] = none → foldS zeroS R = none := fun h => fold_take_none (k := k + 1) (by rw [hnext]; exact h)
      obtain ⟨W2, hW2⟩ : ∃ W, W = wr.alloc (.cells #[.int .i64 R[k].kd, .int .i64 R[k].vw, .int .i64 R[k].nm, .int .i64 R[k].op, .slice la R[k].log.length lc] 85) := ⟨_, rfl⟩
      have hb2 : Below wr.heap.size wr W2 := by rw [hW2]; exact (Below.refl _ wr).alloc (Nat.le_refl _) _
      have hC := follow_any17 w (w.heap.size + 1) (w.heap.size + 1) s v R[k] la R[k].log.length lc W2 (HS.out.2.1.below hb2) HS.out.1 hI (hbr.trans (hb2.mono hbr.size)) (by omega) (by omega) (by have := HS.out.2.2.1.size; have := hb2.size; omega)
      have hst : ∀ w9 v9, SStep (w.heap.size + 1) W2 v w9 v9 → SStep (w.heap.size + 1) W1 (.slice none 0 0) w9 v9 := fun w9 v9 h => (HS.out.2.2.trans (SStep.below hb2)).trans h
      have HL := hid fun t (h : fol s R[k] = some t) => fol_len h HS.out.1
      have HX := hid hnext
      have HO := hid hnone
      clear hnext hnone hI HZ HF
      generalize fol s R[k] = o at *
      generalize R[k].kd = kd at *
      generalize R[k].vw = vw at *
      generalize R[k].nm = nm at *
      generalize R[k].op = op at *
      generalize R[k].log.length = ll at *
      generalize hP : R.take (k + 1) = P at *
      have HP := hid hP
      clear hP HS
      cases o with
      | none =>
        go_wp2_with fail
        rw [← hW2]
        clear hW2
        refine hC.mono ?_
        rintro e w3 (⟨_, rfl, v', h3⟩ | ⟨t, _, h, _⟩)
        · have hS3 := hst _ _ h3
          have b3 := keep hS3
          have hB3 : Below w.heap.size w w3 := hS3.bel hb1 (by omega) (fun k e => by cases e)
          have r0 : w3.cell? ⟨w.heap.size, 0, none⟩ = some (.int .i64 0) := by rw [Lib.cell_of_heap b3]; rfl
          have r1 : w3.cell? ⟨w.heap.size, 1, none⟩ = some (.int .i64 0) := by rw [Lib.cell_of_heap b3]; rfl
          have r2 : w3.cell? ⟨w.heap.size, 2, none⟩ = some (.int .i64 0) := by rw [Lib.cell_of_heap b3]; rfl
          have r3 : w3.cell? ⟨w.heap.size, 3, none⟩ = some (.slice none 0 0) := by rw [Lib.cell_of_heap b3]; rfl
          have f0 := Lib.frozen_of_heap b3 0
          have f1 := Lib.frozen_of_heap b3 1
          have f2 := Lib.frozen_of_heap b3 2
          have f3 := Lib.frozen_of_heap b3 3
          have fin : FoldEnd R w (.returned (.tuple #[.agg #[.int .i64 0, .int .i64 0, .int .i64 0, .slice none 0 0], .bool false])) (setN w3 w.heap.size 0 [.int .i64 0, .int .i64 0, .int .i64 0, .slice none 0 0]) := ⟨setN_below _ _ hB3 (Nat.le_refl _) (Nat.le_refl _), .inl ⟨HO.out (by trivial), rfl⟩⟩
          have hset := setN_all [.int .i64 0, .int .i64 0, .int .i64 0, .slice none 0 0] b3 rfl
          clear hC keep hst hS3 b3 hB3 h3
          go_wp2_with fail
          exact ret_box2 rfl rfl rfl rfl (load_st hset) fin
        · cases h
      | some t =>
        go_wp2_with fail
        rw [← hW2]
        clear hW2
        refine hC.mono ?_
        rintro e w3 (⟨h, _⟩ | ⟨t', v', h, rfl, h3, h4⟩)
        · cases h
        · injection h with h
          subst h
          have hS3 := hst _ _ h4
          have HA := hid (show t.log.length ≤ 2048 ∧ SAt w3 (w.heap.size + 1) (w.heap.size + 1) t v' ∧ SStep (w.heap.size + 1) W1 (.slice none 0 0) w3 v' from ⟨HL.out t (by trivial), h3, hS3⟩)
          clear hC keep hst hS3 h3 h4
          go_wp2_with fail
          exact ⟨⟨k + 1, t, v', by go_num, by omega, by rw [HP.out]; exact HX, HA⟩, by simp [intOf]; omega⟩
    · have e : R.take k = R := List.take_of_length_le (by rw [HN.out]; omega)
      have HE := hid HF.out
      rw [e] at HE
      obtain ⟨_, h3, h4⟩ := HS.out
      have b3 := keep h4
      obtain ⟨va, vc, rfl, _, _, _⟩ := row_form h3.row
      obtain ⟨c0, c1, c2, c3, _⟩ := h3.c
      have r0 : wr.cell? ⟨w.heap.size, 0, none⟩ = some (.int .i64 0) := by rw [Lib.cell_of_heap b3]; rfl
      have r1 : wr.cell? ⟨w.heap.size, 1, none⟩ = some (.int .i64 0) := by rw [Lib.cell_of_heap b3]; rfl
      have r2 : wr.cell? ⟨w.heap.size, 2, none⟩ = some (.int .i64 0) := by rw [Lib.cell_of_heap b3]; rfl
      have r3 : wr.cell? ⟨w.heap.size, 3, none⟩ = some (.slice none 0 0) := by rw [Lib.cell_of_heap b3]; rfl
      have f0 := Lib.frozen_of_heap b3 0
      have f1 := Lib.frozen_of_heap b3 1
      have f2 := Lib.frozen_of_heap b3 2
      have f3 := Lib.frozen_of_heap b3 3
      have fin : FoldEnd R w (.returned (.tuple #[.agg #[.int .i64 s.vw, .int .i64 s.nm, .int .i64 s.cm, .slice va s.log.length vc], .bool true])) (setN wr w.heap.size 0 [.int .i64 s.vw, .int .i64 s.nm, .int .i64 s.cm, .slice va s.log.length vc]) := ⟨setN_below _ _ hbr (Nat.le_refl _) (Nat.le_refl _), .inr ⟨s, va, vc, HE.out, rfl, row_chg4 h3.row (setN_chg _ _ _) fun g e q => by have := (row_lt4 h3.row g e).1; omega⟩⟩
      have hset := setN_all [.int .i64 s.vw, .int .i64 s.nm, .int .i64 s.cm, .slice va s.log.length vc] b3 rfl
      clear keep h3 h4 b3 HS HF hbr
      generalize s.log.length = sl at *
      go_wp2_with fail
      exact ret_box2 rfl rfl rfl rfl (load_st hset) fin
end Go.Proofs.Ytaonchdpnllhpaa
