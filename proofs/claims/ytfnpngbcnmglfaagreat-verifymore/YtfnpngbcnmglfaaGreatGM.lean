/- What package code reads: many things, one behind the other. What package code reads: an instruction, a list of types. What package code reads: a function. -/
import Derived.Test.YtfnpngbcnmglfaaGreatRH
import Derived.Test.YtfnpngbcnmglfaaGreatAN
import Derived.Test.YtfnpngbcnmglfaaGreatXM
import Derived.Test.YtfnpngbcnmglfaaGreatCCf
import Derived.Laws.BitsAllLaws
namespace Go.Proofs.YtfnpngbcnmglfaaGreat
open Go.RowKit
theorem row_chg4 {w w' : World} {base n size : Nat} {e : TypeId} {v : Value} {xs : List Value} {S : Nat → Prop} (h : w.ownsRow base e size v n xs) (k : Chg w w' S) (hv : ∀ g, v.ownBlock = some g → ¬ S g) : w'.ownsRow base e size v n xs := by
  refine ⟨h.1, ?_⟩
  rcases h.2 with h2 | ⟨g, cap, cur, rfl, hg, hh, r⟩
  · exact .inl h2
  · exact .inr ⟨g, cap, cur, rfl, hg, by rw [k.block g (lt_of_block hh) (hv g rfl)]; exact hh, r⟩
theorem row_lt4 {w : World} {base n size : Nat} {e : TypeId} {v : Value} {xs : List Value} (h : w.ownsRow base e size v n xs) : ∀ k, v.ownBlock = some k → base ≤ k ∧ k < w.heap.size := World.ownsRow.lt h
theorem row_lower4 {w : World} {base base' n size : Nat} {e : TypeId} {v : Value} {xs : List Value} (h : w.ownsRow base e size v n xs) (hb : base' ≤ base) : w.ownsRow base' e size v n xs := by
  refine ⟨h.1, ?_⟩
  rcases h.2 with h2 | ⟨g, cap, cur, rfl, hg, r⟩
  · exact .inl h2
  · exact .inr ⟨g, cap, cur, rfl, Nat.le_trans hb hg, r⟩
theorem rds_lt4 {w : World} {p h g : Nat} {bs : List UInt8} {err : Int} (H : RdS w p h g bs err) : p < w.heap.size ∧ h < w.heap.size := by
  obtain ⟨⟨ao, cap, hE, _⟩, _⟩ := H
  exact ⟨lt_of_block hE.hp, lt_of_block hE.hh⟩
/-- The value of package code's reader. -/
abbrev rdV (p : Nat) : Value := .agg #[.pointer (some ⟨p, 0, none⟩)]
abbrev fnV (k p : Nat) : Value := .func (.func k) #[.pointer (some ⟨p, 0, none⟩)] #[]
abbrev fnR (k p : Nat) : Value := .func (.func k) #[rdV p] #[]
/-- How a list that was read ends: a row of its own, and the reader. -/
def ManyEnd (e : TypeId) (size n : Nat) (xs : List Value) (p h g : Nat) (st : RSt) (w : World) (x : Ending) (w' : World) : Prop := (∃ v, x = .returned v ∧ w'.ownsRow w.heap.size e size v n xs) ∧ RdS w' p h g st.1 st.2 ∧ Chg w w' (fun k => k = h)
/-- What reads one thing. -/
def OneEnd (r : Value) (p h g : Nat) (st : RSt) (w : World) (x : Ending) (w' : World) : Prop := x = .returned r ∧ RdS w' p h g st.1 st.2 ∧ Chg w w' (fun k => k = h)
/-- What a round leaves. -/
theorem many_step {w wr w2 w6 : World} {p h g n base size : Nat} {e : TypeId} {v v' : Value} {st : RSt} {xs : List Value} {o : Obj} (hb : base = w.heap.size) (hp : p < w.heap.size) (hh : h < w.heap.size) (hg : g < w.heap.size) (C0 : Chg w wr (fun i => i = h)) (hrow : wr.ownsRow base e size v n xs) (c1 : Chg wr w2 (fun i => i = h)) (F : RdS w2 p h g st.1 st.2) (hs : Step (w2.alloc o) v w6 v') :
    RdS w6 p h g st.1 st.2 ∧ Chg w w6 (fun i => i = h) := by
  subst hb
  have hlt := row_lt4 hrow
  have c2 : Chg w w2 (fun i => i = h) := C0.trans c1 fun _ _ e => e
  have c3 : Chg w (w2.alloc o) (fun i => i = h) := c2.trans (Chg.alloc w2 o (fun i => i = h)) fun _ _ e => e
  refine ⟨(F.chg (Chg.alloc w2 o (fun _ => False)) id id id).chg (Chg.of_grown hs.1) (fun e => ?_) (fun e => ?_) (fun e => ?_), c3.trans (Chg.of_grown hs.1) fun i hi e => ?_⟩
  all_goals (have := (hlt _ e).1; omega)
theorem many_row {w wr w2 : World} {h n base size : Nat} {e : TypeId} {v : Value} {xs : List Value} (hb : base = w.heap.size) (hh : h < w.heap.size) (hrow : wr.ownsRow base e size v n xs) (c1 : Chg wr w2 (fun i => i = h)) (o : Obj) : (w2.alloc o).ownsRow base e size v n xs := by
  subst hb
  have hlt := row_lt4 hrow
  exact row_chg4 (row_chg4 hrow c1 fun b hb e => by have := (hlt b hb).1; omega) (Chg.alloc w2 o (fun _ => False)) (fun _ _ => id)
/-- A box that a round keeps. -/
theorem many_box {w wr : World} {p h : Nat} (hh : h < w.heap.size) (C : Chg (w.alloc (.cells #[.pointer (some ⟨p, 0, none⟩)] 105)) wr (fun i => i = h)) : wr.cell? ⟨w.heap.size, 0, none⟩ = some (.pointer (some ⟨p, 0, none⟩)) := by
  have e := (C.block w.heap.size (by simp) (by omega)).trans (heap_alloc_new w (.cells #[.pointer (some ⟨p, 0, none⟩)] 105))
  rw [Lib.cell_of_heap e]; rfl
/-- The rounds: what was read so far, and what comes. -/
theorem gMany_round {α : Type} {one : RSt → α × RSt} {n k : Nat} {st st' : RSt} {L : List α} (hk : k < n) (h0 : st'.2 = 0) (h : gMany one n st = (L ++ (gMany one (n - k) st').1, (gMany one (n - k) st').2)) : gMany one n st = ((L ++ [(one st').1]) ++ (gMany one (n - (k + 1)) (one st').2).1, (gMany one (n - (k + 1)) (one st').2).2) := by
  rw [h, show n - k = (n - (k + 1)) + 1 by omega]
  conv => lhs; unfold gMany
  rw [if_neg (by simp [h0])]
  simp
theorem gMany_end {α : Type} {one : RSt → α × RSt} {n k : Nat} {st st' : RSt} {L : List α} (hk : k = n ∨ st'.2 ≠ 0) (h : gMany one n st = (L ++ (gMany one (n - k) st').1, (gMany one (n - k) st').2)) : gMany one n st = (L, st') := by
  rw [h]
  rcases hk with rfl | hk
  · rw [Nat.sub_self]; simp [gMany]
  · rw [gMany_err _ _ hk]; simp
theorem cells_new4 (W : World) (xs : List Value) (t : TypeId) (B : Nat) (hB : W.heap.size = B) : ∀ j u, xs[j]? = some u → (W.alloc (.cells xs.toArray t)).cell? ((⟨B, 0, none⟩ : Addr).add j) = some u := by
  subst hB
  intro j u hu
  rw [Addr.add_lit, Lib.cell_of_heap (heap_alloc_new W (.cells xs.toArray t))]
  simpa using hu
theorem manyN_snoc (L : List (Int)) (x : Int) : cellsN (L ++ [x]) = cellsN L ++ [Value.int .i64 x] := by simp [cellsN]
set_option maxRecDepth 100000 in
set_option maxHeartbeats 1000000 in
theorem manyN (p h g : Nat) (one : RSt → (Int) × RSt) (w : World) (n : Nat) (st : RSt) (H : RdS w p h g st.1 st.2) (hg : g < w.heap.size) (hn : n ≤ 65535)
    (hone : ∀ W s, RdS W p h g s.1 s.2 → w.heap.size ≤ W.heap.size → Calls Tryz.prog 104 #[.pointer (some ⟨p, 0, none⟩)] W (OneEnd (.int .i64 (one s).1) p h g (one s).2 W)) :
    Calls Tryz.prog 208 #[rdV p, .int .i64 n, .func (.func 104) #[.pointer (some ⟨p, 0, none⟩)] #[]] w (ManyEnd 3 1 (gMany one n st).1.length (cellsN (gMany one n st).1) p h g (gMany one n st).2 w) := by
  obtain ⟨hp, hh⟩ := rds_lt4 H
  have H1 := H.chg (Chg.alloc w (.cells #[.pointer (some ⟨p, 0, none⟩)] 105) (fun _ => False)) id id id
  have hC0 := Chg.alloc w (.cells #[.pointer (some ⟨p, 0, none⟩)] 105) (fun k => k = h)
  obtain ⟨W1, hW1⟩ : ∃ W1, W1 = w.alloc (.cells #[.pointer (some ⟨p, 0, none⟩)] 105) := ⟨_, rfl⟩
  have hbox : ∀ W, Chg W1 W (fun k => k = h) → W.cell? ⟨w.heap.size, 0, none⟩ = some (.pointer (some ⟨p, 0, none⟩)) := fun W hW => by rw [hW1] at hW; exact many_box hh hW
  rw [← hW1] at H1 hC0
  obtain ⟨i0, hi, hz0, hz1, hz2⟩ := info_parts (show (Tryz.prog.info? 3).map (fun i => (i.zero, i.size, i.bytes)) = some (some (.int .i64 0), 1, 8) by kernel_rfl)
  have fin : ∀ wr v L st', gMany one n st = (L, st') → wr.ownsRow W1.heap.size 3 1 v L.length (cellsN L) → RdS wr p h g st'.1 st'.2 → Chg W1 wr (fun k => k = h) → ManyEnd 3 1 (gMany one n st).1.length (cellsN (gMany one n st).1) p h g (gMany one n st).2 w (.returned v) wr := fun wr v L st' e hr HR hc => by
    rw [e]
    exact ⟨⟨v, rfl, row_lower4 hr hC0.size⟩, HR, hC0.trans hc fun _ _ e => e⟩
  go_enter Tryz.func208, Tryz.ntmps208
  go_wp2_with fail
  rw [← hW1]
  clear hW1
  go_loopw [7, 9] (fun v i wr => ∃ (k : Nat) (L : List (Int)) (s : RSt), k ≤ n ∧ i = .int .i64 k ∧ L.length = k ∧ Hid (gMany one n st = (L ++ (gMany one (n - k) s).1, (gMany one (n - k) s).2)) ∧ wr.ownsRow W1.heap.size 3 1 v k (cellsN L) ∧ RdS wr p h g s.1 s.2 ∧ Chg W1 wr (fun k => k = h)) (fun _ i _ => n - (intOf i).toNat)
  case atStart => exact ⟨0, [], st, Nat.zero_le _, rfl, rfl, hid (by simp), World.ownsRow_nil _ _ _ _, H1, Chg.refl _ _⟩
  case round =>
    obtain ⟨k, L, s, hk, rfl, hL, HM, hrow, HR, C1⟩ := hrel
    have cb := hbox wr C1
    have hEr := rerr_any p h g s.1 s.2 wr HR
    by_cases hlt : k < n
    · by_cases herr : s.2 = 0
      · have HM' := hid (gMany_round hlt herr HM.out)
        have hO := hone wr s HR (Nat.le_trans hC0.size C1.size)
        rw [herr] at hEr
        have HV := hid (manyN_snoc L (one s).1)
        obtain ⟨x, hx⟩ : ∃ x, x = (one s).1 := ⟨_, rfl⟩
        obtain ⟨s', hs'⟩ : ∃ s', s' = (one s).2 := ⟨_, rfl⟩
        rw [← hx] at hO HV HM'
        rw [← hs'] at hO HM'
        have hhW := Nat.lt_of_lt_of_le hh hC0.size
        have hsW := C1.size
        clear HM hone hx hs' hbox
        generalize cellsN L = xs at hrow HV
        go_wp2_with (first | (go_at_call 108; refine hEr.mono ?_; rintro e w' ⟨rfl, rfl⟩; clear hEr) | (go_at_call 104; refine hO.mono ?_; clear hO; rintro e w2 ⟨rfl, H2, hc2⟩; have hs2 := hc2.size) | (at_builtin; refine wpList_appN _ rfl _ _ 28 rfl elemN_int W1.heap.size _ k xs rfl (many_row rfl hhW hrow hc2 _) _ rfl 1 [Value.int .i64 x] (.inr ⟨⟨w2.heap.size, 0, none⟩, 1, rfl, cells_new4 w2 [Value.int .i64 x] 3 _ rfl⟩) rfl (by simp [Value.oneCell']) (by unfold maxLen; omega) (by omega) (by simp; omega) ?_; intro v' w6 hr6 hs6))
        obtain ⟨F6, C6⟩ := many_step rfl (Nat.lt_of_lt_of_le hp hC0.size) hhW (Nat.lt_of_lt_of_le hg hC0.size) C1 hrow hc2 H2 hs6
        exact ⟨⟨k + 1, L ++ [x], s', by omega, by go_num, by simp [hL], HM', by rw [HV.out]; exact hr6, F6, C6⟩, by simp [intOf]; omega⟩
      · have hne : (s.2 != 0) = true := by simp [herr]
        have hE := gMany_end (.inr herr) HM.out
        have hF := fin wr _ L s hE (by rw [hL]; exact hrow) HR C1
        clear HM fin hE
        generalize s.2 = er at hEr hne
        go_wp2_with (go_at_call 108; refine hEr.mono ?_; rintro e w' ⟨rfl, rfl⟩; clear hEr)
        go_ret
        exact hF
    · obtain rfl : k = n := by omega
      have hE := gMany_end (.inl rfl) HM.out
      have hF := fin wr _ L s hE (by rw [hL]; exact hrow) HR C1
      clear HM fin hE
      go_wp2_with fail
      go_ret
      exact hF
theorem manyS_snoc (L : List (List UInt8)) (x : List UInt8) : cellsS (L ++ [x]) = cellsS L ++ [Value.string ⟨x.toArray⟩] := by simp [cellsS]
set_option maxRecDepth 100000 in
set_option maxHeartbeats 1000000 in
theorem manyS (p h g : Nat) (one : RSt → (List UInt8) × RSt) (w : World) (n : Nat) (st : RSt) (H : RdS w p h g st.1 st.2) (hg : g < w.heap.size) (hn : n ≤ 65535)
    (hone : ∀ W s, RdS W p h g s.1 s.2 → w.heap.size ≤ W.heap.size → Calls Tryz.prog 105 #[.pointer (some ⟨p, 0, none⟩)] W (OneEnd (.string ⟨(one s).1.toArray⟩) p h g (one s).2 W)) :
    Calls Tryz.prog 103 #[rdV p, .int .i64 n, .func (.func 105) #[.pointer (some ⟨p, 0, none⟩)] #[]] w (ManyEnd 9 1 (gMany one n st).1.length (cellsS (gMany one n st).1) p h g (gMany one n st).2 w) := by
  obtain ⟨hp, hh⟩ := rds_lt4 H
  have H1 := H.chg (Chg.alloc w (.cells #[.pointer (some ⟨p, 0, none⟩)] 105) (fun _ => False)) id id id
  have hC0 := Chg.alloc w (.cells #[.pointer (some ⟨p, 0, none⟩)] 105) (fun k => k = h)
  obtain ⟨W1, hW1⟩ : ∃ W1, W1 = w.alloc (.cells #[.pointer (some ⟨p, 0, none⟩)] 105) := ⟨_, rfl⟩
  have hbox : ∀ W, Chg W1 W (fun k => k = h) → W.cell? ⟨w.heap.size, 0, none⟩ = some (.pointer (some ⟨p, 0, none⟩)) := fun W hW => by rw [hW1] at hW; exact many_box hh hW
  rw [← hW1] at H1 hC0
  obtain ⟨i0, hi, hz0, hz1, hz2⟩ := info_parts (show (Tryz.prog.info? 9).map (fun i => (i.zero, i.size, i.bytes)) = some (some (.string ⟨#[]⟩), 1, 16) by kernel_rfl)
  have fin : ∀ wr v L st', gMany one n st = (L, st') → wr.ownsRow W1.heap.size 9 1 v L.length (cellsS L) → RdS wr p h g st'.1 st'.2 → Chg W1 wr (fun k => k = h) → ManyEnd 9 1 (gMany one n st).1.length (cellsS (gMany one n st).1) p h g (gMany one n st).2 w (.returned v) wr := fun wr v L st' e hr HR hc => by
    rw [e]
    exact ⟨⟨v, rfl, row_lower4 hr hC0.size⟩, HR, hC0.trans hc fun _ _ e => e⟩
  go_enter Tryz.func103, Tryz.ntmps103
  go_wp2_with fail
  rw [← hW1]
  clear hW1
  go_loopw [7, 9] (fun v i wr => ∃ (k : Nat) (L : List (List UInt8)) (s : RSt), k ≤ n ∧ i = .int .i64 k ∧ L.length = k ∧ Hid (gMany one n st = (L ++ (gMany one (n - k) s).1, (gMany one (n - k) s).2)) ∧ wr.ownsRow W1.heap.size 9 1 v k (cellsS L) ∧ RdS wr p h g s.1 s.2 ∧ Chg W1 wr (fun k => k = h)) (fun _ i _ => n - (intOf i).toNat)
  case atStart => exact ⟨0, [], st, Nat.zero_le _, rfl, rfl, hid (by simp), World.ownsRow_nil _ _ _ _, H1, Chg.refl _ _⟩
  case round =>
    obtain ⟨k, L, s, hk, rfl, hL, HM, hrow, HR, C1⟩ := hrel
    have cb := hbox wr C1
    have hEr := rerr_any p h g s.1 s.2 wr HR
    by_cases hlt : k < n
    · by_cases herr : s.2 = 0
      · have HM' := hid (gMany_round hlt herr HM.out)
        have hO := hone wr s HR (Nat.le_trans hC0.size C1.size)
        rw [herr] at hEr
        have HV := hid (manyS_snoc L (one s).1)
        obtain ⟨x, hx⟩ : ∃ x, x = (one s).1 := ⟨_, rfl⟩
        obtain ⟨s', hs'⟩ : ∃ s', s' = (one s).2 := ⟨_, rfl⟩
        rw [← hx] at hO HV HM'
        rw [← hs'] at hO HM'
        have hhW := Nat.lt_of_lt_of_le hh hC0.size
        have hsW := C1.size
        clear HM hone hx hs' hbox
        generalize cellsS L = xs at hrow HV
        go_wp2_with (first | (go_at_call 108; refine hEr.mono ?_; rintro e w' ⟨rfl, rfl⟩; clear hEr) | (go_at_call 105; refine hO.mono ?_; clear hO; rintro e w2 ⟨rfl, H2, hc2⟩; have hs2 := hc2.size) | (at_builtin; refine wpList_appN _ rfl _ _ 24 rfl elemN_str W1.heap.size _ k xs rfl (many_row rfl hhW hrow hc2 _) _ rfl 1 [Value.string ⟨x.toArray⟩] (.inr ⟨⟨w2.heap.size, 0, none⟩, 1, rfl, cells_new4 w2 [Value.string ⟨x.toArray⟩] 9 _ rfl⟩) rfl (by simp [Value.oneCell']) (by unfold maxLen; omega) (by omega) (by simp; omega) ?_; intro v' w6 hr6 hs6))
        obtain ⟨F6, C6⟩ := many_step rfl (Nat.lt_of_lt_of_le hp hC0.size) hhW (Nat.lt_of_lt_of_le hg hC0.size) C1 hrow hc2 H2 hs6
        exact ⟨⟨k + 1, L ++ [x], s', by omega, by go_num, by simp [hL], HM', by rw [HV.out]; exact hr6, F6, C6⟩, by simp [intOf]; omega⟩
      · have hne : (s.2 != 0) = true := by simp [herr]
        have hE := gMany_end (.inr herr) HM.out
        have hF := fin wr _ L s hE (by rw [hL]; exact hrow) HR C1
        clear HM fin hE
        generalize s.2 = er at hEr hne
        go_wp2_with (go_at_call 108; refine hEr.mono ?_; rintro e w' ⟨rfl, rfl⟩; clear hEr)
        go_ret
        exact hF
    · obtain rfl : k = n := by omega
      have hE := gMany_end (.inl rfl) HM.out
      have hF := fin wr _ L s hE (by rw [hL]; exact hrow) HR C1
      clear HM fin hE
      go_wp2_with fail
      go_ret
      exact hF
theorem manyI_snoc (L : List (Int × Int)) (x : Int × Int) : cellsI (L ++ [x]) = cellsI L ++ [Value.int .i64 x.1, .int .i64 x.2] := by simp [cellsI]
set_option maxRecDepth 100000 in
set_option maxHeartbeats 1000000 in
theorem manyI (p h g : Nat) (one : RSt → (Int × Int) × RSt) (w : World) (n : Nat) (st : RSt) (H : RdS w p h g st.1 st.2) (hg : g < w.heap.size) (hn : n ≤ 65535)
    (hone : ∀ W s, RdS W p h g s.1 s.2 → w.heap.size ≤ W.heap.size → Calls Tryz.prog 152 #[rdV p] W (OneEnd (.agg #[.int .i64 (one s).1.1, .int .i64 (one s).1.2]) p h g (one s).2 W)) :
    Calls Tryz.prog 151 #[rdV p, .int .i64 n, .func (.func 152) #[rdV p] #[]] w (ManyEnd 83 2 (gMany one n st).1.length (cellsI (gMany one n st).1) p h g (gMany one n st).2 w) := by
  obtain ⟨hp, hh⟩ := rds_lt4 H
  have H1 := H.chg (Chg.alloc w (.cells #[.pointer (some ⟨p, 0, none⟩)] 105) (fun _ => False)) id id id
  have hC0 := Chg.alloc w (.cells #[.pointer (some ⟨p, 0, none⟩)] 105) (fun k => k = h)
  obtain ⟨W1, hW1⟩ : ∃ W1, W1 = w.alloc (.cells #[.pointer (some ⟨p, 0, none⟩)] 105) := ⟨_, rfl⟩
  have hbox : ∀ W, Chg W1 W (fun k => k = h) → W.cell? ⟨w.heap.size, 0, none⟩ = some (.pointer (some ⟨p, 0, none⟩)) := fun W hW => by rw [hW1] at hW; exact many_box hh hW
  rw [← hW1] at H1 hC0
  obtain ⟨i0, hi, hz0, hz1, hz2⟩ := info_parts (show (Tryz.prog.info? 83).map (fun i => (i.zero, i.size, i.bytes)) = some (some (.agg #[.int .i64 0, .int .i64 0]), 2, 16) by kernel_rfl)
  have fin : ∀ wr v L st', gMany one n st = (L, st') → wr.ownsRow W1.heap.size 83 2 v L.length (cellsI L) → RdS wr p h g st'.1 st'.2 → Chg W1 wr (fun k => k = h) → ManyEnd 83 2 (gMany one n st).1.length (cellsI (gMany one n st).1) p h g (gMany one n st).2 w (.returned v) wr := fun wr v L st' e hr HR hc => by
    rw [e]
    exact ⟨⟨v, rfl, row_lower4 hr hC0.size⟩, HR, hC0.trans hc fun _ _ e => e⟩
  go_enter Tryz.func151, Tryz.ntmps151
  go_wp2_with fail
  rw [← hW1]
  clear hW1
  go_loopw [7, 9] (fun v i wr => ∃ (k : Nat) (L : List (Int × Int)) (s : RSt), k ≤ n ∧ i = .int .i64 k ∧ L.length = k ∧ Hid (gMany one n st = (L ++ (gMany one (n - k) s).1, (gMany one (n - k) s).2)) ∧ wr.ownsRow W1.heap.size 83 2 v k (cellsI L) ∧ RdS wr p h g s.1 s.2 ∧ Chg W1 wr (fun k => k = h)) (fun _ i _ => n - (intOf i).toNat)
  case atStart => exact ⟨0, [], st, Nat.zero_le _, rfl, rfl, hid (by simp), World.ownsRow_nil _ _ _ _, H1, Chg.refl _ _⟩
  case round =>
    obtain ⟨k, L, s, hk, rfl, hL, HM, hrow, HR, C1⟩ := hrel
    have cb := hbox wr C1
    have hEr := rerr_any p h g s.1 s.2 wr HR
    by_cases hlt : k < n
    · by_cases herr : s.2 = 0
      · have HM' := hid (gMany_round hlt herr HM.out)
        have hO := hone wr s HR (Nat.le_trans hC0.size C1.size)
        rw [herr] at hEr
        have HV := hid (manyI_snoc L (one s).1)
        obtain ⟨x, hx⟩ : ∃ x, x = (one s).1 := ⟨_, rfl⟩
        obtain ⟨s', hs'⟩ : ∃ s', s' = (one s).2 := ⟨_, rfl⟩
        rw [← hx] at hO HV HM'
        rw [← hs'] at hO HM'
        have hhW := Nat.lt_of_lt_of_le hh hC0.size
        have hsW := C1.size
        clear HM hone hx hs' hbox
        generalize cellsI L = xs at hrow HV
        go_wp2_with (first | (go_at_call 108; refine hEr.mono ?_; rintro e w' ⟨rfl, rfl⟩; clear hEr) | (go_at_call 152; refine hO.mono ?_; clear hO; rintro e w2 ⟨rfl, H2, hc2⟩; have hs2 := hc2.size) | (at_builtin; refine wpList_appN _ rfl _ _ 47 rfl elemN_ins W1.heap.size _ k xs rfl (many_row rfl hhW hrow hc2 _) _ rfl 1 [Value.int .i64 x.1, .int .i64 x.2] (.inr ⟨⟨w2.heap.size, 0, none⟩, 1, rfl, cells_new4 w2 [Value.int .i64 x.1, .int .i64 x.2] 83 _ rfl⟩) rfl (by simp [Value.oneCell']) (by unfold maxLen; omega) (by omega) (by simp; omega) ?_; intro v' w6 hr6 hs6))
        obtain ⟨F6, C6⟩ := many_step rfl (Nat.lt_of_lt_of_le hp hC0.size) hhW (Nat.lt_of_lt_of_le hg hC0.size) C1 hrow hc2 H2 hs6
        exact ⟨⟨k + 1, L ++ [x], s', by omega, by go_num, by simp [hL], HM', by rw [HV.out]; exact hr6, F6, C6⟩, by simp [intOf]; omega⟩
      · have hne : (s.2 != 0) = true := by simp [herr]
        have hE := gMany_end (.inr herr) HM.out
        have hF := fin wr _ L s hE (by rw [hL]; exact hrow) HR C1
        clear HM fin hE
        generalize s.2 = er at hEr hne
        go_wp2_with (go_at_call 108; refine hEr.mono ?_; rintro e w' ⟨rfl, rfl⟩; clear hEr)
        go_ret
        exact hF
    · obtain rfl : k = n := by omega
      have hE := gMany_end (.inl rfl) HM.out
      have hF := fin wr _ L s hE (by rw [hL]; exact hrow) HR C1
      clear HM fin hE
      go_wp2_with fail
      go_ret
      exact hF
end Go.Proofs.YtfnpngbcnmglfaaGreat
namespace Go.Proofs.YtfnpngbcnmglfaaGreat
open Go.RowKit
theorem gbyte_s (p h g : Nat) (s : RSt) (w : World) (H : RdS w p h g s.1 s.2) : Calls Tryz.prog 104 #[.pointer (some ⟨p, 0, none⟩)] w (OneEnd (.int .i64 (gByte s).1) p h g (gByte s).2 w) := rbyte_all p h g s.1 s.2 w H
theorem gint_s (p h g : Nat) (s : RSt) (w : World) (H : RdS w p h g s.1 s.2) : Calls Tryz.prog 209 #[.pointer (some ⟨p, 0, none⟩)] w (OneEnd (.int .i64 (gInt s).1) p h g (gInt s).2 w) := rint_all p h g s.1 s.2 w H
theorem gtext_s (p h g : Nat) (s : RSt) (w : World) (H : RdS w p h g s.1 s.2) : Calls Tryz.prog 105 #[.pointer (some ⟨p, 0, none⟩)] w (OneEnd (.string ⟨(gText s).1.toArray⟩) p h g (gText s).2 w) := rtext_all p h g s.1 s.2 w H
theorem gByte_nat (s : RSt) : ∃ n : Nat, n ≤ 255 ∧ (gByte s).1 = n := by
  unfold gByte ansByte
  simp only
  split
  · exact ⟨0, by omega, rfl⟩
  split
  · exact ⟨0, by omega, rfl⟩
  · exact ⟨_, by have := (s.1.getD 0 0).toNat_lt; omega, rfl⟩
theorem load_ins {w : World} {b : Nat} {x0 x1 : Value} (h0 : w.cell? ⟨b, 0, none⟩ = some x0) (h1 : w.cell? ⟨b, 1, none⟩ = some x1) : (loadVar 83 ⟨b, 0, none⟩).run Tryz.prog w = .ok (.agg #[x0, x1]) w := by
  simp [loadVar, go_sem, h0, h1]
/-- A block of two cells that a call keeps. -/
theorem kept2 {w w' : World} {b : Nat} {x y : Value} {t : TypeId} {S : Nat → Prop} (hb : w.heap[b]? = some (.cells #[x, y] t (0, 0))) (hc : Chg w w' S) (hn : ¬ S b) : w'.heap[b]? = some (.cells #[x, y] t (0, 0)) := (hc.block b (lt_of_block hb) hn).trans hb
/-- How the end of instr stands: the result's block is set, the reader is as it was. -/
theorem ins_end {w W : World} {p h g B : Nat} {s : RSt} {x y : Value} (o a : Value) (hB : w.heap.size ≤ B) (hp : p < w.heap.size) (hh : h < w.heap.size) (hg : g < w.heap.size) (hb : W.heap[B]? = some (.cells #[x, y] 83 (0, 0))) (H : RdS W p h g s.1 s.2) (hc : Chg w W (fun k => k = h)) :
    ((W.setCell ⟨B, 0, none⟩ o).setCell ⟨B, 1, none⟩ a).cell? ⟨B, 0, none⟩ = some o ∧ ((W.setCell ⟨B, 0, none⟩ o).setCell ⟨B, 1, none⟩ a).cell? ⟨B, 1, none⟩ = some a ∧ OneEnd (.agg #[o, a]) p h g s w (.returned (.agg #[o, a])) ((W.setCell ⟨B, 0, none⟩ o).setCell ⟨B, 1, none⟩ a) := by
  have h1 := set2_0 (u := o) hb
  have h2 := set2_1 (u := a) h1
  obtain ⟨c0, c1, _, _⟩ := cells2 h2
  refine ⟨c0, c1, rfl, (H.chg (Chg.setCell W ⟨B, 0, none⟩ o) ?_ ?_ ?_).chg (Chg.setCell _ ⟨B, 1, none⟩ a) ?_ ?_ ?_, (hc.trans (Chg.setCell W ⟨B, 0, none⟩ o) ?_).trans (Chg.setCell _ ⟨B, 1, none⟩ a) ?_⟩
  all_goals first | (show ¬ _ = B; omega) | (intro i hi e; have e' : i = B := e; omega)
set_option maxRecDepth 100000 in
set_option maxHeartbeats 1000000 in
theorem gins_s (p h g : Nat) (s : RSt) (w : World) (H : RdS w p h g s.1 s.2) (hg : g < w.heap.size) : Calls Tryz.prog 152 #[rdV p] w (OneEnd (.agg #[.int .i64 (gIns s).1.1, .int .i64 (gIns s).1.2]) p h g (gIns s).2 w) := by
  obtain ⟨hp, hh⟩ := rds_lt4 H
  obtain ⟨W1, hW1⟩ : ∃ W1, W1 = (w.alloc (.cells #[.pointer (some ⟨p, 0, none⟩)] 105)).alloc (.cells #[.int .i64 0, .int .i64 0] 83) := ⟨_, rfl⟩
  have hC1 : Chg w W1 (fun k => k = h) := by rw [hW1]; exact (Chg.alloc w _ _).trans (Chg.alloc _ _ _) (fun _ _ e => e)
  have H1 : RdS W1 p h g s.1 s.2 := by rw [hW1]; exact (H.chg (Chg.alloc w _ (fun _ => False)) id id id).chg (Chg.alloc _ _ (fun _ => False)) id id id
  have bA : W1.heap[w.heap.size]? = some (.cells #[.pointer (some ⟨p, 0, none⟩)] 105 (0, 0)) := by rw [hW1, Below.heap_alloc _ _ _ (by simp)]; exact heap_alloc_new w _
  have bB : W1.heap[w.heap.size + 1]? = some (.cells #[.int .i64 0, .int .i64 0] 83 (0, 0)) := by
    have := heap_alloc_new (w.alloc (.cells #[.pointer (some ⟨p, 0, none⟩)] 105)) (.cells #[.int .i64 0, .int .i64 0] 83)
    rw [hW1]; simpa using this
  have lB := lt_of_block bB
  have hbox : ∀ W, Chg W1 W (fun k => k = h) → W.cell? ⟨w.heap.size, 0, none⟩ = some (.pointer (some ⟨p, 0, none⟩)) := fun W hW => by
    rw [Lib.cell_of_heap ((hW.block _ (by omega) (by omega)).trans bA)]; rfl
  have hFirst := gbyte_s p h g s W1 H1
  have hTk := takes_all (gByte s).1
  have cA := hbox W1 (Chg.refl _ _)
  by_cases t0 : takesN (gByte s).1 = 0
  · have hE : gIns s = (((gByte s).1, 0), (gByte s).2) := by unfold gIns; rw [if_pos t0]
    rw [hE]
    rw [t0] at hTk
    generalize (gByte s).1 = o at hFirst hTk
    generalize (gByte s).2 = s1 at hFirst
    go_enter Tryz.func152, Tryz.ntmps152
    go_wp2_with fail
    rw [← hW1]
    clear hW1
    refine hFirst.mono ?_
    rintro e w2 ⟨rfl, H2, hc2⟩
    clear hFirst
    have b2 := kept2 bB hc2 (by omega)
    obtain ⟨m0, m1, o0, o1⟩ := cells2 b2
    have cB := hbox w2 hc2
    have hs2 := hc2.size
    have hlw : w.heap.size + 1 < w2.heap.size := by omega
    have hlw0 : w.heap.size < w2.heap.size := by omega
    have hne : ¬ w.heap.size + 1 = w2.heap.size := by omega
    have hne0 : ¬ w.heap.size = w2.heap.size := by omega
    have hC2 : Chg w w2 (fun k => k = h) := hC1.trans hc2 fun _ _ e => e
    go_wp2_with (first | (go_at_call 98; refine (hTk _).mono ?_; rintro e w' ⟨rfl, hw'⟩; subst hw'))
    obtain ⟨q0, q1, q2, q3, q4⟩ := ins_end (.int .i64 o) (.int .i64 0) (Nat.le_succ _) hp hh hg b2 H2 hC2
    exact bodyPost_ret (results_cell1 rfl _ _ _ _ _ rfl (load_ins (alloc_keep _ _ _ _ q0) (alloc_keep _ _ _ _ q1))) rfl ⟨rfl, q3.chg (Chg.alloc _ _ (fun _ => False)) id id id, q4.trans (Chg.alloc _ _ (fun k => k = h)) fun _ _ e => e⟩
  by_cases t1 : takesN (gByte s).1 = 1
  · have hE : gIns s = (((gByte s).1, (gInt (gByte s).2).1), (gInt (gByte s).2).2) := by unfold gIns; rw [if_neg t0, if_pos t1]
    rw [hE]
    rw [t1] at hTk
    clear hE t0 t1
    generalize (gByte s).1 = o at hFirst hTk
    generalize (gByte s).2 = s1 at hFirst
    have hNext : ∀ w2, RdS w2 p h g s1.1 s1.2 → Calls Tryz.prog 209 #[.pointer (some ⟨p, 0, none⟩)] (w2.alloc (.cells #[.int .i64 o, .int .i64 0] 83)) (OneEnd (.int .i64 (gInt s1).1) p h g (gInt s1).2 (w2.alloc (.cells #[.int .i64 o, .int .i64 0] 83))) := fun w2 H2 => gint_s p h g s1 _ (H2.chg (Chg.alloc w2 _ (fun _ => False)) id id id)
    generalize (gInt s1).1 = a at hNext
    generalize (gInt s1).2 = s2 at hNext
    go_enter Tryz.func152, Tryz.ntmps152
    go_wp2_with fail
    rw [← hW1]
    clear hW1
    refine hFirst.mono ?_
    rintro e w2 ⟨rfl, H2, hc2⟩
    clear hFirst
    have b2 := kept2 bB hc2 (by omega)
    have cB := hbox w2 hc2
    have hs2 := hc2.size
    have hlw : w.heap.size + 1 < w2.heap.size := by omega
    have hlw0 : w.heap.size < w2.heap.size := by omega
    have hne : ¬ w.heap.size + 1 = w2.heap.size := by omega
    have hne0 : ¬ w.heap.size = w2.heap.size := by omega
    have hC2 : Chg w w2 (fun k => k = h) := hC1.trans hc2 fun _ _ e => e
    have hN := hNext w2 H2
    clear hNext
    go_wp2_with (first | (go_at_call 98; refine (hTk _).mono ?_; rintro e w' ⟨rfl, hw'⟩; subst hw'))
    refine hN.mono ?_
    rintro e w3 ⟨rfl, H3, hc3⟩
    clear hN
    have b3 := kept2 (heap_alloc_new w2 (.cells #[.int .i64 o, .int .i64 0] 83)) hc3 (by omega)
    have d3 := kept2 ((Below.heap_alloc w2 (.cells #[.int .i64 o, .int .i64 0] 83) _ hlw).trans b2) hc3 (by omega)
    obtain ⟨x0, x1, y0, y1⟩ := cells2 b3
    obtain ⟨m0, m1, o0, o1⟩ := cells2 d3
    have hs3 : w2.heap.size + 1 ≤ w3.heap.size := by have := hc3.size; simpa using this
    go_wp2_with fail
    have hC3 : Chg w w3 (fun k => k = h) := (hC2.trans (Chg.alloc w2 _ (fun k => k = h)) fun _ _ e => e).trans hc3 fun _ _ e => e
    have k4 := Chg.setCell w3 ⟨w2.heap.size, 1, none⟩ (.int .i64 a)
    obtain ⟨q0, q1, q2⟩ := ins_end (.int .i64 o) (.int .i64 a) (Nat.le_succ _) hp hh hg (kept2 d3 k4 hne) (H3.chg k4 (by show ¬ p = w2.heap.size; omega) (by show ¬ h = w2.heap.size; omega) (by show ¬ g = w2.heap.size; omega)) (hC3.trans k4 (fun i hi (e : i = w2.heap.size) => by omega))
    exact bodyPost_ret (results_cell1 rfl _ _ _ _ _ rfl (load_ins q0 q1)) rfl q2
  · have hE : gIns s = (((gByte s).1, (gByte (gByte s).2).1), (gByte (gByte s).2).2) := by unfold gIns; rw [if_neg t0, if_neg t1]
    rw [hE]
    have n0 : (takesN (gByte s).1 == 0) = false := by simp [t0]
    have n1 : (takesN (gByte s).1 == 1) = false := by simp [t1]
    clear hE t0 t1
    generalize takesN (gByte s).1 = tk at hTk n0 n1
    generalize (gByte s).1 = o at hFirst hTk
    generalize (gByte s).2 = s1 at hFirst
    have hNext : ∀ w2, RdS w2 p h g s1.1 s1.2 → Calls Tryz.prog 104 #[.pointer (some ⟨p, 0, none⟩)] (w2.alloc (.cells #[.int .i64 o, .int .i64 0] 83)) (OneEnd (.int .i64 (gByte s1).1) p h g (gByte s1).2 (w2.alloc (.cells #[.int .i64 o, .int .i64 0] 83))) := fun w2 H2 => gbyte_s p h g s1 _ (H2.chg (Chg.alloc w2 _ (fun _ => False)) id id id)
    generalize (gByte s1).1 = a at hNext
    generalize (gByte s1).2 = s2 at hNext
    go_enter Tryz.func152, Tryz.ntmps152
    go_wp2_with fail
    rw [← hW1]
    clear hW1
    refine hFirst.mono ?_
    rintro e w2 ⟨rfl, H2, hc2⟩
    clear hFirst
    have b2 := kept2 bB hc2 (by omega)
    have cB := hbox w2 hc2
    have hs2 := hc2.size
    have hlw : w.heap.size + 1 < w2.heap.size := by omega
    have hlw0 : w.heap.size < w2.heap.size := by omega
    have hne : ¬ w.heap.size + 1 = w2.heap.size := by omega
    have hne0 : ¬ w.heap.size = w2.heap.size := by omega
    have hC2 : Chg w w2 (fun k => k = h) := hC1.trans hc2 fun _ _ e => e
    have hN := hNext w2 H2
    clear hNext
    go_wp2_with (first | (go_at_call 98; refine (hTk _).mono ?_; rintro e w' ⟨rfl, hw'⟩; subst hw'))
    refine hN.mono ?_
    rintro e w3 ⟨rfl, H3, hc3⟩
    clear hN
    have b3 := kept2 (heap_alloc_new w2 (.cells #[.int .i64 o, .int .i64 0] 83)) hc3 (by omega)
    have d3 := kept2 ((Below.heap_alloc w2 (.cells #[.int .i64 o, .int .i64 0] 83) _ hlw).trans b2) hc3 (by omega)
    obtain ⟨x0, x1, y0, y1⟩ := cells2 b3
    obtain ⟨m0, m1, o0, o1⟩ := cells2 d3
    have hs3 : w2.heap.size + 1 ≤ w3.heap.size := by have := hc3.size; simpa using this
    go_wp2_with fail
    have hC3 : Chg w w3 (fun k => k = h) := (hC2.trans (Chg.alloc w2 _ (fun k => k = h)) fun _ _ e => e).trans hc3 fun _ _ e => e
    have k4 := Chg.setCell w3 ⟨w2.heap.size, 1, none⟩ (.int .i64 a)
    obtain ⟨q0, q1, q2⟩ := ins_end (.int .i64 o) (.int .i64 a) (Nat.le_succ _) hp hh hg (kept2 d3 k4 hne) (H3.chg k4 (by show ¬ p = w2.heap.size; omega) (by show ¬ h = w2.heap.size; omega) (by show ¬ g = w2.heap.size; omega)) (hC3.trans k4 (fun i hi (e : i = w2.heap.size) => by omega))
    exact bodyPost_ret (results_cell1 rfl _ _ _ _ _ rfl (load_ins q0 q1)) rfl q2
set_option maxRecDepth 100000 in
set_option maxHeartbeats 1000000 in
theorem gtypes_s (p h g : Nat) (s : RSt) (w : World) (H : RdS w p h g s.1 s.2) (hg : g < w.heap.size) : Calls Tryz.prog 150 #[rdV p] w (ManyEnd 3 1 (gTypes s).1.length (cellsN (gTypes s).1) p h g (gTypes s).2 w) := by
  obtain ⟨hp, hh⟩ := rds_lt4 H
  obtain ⟨n, hn, hnb⟩ := gByte_nat s
  have hE : gTypes s = gMany gByte n (gByte s).2 := by unfold gTypes; rw [hnb, Int.toNat_natCast]
  rw [hE]
  obtain ⟨W1, hW1⟩ : ∃ W1, W1 = w.alloc (.cells #[.pointer (some ⟨p, 0, none⟩)] 105) := ⟨_, rfl⟩
  have hC1 : Chg w W1 (fun k => k = h) := by rw [hW1]; exact Chg.alloc w _ _
  have H1 : RdS W1 p h g s.1 s.2 := by rw [hW1]; exact H.chg (Chg.alloc w _ (fun _ => False)) id id id
  have hbox : ∀ W, Chg W1 W (fun k => k = h) → W.cell? ⟨w.heap.size, 0, none⟩ = some (.pointer (some ⟨p, 0, none⟩)) := fun W hW => by rw [hW1] at hW; exact many_box hh hW
  have hFirst := gbyte_s p h g s W1.drew (H1.chg (Chg.drew W1 (fun _ => False)) id id id)
  rw [hnb] at hFirst
  generalize (gByte s).2 = s1 at hFirst ⊢
  have hMany : ∀ W, RdS W p h g s1.1 s1.2 → w.heap.size ≤ W.heap.size → Calls Tryz.prog 208 #[rdV p, .int .i64 n, .func (.func 104) #[.pointer (some ⟨p, 0, none⟩)] #[]] W (ManyEnd 3 1 (gMany gByte n s1).1.length (cellsN (gMany gByte n s1).1) p h g (gMany gByte n s1).2 W) := fun W HW hz => manyN p h g gByte W n s1 HW (Nat.lt_of_lt_of_le hg hz) (by omega) (fun W' s' h' _ => gbyte_s p h g s' W' h')
  generalize (gMany gByte n s1).1.length = len at hMany ⊢
  generalize cellsN (gMany gByte n s1).1 = xs at hMany ⊢
  generalize (gMany gByte n s1).2 = s2 at hMany ⊢
  have c0 := hbox W1 (Chg.refl _ _)
  have hD1 : Chg W1 W1.drew (fun k => k = h) := Chg.drew _ _
  clear hE hnb
  go_enter Tryz.func150, Tryz.ntmps150
  go_wp2_with fail
  rw [← hW1]
  clear hW1
  go_region_held3 (fun W => W.cell? ⟨w.heap.size, 0, none⟩ = some (.pointer (some ⟨p, 0, none⟩))) (first | exact hbox _ hD3 | exact hbox _ hD2 | exact hbox _ hD1 | exact hbox _ (Chg.refl _ _) | go_keep) (first | (go_at_call 104; refine hFirst.mono ?_; rintro e w2 ⟨rfl, H2, hc2⟩; clear hFirst; have hD2 := hD1.trans hc2 fun _ _ e => e; have hM := hMany w2 H2 (Nat.le_trans hC1.size hD2.size); clear hMany) | (go_at_call 208; refine hM.mono ?_; rintro e w3 ⟨⟨v, rfl, hr3⟩, H3, hc3⟩; clear hM; have hD3 := hD2.trans hc3 fun _ _ e => e))
  all_goals
    go_wp2_with fail
    go_ret
    exact ⟨⟨_, rfl, row_lower4 hr3 (Nat.le_trans hC1.size hD2.size)⟩, H3, hC1.trans hD3 fun _ _ e => e⟩
end Go.Proofs.YtfnpngbcnmglfaaGreat
namespace Go.Proofs.YtfnpngbcnmglfaaGreat
open Go.RowKit
theorem or256 (hi lo : Nat) (h1 : hi ≤ 255) (h2 : lo ≤ 255) : bits BinOp.or IntKind.i64 (IntKind.i64.wrap ((hi : Int) * 256)) (lo : Int) = ((hi * 256 + lo : Nat) : Int) := by
  have e0 : IntKind.i64.wrap ((hi : Int) * 256) = (hi : Int) * 256 := by rw [IntKind.wrap_i64]; omega
  rw [e0]
  have e : (hi : Int) * 256 = ((hi * 256 : Nat) : Int) := by omega
  rw [e]
  show IntKind.i64.wrap ((BitVec.ofInt 64 ((hi * 256 : Nat) : Int) ||| BitVec.ofInt 64 (lo : Int)).toNat : Int) = _
  rw [BitVec.toNat_or, ofInt_u64 _ (by omega), ofInt_u64 _ (by omega), nat_join8 _ _ (by omega) (by omega), IntKind.wrap_i64]
  omega
theorem FnOwn.chg {w w' : World} {base h : Nat} {f : Fn} {u0 u1 u2 u3 : Value} (H : FnOwn w base f u0 u1 u2 u3) (hc : Chg w w' (fun k => k = h)) (hh : h < base) : FnOwn w' base f u0 u1 u2 u3 := by
  have key : ∀ {e : TypeId} {size n : Nat} {v : Value} {xs : List Value}, w.ownsRow base e size v n xs → w'.ownsRow base e size v n xs := fun hr => row_chg4 hr hc fun g hg e => by have := (row_lt4 hr g hg).1; omega
  exact ⟨key H.1, key H.2.1, key H.2.2.1, key H.2.2.2⟩
/-- How a function that was read ends. -/
def FnEnd (f : Fn) (p h g : Nat) (st : RSt) (w : World) (x : Ending) (w' : World) : Prop := (∃ u0 u1 u2 u3, x = .returned (.agg #[u0, u1, u2, u3]) ∧ FnOwn w' w.heap.size f u0 u1 u2 u3) ∧ RdS w' p h g st.1 st.2 ∧ Chg w w' (fun k => k = h)
theorem chg_set4 (w : World) (b : Nat) (x0 x1 x2 x3 : Value) : Chg w (set4 w b x0 x1 x2 x3) (fun k => k = b) :=
  (((Chg.setCell w ⟨b, 0, none⟩ x0).trans (Chg.setCell _ ⟨b, 1, none⟩ x1) fun _ _ e => e).trans (Chg.setCell _ ⟨b, 2, none⟩ x2) fun _ _ e => e).trans (Chg.setCell _ ⟨b, 3, none⟩ x3) fun _ _ e => e
set_option maxRecDepth 100000 in
set_option maxHeartbeats 1000000 in
theorem gfn_s (p h g : Nat) (s : RSt) (w : World) (H : RdS w p h g s.1 s.2) (hg : g < w.heap.size) : Calls Tryz.prog 107 #[rdV p] w (FnEnd (gFn s).1 p h g (gFn s).2 w) := by
  obtain ⟨hp, hh⟩ := rds_lt4 H
  obtain ⟨W1, hW1⟩ : ∃ W1, W1 = (w.alloc (.cells #[.pointer (some ⟨p, 0, none⟩)] 105)).alloc (.cells #[.slice none 0 0, .slice none 0 0, .slice none 0 0, .slice none 0 0] 49) := ⟨_, rfl⟩
  have hC1 : Chg w W1 (fun k => k = h) := by rw [hW1]; exact (Chg.alloc w _ _).trans (Chg.alloc _ _ _) (fun _ _ e => e)
  have H1 : RdS W1 p h g s.1 s.2 := by rw [hW1]; exact (H.chg (Chg.alloc w _ (fun _ => False)) id id id).chg (Chg.alloc _ _ (fun _ => False)) id id id
  have bA : W1.heap[w.heap.size]? = some (.cells #[.pointer (some ⟨p, 0, none⟩)] 105 (0, 0)) := by rw [hW1, Below.heap_alloc _ _ _ (by simp)]; exact heap_alloc_new w _
  have bB : W1.heap[w.heap.size + 1]? = some (.cells #[.slice none 0 0, .slice none 0 0, .slice none 0 0, .slice none 0 0] 49 (0, 0)) := by
    have := heap_alloc_new (w.alloc (.cells #[.pointer (some ⟨p, 0, none⟩)] 105)) (.cells #[.slice none 0 0, .slice none 0 0, .slice none 0 0, .slice none 0 0] 49)
    rw [hW1]; simpa using this
  have lB := lt_of_block bB
  have hbox : ∀ W, Chg W1 W (fun k => k = h) → W.cell? ⟨w.heap.size, 0, none⟩ = some (.pointer (some ⟨p, 0, none⟩)) := fun W hW => by
    rw [Lib.cell_of_heap ((hW.block _ (by omega) (by omega)).trans bA)]; rfl
  have hres : ∀ W, Chg W1 W (fun k => k = h) → W.heap[w.heap.size + 1]? = some (.cells #[.slice none 0 0, .slice none 0 0, .slice none 0 0, .slice none 0 0] 49 (0, 0)) := fun W hW => (hW.block _ lB (by omega)).trans bB
  have z1 := hC1.size
  have hgW : ∀ W, Chg W1 W (fun k => k = h) → g < W.heap.size := fun W hW => Nat.lt_of_lt_of_le hg (Nat.le_trans z1 hW.size)
  -- what is read
  have hT0 := gtypes_s p h g s W1.drew (H1.chg (Chg.drew W1 (fun _ => False)) id id id) (hgW _ (Chg.drew _ _))
  have hF : gFn s = (⟨(gTypes s).1, (gTypes (gTypes s).2).1, (gTypes (gTypes (gTypes s).2).2).1, (gCode (gTypes (gTypes (gTypes s).2).2).2).1⟩, (gCode (gTypes (gTypes (gTypes s).2).2).2).2) := rfl
  rw [hF]
  clear hF
  obtain ⟨P0, hP0⟩ : ∃ x, x = (gTypes s).1 := ⟨_, rfl⟩
  obtain ⟨s0, hs0⟩ : ∃ x, x = (gTypes s).2 := ⟨_, rfl⟩
  rw [← hP0, ← hs0] at hT0 ⊢
  have hT1 : ∀ W, RdS W p h g s0.1 s0.2 → Chg W1 W (fun k => k = h) → _ := fun W HW hW => gtypes_s p h g s0 W HW (hgW W hW)
  obtain ⟨P1, hP1⟩ : ∃ x, x = (gTypes s0).1 := ⟨_, rfl⟩
  obtain ⟨s1, hs1⟩ : ∃ x, x = (gTypes s0).2 := ⟨_, rfl⟩
  rw [← hP1, ← hs1] at hT1 ⊢
  have hT2 : ∀ W, RdS W p h g s1.1 s1.2 → Chg W1 W (fun k => k = h) → _ := fun W HW hW => gtypes_s p h g s1 W HW (hgW W hW)
  obtain ⟨P2, hP2⟩ : ∃ x, x = (gTypes s1).1 := ⟨_, rfl⟩
  obtain ⟨s2, hs2⟩ : ∃ x, x = (gTypes s1).2 := ⟨_, rfl⟩
  rw [← hP2, ← hs2] at hT2 ⊢
  obtain ⟨n1, l1, e1⟩ := gByte_nat s2
  obtain ⟨n2, l2, e2⟩ := gByte_nat (gByte s2).2
  have hB1 : ∀ W, RdS W p h g s2.1 s2.2 → _ := fun W HW => gbyte_s p h g s2 W HW
  have hG : gCode s2 = gMany gIns (n1 * 256 + n2) (gByte (gByte s2).2).2 := by unfold gCode; rw [e1, e2, Int.toNat_natCast, Int.toNat_natCast]
  rw [hG]
  rw [e1] at hB1
  generalize (gByte s2).2 = s3 at *
  have hB2 : ∀ W, RdS W p h g s3.1 s3.2 → _ := fun W HW => gbyte_s p h g s3 W HW
  rw [e2] at hB2
  generalize (gByte s3).2 = s4 at *
  have hM : ∀ W, RdS W p h g s4.1 s4.2 → Chg W1 W (fun k => k = h) → _ := fun W HW hW => manyI p h g gIns W (n1 * 256 + n2) s4 HW (hgW W hW) (by omega) (fun W' s' h' hz => gins_s p h g s' W' h' (Nat.lt_of_lt_of_le (hgW W hW) hz))
  have hor := or256 n1 n2 l1 l2
  generalize n1 * 256 + n2 = N at hM hor ⊢
  generalize (gMany gIns N s4).1 = P3 at hM ⊢
  generalize (gMany gIns N s4).2 = s5 at hM ⊢
  have fin : ∀ (w9 : World) u0 u1 u2 u3, w9.ownsRow w.heap.size 3 1 u0 P0.length (cellsN P0) → w9.ownsRow w.heap.size 3 1 u1 P1.length (cellsN P1) → w9.ownsRow w.heap.size 3 1 u2 P2.length (cellsN P2) → w9.ownsRow w.heap.size 83 2 u3 P3.length (cellsI P3) → RdS w9 p h g s5.1 s5.2 → Chg w w9 (fun k => k = h) → FnEnd ⟨P0, P1, P2, P3⟩ p h g s5 w (.returned (.agg #[u0, u1, u2, u3])) w9 := fun w9 u0 u1 u2 u3 q0 q1 q2 q3 HR hc => ⟨⟨u0, u1, u2, u3, rfl, q0, q1, q2, q3⟩, HR, hc⟩
  generalize P0.length = m0 at *
  generalize P1.length = m1 at *
  generalize P2.length = m2 at *
  generalize P3.length = m3 at *
  generalize cellsN P0 = x0 at *
  generalize cellsN P1 = x1 at *
  generalize cellsN P2 = x2 at *
  generalize cellsI P3 = x3 at *
  have hD0 : Chg W1 W1.drew (fun k => k = h) := Chg.drew _ _
  have c0 := hbox W1 (Chg.refl _ _)
  clear hG e1 e2 hP0 hP1 hP2 hs0 hs1 hs2
  go_enter Tryz.func107, Tryz.ntmps107
  go_wp2_with fail
  rw [← hW1]
  clear hW1
  go_region_held3 (fun W => W.cell? ⟨w.heap.size, 0, none⟩ = some (.pointer (some ⟨p, 0, none⟩))) (first | go_keep | exact hbox _ hD6 | exact hbox _ hD5 | exact hbox _ hD4 | exact hbox _ hD3 | exact hbox _ hD2 | exact hbox _ hD1 | exact hbox _ hD0 | exact hbox _ (Chg.refl _ _)) (first | (go_at_call 150; first | (refine hT0.mono ?_; clear hT0; rintro e w1 ⟨⟨r0, rfl, q0⟩, I1, k1⟩; obtain ⟨b0, d0, rfl, _⟩ := row_form q0; have hD1 := hD0.trans k1 fun _ _ e => e; have hU1 := hT1 w1 I1 hD1; clear hT1) | (refine hU1.mono ?_; clear hU1; rintro e w2 ⟨⟨r1, rfl, q1⟩, I2, k2⟩; obtain ⟨b1, d1, rfl, _⟩ := row_form q1; have hD2 := hD1.trans k2 fun _ _ e => e; have hU2 := hT2 w2 I2 hD2; clear hT2) | (refine hU2.mono ?_; clear hU2; rintro e w3 ⟨⟨r2, rfl, q2⟩, I3, k3⟩; obtain ⟨b2, d2, rfl, _⟩ := row_form q2; have hD3 := hD2.trans k3 fun _ _ e => e; have hU3 := hB1 w3 I3; clear hB1)) | (go_at_call 104; first | (refine hU3.mono ?_; clear hU3; rintro e w4 ⟨rfl, I4, k4⟩; have hD4 := hD3.trans k4 fun _ _ e => e; have hU4 := hB2 w4 I4; clear hB2) | (refine hU4.mono ?_; clear hU4; rintro e w5 ⟨rfl, I5, k5⟩; have hD5 := hD4.trans k5 fun _ _ e => e; have hU5 := hM w5 I5 hD5; clear hM)) | (go_at_call 151; refine hU5.mono ?_; clear hU5; rintro e w6 ⟨⟨r3, rfl, q3⟩, I6, k6⟩; obtain ⟨b3, d3, rfl, _⟩ := row_form q3; have hD6 := hD5.trans k6 fun _ _ e => e; have b6 := hres w6 hD6; have y0 : w6.cell? ⟨w.heap.size + 1, 0, none⟩ = some (.slice none 0 0) := (by rw [Lib.cell_of_heap b6]; rfl); have y1 : w6.cell? ⟨w.heap.size + 1, 1, none⟩ = some (.slice none 0 0) := (by rw [Lib.cell_of_heap b6]; rfl); have y2 : w6.cell? ⟨w.heap.size + 1, 2, none⟩ = some (.slice none 0 0) := (by rw [Lib.cell_of_heap b6]; rfl); have y3 : w6.cell? ⟨w.heap.size + 1, 3, none⟩ = some (.slice none 0 0) := (by rw [Lib.cell_of_heap b6]; rfl); have o0 := Lib.frozen_of_heap b6 0; have o1 := Lib.frozen_of_heap b6 1; have o2 := Lib.frozen_of_heap b6 2; have o3 := Lib.frozen_of_heap b6 3))
  all_goals
    have t1 : w.heap.size + 2 ≤ w1.heap.size := by have := hD1.size; omega
    have t2 : w.heap.size + 2 ≤ w2.heap.size := by have := hD2.size; omega
    have t5 : w.heap.size + 2 ≤ w5.heap.size := by have := hD5.size; omega
    have zz : W1.drew.heap.size = W1.heap.size := rfl
    have B0 : w.heap.size + 2 ≤ W1.drew.heap.size := by rw [zz]; omega
    have key : ∀ {W W' : World} {e : TypeId} {size n : Nat} {v : Value} {xs : List Value} {base : Nat}, W.ownsRow base e size v n xs → Chg W W' (fun k => k = h) → w.heap.size + 2 ≤ base → W'.ownsRow base e size v n xs := fun hr hc hb => row_chg4 hr hc fun g hg e => by have := (row_lt4 hr g hg).1; omega
    have T0 := key (key (key (key (key q0 k2 B0) k3 B0) k4 B0) k5 B0) k6 B0
    have T1 := key (key (key (key q1 k3 t1) k4 t1) k5 t1) k6 t1
    have T2 := key (key (key q2 k4 t2) k5 t2) k6 t2
    have Q0 := row_lower4 (set4_row (b := w.heap.size + 1) (.slice b0 m0 d0) (.slice b1 m1 d1) (.slice b2 m2 d2) (.slice b3 m3 d3) T0 (by omega)) (show w.heap.size ≤ _ by omega)
    have Q1 := row_lower4 (set4_row (b := w.heap.size + 1) (.slice b0 m0 d0) (.slice b1 m1 d1) (.slice b2 m2 d2) (.slice b3 m3 d3) T1 (by omega)) (show w.heap.size ≤ _ by omega)
    have Q2 := row_lower4 (set4_row (b := w.heap.size + 1) (.slice b0 m0 d0) (.slice b1 m1 d1) (.slice b2 m2 d2) (.slice b3 m3 d3) T2 (by omega)) (show w.heap.size ≤ _ by omega)
    have Q3 := row_lower4 (set4_row (b := w.heap.size + 1) (.slice b0 m0 d0) (.slice b1 m1 d1) (.slice b2 m2 d2) (.slice b3 m3 d3) q3 (by omega)) (show w.heap.size ≤ _ by omega)
    obtain ⟨j0, j1, j2, j3⟩ := set4_cells (.slice b0 m0 d0) (.slice b1 m1 d1) (.slice b2 m2 d2) (.slice b3 m3 d3) y0 y1 y2 y3
    have kk := chg_set4 w6 (w.heap.size + 1) (.slice b0 m0 d0) (.slice b1 m1 d1) (.slice b2 m2 d2) (.slice b3 m3 d3)
    have F := fin _ _ _ _ _ Q0 Q1 Q2 Q3 (I6.chg kk (by omega) (by omega) (by omega)) ((hC1.trans hD6 fun _ _ e => e).trans kk fun i hi e => by omega)
    rw [show ((((w6.setCell ⟨w.heap.size + 1, 0, none⟩ (.slice b0 m0 d0)).setCell ⟨w.heap.size + 1, 1, none⟩ (.slice b1 m1 d1)).setCell ⟨w.heap.size + 1, 2, none⟩ (.slice b2 m2 d2)).setCell ⟨w.heap.size + 1, 3, none⟩ (.slice b3 m3 d3)) = set4 w6 (w.heap.size + 1) (.slice b0 m0 d0) (.slice b1 m1 d1) (.slice b2 m2 d2) (.slice b3 m3 d3) from rfl]
    generalize set4 w6 (w.heap.size + 1) (.slice b0 m0 d0) (.slice b1 m1 d1) (.slice b2 m2 d2) (.slice b3 m3 d3) = W9 at j0 j1 j2 j3 F ⊢
    go_wp2_with fail
    exact bodyPost_ret (results_cell1 rfl _ _ _ _ _ rfl (load_fn j0 j1 j2 j3)) rfl F
end Go.Proofs.YtfnpngbcnmglfaaGreat
