/- Layer 15: Crash. Layer 15: files without a sector are dropped. -/
import Derived.Test.YthmjejmignangaaGreatDoorEO
namespace Go.Proofs.YthmjejmignangaaGreatDoor
open Go.RowKit
theorem crclo15 (g : Fg) (f : Fl) (w : World) (h : FlAt w g f) : Calls Tryz.prog 46 #[.pointer (some ⟨g.fb, 0, none⟩)] w fun e w' => e = .returned (.bool (decide (f.cs.length = 0))) ∧ w' = w := by
  have HC := hidb (count15_any w g f h)
  clear h
  generalize f.cs.length = n at *
  go_enter Tryz.func46, Tryz.ntmps46
  go_wp2_with (first | (go_at_call 47; refine HC.out.mono ?_; clear HC; rintro e w' ⟨rfl, rfl⟩) | fail)
  go_ret
  refine ⟨?_, rfl⟩
  show Ending.returned (.bool ((n : Int) == 0)) = _
  rw [show ((n : Int) == 0) = decide (n = 0) by by_cases e : n = 0 <;> simp [e]]
/-- Files that are left. -/
def dropZ (zs : Zs) : Zs := zs.filter fun z => decide (z.2.cs.length ≠ 0)
/-- The first file without a sector. -/
def IdxEnd (zs : Zs) (w : World) (e : Ending) (w' : World) : Prop := w' = w ∧ ((e = .returned (.int .i64 (-1)) ∧ ∀ z ∈ zs, z.2.cs.length ≠ 0) ∨ ∃ (i : Nat) (h : i < zs.length), e = .returned (.int .i64 i) ∧ zs[i].2.cs.length = 0 ∧ ∀ t (h : t < zs.length), t < i → zs[t].2.cs.length ≠ 0)
set_option maxRecDepth 100000 in
set_option maxHeartbeats 1000000 in
theorem indexF15 {db vb : Nat} {fsv : Value} {zs : Zs} {most fuse : Int} {off : Bool} {w : World} (h : DAt db vb fsv zs most fuse off w) : Calls Tryz.prog 68 #[fsv, .func (.func 46) #[] #[]] w (IdxEnd zs w) := by
  obtain ⟨a, c, rfl, h1, h2⟩ := h.form
  have hn := h.nf
  have eF : ∀ args w, (callFunc 46 args).run Tryz.prog w = .ok (.enter 46 args) w := enters_of Tryz.func46 (by kernel_rfl) rfl
  have HA : Hid (∀ i (hi : i < zs.length), ∃ q, a = some ⟨q, 0, none⟩ ∧ w.cell? ⟨q, i, none⟩ = some (.pointer (some ⟨zs[i].1.fb, 0, none⟩)) ∧ Calls Tryz.prog 46 #[.pointer (some ⟨zs[i].1.fb, 0, none⟩)] w fun e w' => e = .returned (.bool (decide (zs[i].2.cs.length = 0))) ∧ w' = w) := hidb fun i hi => by
    obtain ⟨q, c', e, h3, _, h4, _⟩ := h.at_ i hi
    injection e with e _ _
    exact ⟨q, e, h3, crclo15 _ _ _ h4⟩
  clear h
  obtain ⟨n, hn'⟩ : ∃ n, n = zs.length := ⟨_, rfl⟩
  rw [← hn'] at h1 hn ⊢
  have HN := hidb hn'
  clear hn'
  go_enter Tryz.func68, Tryz.ntmps68
  go_wp2_with fail
  go_loopw [8] (fun iv wr => ∃ k : Nat, iv = .int .i64 k ∧ k ≤ n ∧ wr = w ∧ Hid (∀ t (h : t < zs.length), t < k → zs[t].2.cs.length ≠ 0)) (fun iv _ => n - (intOf iv).toNat)
  case atStart => exact ⟨0, rfl, Nat.zero_le _, rfl, hidb fun t _ h => absurd h (Nat.not_lt_zero _)⟩
  case round =>
    obtain ⟨k, rfl, hk, rfl, HI⟩ := hrel
    by_cases hlt : k < n
    · have hm : k < zs.length := by rw [← HN.out]; omega
      obtain ⟨q, rfl, hc, HC⟩ := HA.out _ hm
      have HC := hidb HC
      by_cases hb : zs[k].2.cs.length = 0
      · have HE : Hid (IdxEnd zs wr (.returned (.int .i64 k)) wr) := hidb ⟨rfl, .inr ⟨k, hm, rfl, hb, HI.out⟩⟩
        rw [decide_eq_true hb] at HC
        clear hb
        generalize zs[k].1.fb = fb at *
        go_wp2_with (go_at_fn 46; refine HC.out.mono ?_; clear HC; rintro e w' ⟨rfl, rfl⟩)
        go_ret
        exact HE.out
      · have HE : Hid (∀ t (h : t < zs.length), t < k + 1 → zs[t].2.cs.length ≠ 0) := hidb fun t ht htk => by
          by_cases e : t = k
          · subst e; exact hb
          · exact HI.out t ht (by omega)
        rw [decide_eq_false hb] at HC
        clear hb
        generalize zs[k].1.fb = fb at *
        go_wp2_with (go_at_fn 46; refine HC.out.mono ?_; clear HC; rintro e w' ⟨rfl, rfl⟩)
        refine ⟨⟨k + 1, by go_num, by omega, by first | rfl | trivial, HE⟩, by simp [intOf]; omega⟩
    · have HE : Hid (IdxEnd zs wr (.returned (.int .i64 (-1))) wr) := hidb ⟨rfl, .inl ⟨rfl, fun z hz => by
        obtain ⟨t, ht, rfl⟩ := List.getElem_of_mem hz
        exact HI.out t ht (by rw [← HN.out] at ht; omega)⟩⟩
      go_wp2_with fail
      go_ret
      exact HE.out
theorem dropZ_take (zs : Zs) (j : Nat) (h : j < zs.length) : dropZ (zs.take (j + 1)) = dropZ (zs.take j) ++ (if zs[j].2.cs.length = 0 then [] else [zs[j]]) := by
  unfold dropZ
  rw [List.take_succ_eq_append_getElem h, List.filter_append]
  congr 1
  by_cases e : zs[j].2.cs.length = 0
  · rw [if_pos e]
    exact List.filter_eq_nil_iff.2 fun z hz => by rw [List.mem_singleton.1 hz]; simp [List.eq_nil_of_length_eq_zero e]
  · rw [if_neg e]
    exact List.filter_eq_self.2 fun z hz => by rw [List.mem_singleton.1 hz]; exact decide_eq_true e
theorem dropZ_le (zs : Zs) (j : Nat) : (dropZ (zs.take j)).length ≤ j := Nat.le_trans (List.length_filter_le _ _) (by rw [List.length_take]; omega)
abbrev ptrs (zs : Zs) : List Value := zs.map fun z => .pointer (some ⟨z.1.fb, 0, none⟩)
/-- While files are dropped: j are looked at. -/
structure DlI (q n c : Nat) (zs : Zs) (i j : Nat) (w W : World) : Prop where
  il : i < j
  cnt : i = (dropZ (zs.take j)).length
  row : ∃ xs, W.ownsRow 0 110 1 (.slice (some ⟨q, 0, none⟩) n c) n xs ∧ xs.take i = ptrs (dropZ (zs.take j)) ∧ xs.drop j = ptrs (zs.drop j)
  kt : Kt (fun k => k = q) w W
theorem DlI.skip {q n c : Nat} {zs : Zs} {i j : Nat} {w W : World} (h : DlI q n c zs i j w W) (hj : j < zs.length) (e : zs[j].2.cs.length = 0) : DlI q n c zs i (j + 1) w W := by
  obtain ⟨xs, h1, h2, h3⟩ := h.row
  have e1 : dropZ (zs.take (j + 1)) = dropZ (zs.take j) := by rw [dropZ_take zs j hj, if_pos e, List.append_nil]
  refine ⟨by have := h.il; omega, by rw [e1]; exact h.cnt, ⟨xs, h1, by rw [e1]; exact h2, ?_⟩, h.kt⟩
  have := congrArg (List.drop 1) h3
  rw [List.drop_drop, show ptrs (zs.drop j) = (zs.drop j).map fun z => Value.pointer (some ⟨z.1.fb, 0, none⟩) from rfl, ← List.map_drop, List.drop_drop] at this
  exact this
theorem DlI.move {q n c : Nat} {zs : Zs} {i j : Nat} {w W : World} (h : DlI q n c zs i j w W) (hn : n = zs.length) (hj : j < zs.length) (e : zs[j].2.cs.length ≠ 0) : DlI q n c zs (i + 1) (j + 1) w (W.setCell ⟨q, i, none⟩ (.pointer (some ⟨zs[j].1.fb, 0, none⟩))) := by
  obtain ⟨xs, h1, h2, h3⟩ := h.row
  have hil := h.il
  have hxl : xs.length = n := by have := h1.1; omega
  have e1 : dropZ (zs.take (j + 1)) = dropZ (zs.take j) ++ [zs[j]] := by rw [dropZ_take zs j hj, if_neg e]
  obtain ⟨r1, r2⟩ := h1.stored i (.pointer (some ⟨zs[j].1.fb, 0, none⟩))
  refine ⟨by omega, by rw [e1, List.length_append, ← h.cnt]; rfl, ⟨_, r1, ?_, ?_⟩, h.kt.trans (Kt.grown (S := fun k => k = q) r2 rfl) fun _ _ x => x⟩
  · rw [e1, List.take_succ_eq_append_getElem (by rw [List.length_set]; omega), List.take_set_of_le (Nat.le_refl _), h2]
    simp
  · rw [List.drop_set_of_lt (by omega)]
    have := congrArg (List.drop 1) h3
    rw [List.drop_drop, show ptrs (zs.drop j) = (zs.drop j).map fun z => Value.pointer (some ⟨z.1.fb, 0, none⟩) from rfl, ← List.map_drop, List.drop_drop] at this
    exact this
theorem dropZ_none (zs : Zs) (i : Nat) (hi : i < zs.length) (hz : zs[i].2.cs.length = 0) (hlo : ∀ t (h : t < zs.length), t < i → zs[t].2.cs.length ≠ 0) : dropZ (zs.take (i + 1)) = zs.take i := by
  rw [dropZ_take zs i hi, if_pos hz, List.append_nil]
  refine List.filter_eq_self.2 fun z hz => ?_
  obtain ⟨t, ht, rfl⟩ := List.getElem_of_mem hz
  rw [List.length_take] at ht
  rw [List.getElem_take]
  exact decide_eq_true (hlo t (by omega) (by omega))
end Go.Proofs.YthmjejmignangaaGreatDoor
namespace Go.Proofs.YthmjejmignangaaGreatDoor
open Go.RowKit
theorem DlI.cells {q n c : Nat} {zs : Zs} {i j : Nat} {w W : World} (h : DlI q n c zs i j w W) (hn : n = zs.length) (hj : j < zs.length) : W.cell? ⟨q, j, none⟩ = some (.pointer (some ⟨zs[j].1.fb, 0, none⟩)) ∧ (∃ u, W.cell? ⟨q, i, none⟩ = some u) ∧ W.frozen? ⟨q, i, none⟩ = false := by
  obtain ⟨xs, h1, h2, h3⟩ := h.row
  have hxl : xs.length = n := by have := h1.1; omega
  have hil := h.il
  refine ⟨?_, ⟨xs[i]'(by omega), ?_⟩, h1.frozenAt i⟩
  · rw [h1.cellAt j (by omega)]
    have : (xs.drop j)[0]? = (ptrs (zs.drop j))[0]? := by rw [h3]
    rw [List.getElem?_drop, Nat.add_zero] at this
    rw [this, List.getElem?_map, List.getElem?_drop, Nat.add_zero, List.getElem?_eq_getElem hj]
    rfl
  · rw [h1.cellAt i (by omega), List.getElem?_eq_getElem]
/-- The rest is cleared. -/
theorem DlI.fin {q n c : Nat} {zs : Zs} {i : Nat} {w W : World} (h : DlI q n c zs i n w W) (hn : n = zs.length) : (∀ ty, (Builtin.clear_ #[107] ty #[.slice (some ⟨q, i, none⟩) (n - i) (c - i)]).run Tryz.prog W = .ok (.tuple #[]) (W.setCells q i (List.replicate (n - i) (.pointer none)))) ∧ Hid ((W.setCells q i (List.replicate (n - i) (.pointer none))).ownsRow 0 110 1 (.slice (some ⟨q, 0, none⟩) i c) (dropZ zs).length (ptrs (dropZ zs)) ∧ Kt (fun k => k = q) w (W.setCells q i (List.replicate (n - i) (.pointer none)))) := by
  obtain ⟨xs, h1, h2, h3⟩ := h.row
  have hxl : xs.length = n := by have := h1.1; omega
  have hil := h.il
  have hcell : ∀ t, t < n → (W.cell? ⟨q, t, none⟩).isSome = true := fun t ht => by rw [h1.cellAt t (by omega), List.getElem?_eq_getElem (by omega)]; rfl
  refine ⟨fun ty => ?_, hidb ?_⟩
  · exact Lib.run_clear_slice W _ _ ty (.pointer none) Tryz.underlying107 (fun w => by kernel_rfl) rfl rfl q i (n - i) (c - i) (by omega) (fun j hj => hcell _ (by omega)) (fun j _ => h1.frozenAt _)
  · have key : ∀ (vs : List Value) (o : Nat) (W' : World) (ys : List Value), W'.ownsRow 0 110 1 (.slice (some ⟨q, 0, none⟩) n c) n ys → Kt (fun k => k = q) w W' → i ≤ o → ∃ ys', (W'.setCells q o vs).ownsRow 0 110 1 (.slice (some ⟨q, 0, none⟩) n c) n ys' ∧ ys'.take i = ys.take i ∧ Kt (fun k => k = q) w (W'.setCells q o vs) := by
      intro vs
      induction vs with
      | nil => exact fun o W' ys h _ _ => ⟨ys, h, rfl, by assumption⟩
      | cons v vs ih =>
        intro o W' ys h hk ho
        obtain ⟨r1, r2⟩ := h.stored o v
        obtain ⟨ys', k1, k2, k3⟩ := ih (o + 1) _ _ r1 (hk.trans (Kt.grown (S := fun k => k = q) r2 rfl) fun _ _ x => x) (by omega)
        exact ⟨ys', k1, by rw [k2, List.take_set_of_le ho], k3⟩
    obtain ⟨ys, k1, k2, k3⟩ := key (List.replicate (n - i) (.pointer none)) i W xs h1 h.kt (Nat.le_refl _)
    refine ⟨?_, k3⟩
    have ez : zs.take n = zs := List.take_of_length_le (by omega)
    have hc := h.cnt
    rw [ez] at hc h2
    rw [← hc, ← h2, ← k2]
    rcases k1.2 with ⟨e, _⟩ | ⟨q', c', cur, e, b1, b2, b3, b4, b5, b6⟩
    · cases e
    · injection e with e1 _ e3
      injection e1 with e1
      injection e1 with e1
      subst e1; subst e3
      refine ⟨by rw [List.length_take]; have := k1.1; omega, .inr ⟨q, c, cur, rfl, b1, b2, by omega, b4, b5, ?_⟩⟩
      rw [← b6, List.take_take]
      congr 1
      omega
theorem DlI.start {q n c : Nat} {zs : Zs} {i : Nat} {w : World} (hi : i < zs.length) (hz : zs[i].2.cs.length = 0) (hlo : ∀ t (h : t < zs.length), t < i → zs[t].2.cs.length ≠ 0) (hr : w.ownsRow 0 110 1 (.slice (some ⟨q, 0, none⟩) n c) n (ptrs zs)) : DlI q n c zs i (i + 1) w w := by
  have e := dropZ_none zs i hi hz hlo
  refine ⟨by omega, by rw [e, List.length_take]; omega, ⟨ptrs zs, hr, ?_, ?_⟩, Kt.refl _ _⟩
  · rw [e]
    exact (List.map_take ..).symm
  · exact (List.map_drop ..).symm
set_option maxRecDepth 100000 in
set_option maxHeartbeats 1000000 in
theorem deleteF15 {db vb : Nat} {fsv : Value} {zs : Zs} {most fuse : Int} {off : Bool} {w : World} (h : DAt db vb fsv zs most fuse off w) (i : Nat) (hi : i < zs.length) (hz : zs[i].2.cs.length = 0) (hlo : ∀ t (h : t < zs.length), t < i → zs[t].2.cs.length ≠ 0) (HX : Hid (Calls Tryz.prog 68 #[fsv, .func (.func 46) #[] #[]] w fun e w' => e = .returned (.int .i64 i) ∧ w' = w)) : Calls Tryz.prog 45 #[fsv, .func (.func 46) #[] #[]] w fun e w' => ∃ a' n' c', e = .returned (.slice a' n' c') ∧ Hid (w'.ownsRow 0 110 1 (.slice a' n' c') (dropZ zs).length ((dropZ zs).map fun z => .pointer (some ⟨z.1.fb, 0, none⟩)) ∧ Kt (fun i => fsv.ownBlock = some i) w w' ∧ (Value.slice a' n' c').ownBlock = fsv.ownBlock) := by
  obtain ⟨a, c, rfl, h1, h2⟩ := h.form
  have hn := h.nf
  have eF : ∀ args w, (callFunc 46 args).run Tryz.prog w = .ok (.enter 46 args) w := enters_of Tryz.func46 (by kernel_rfl) rfl
  obtain ⟨q, rfl⟩ : ∃ q, a = some ⟨q, 0, none⟩ := by
    obtain ⟨q, c', e', _, _, _, _⟩ := h.at_ i hi
    injection e' with e' _ _
    exact ⟨q, e'⟩
  have H0 : Hid (DlI q zs.length c zs i (i + 1) w w) := hidb (DlI.start hi hz hlo h.row)
  have HA : Hid (∀ W j (hj : j < zs.length), Kt (fun k => k = q) w W → Calls Tryz.prog 46 #[.pointer (some ⟨zs[j].1.fb, 0, none⟩)] W fun e w' => e = .returned (.bool (decide (zs[j].2.cs.length = 0))) ∧ w' = W) := hidb fun W j hj hk => crclo15 _ _ _ ((h.fl _ (List.getElem_mem hj)).kt hk fun k hk2 e => (h.own _ (List.getElem_mem hj) k hk2).2.2 (by rw [e]; rfl))
  clear h hz hlo
  obtain ⟨n, hn'⟩ : ∃ n, n = zs.length := ⟨_, rfl⟩
  rw [← hn'] at h1 hn hi HX H0 ⊢
  have HN := hidb hn'
  clear hn'
  go_enter Tryz.func45, Tryz.ntmps45
  go_wp2_with (go_at_call 68; refine HX.out.mono ?_; clear HX; rintro e w1 ⟨rfl, rfl⟩)
  have hm1 : ((i : Int) == -1) = false := by simp
  rw [hm1]
  clear hm1
  go_loopw [5, 6] (fun iv jv wr => ∃ i j : Nat, iv = .int .i64 i ∧ jv = .int .i64 j ∧ j ≤ n ∧ i < n ∧ Hid (DlI q n c zs i j w1 wr)) (fun _ jv _ => n - (intOf jv).toNat)
  case atStart => exact ⟨i, i + 1, rfl, rfl, by omega, hi, H0⟩
  case round =>
    clear H0
    obtain ⟨k, j, rfl, rfl, hj, hk, HI⟩ := hrel
    have hkj := HI.out.il
    by_cases hlt : j < n
    · have hm : j < zs.length := by rw [← HN.out]; omega
      obtain ⟨d1, ⟨u0, d2⟩, d3⟩ := HI.out.cells HN.out hm
      have HC := hidb (HA.out wr j hm HI.out.kt)
      by_cases hb : zs[j].2.cs.length = 0
      · have HE := hidb (HI.out.skip hm hb)
        rw [decide_eq_true hb] at HC
        clear hb
        generalize zs[j].1.fb = fb at *
        go_wp2_with (go_at_fn 46; refine HC.out.mono ?_; clear HC; rintro e w' ⟨rfl, rfl⟩)
        refine ⟨⟨k, j + 1, rfl, by go_num, by omega, by omega, HE⟩, by simp [intOf]; omega⟩
      · have HE := hidb (HI.out.move HN.out hm hb)
        rw [decide_eq_false hb] at HC
        clear hb
        generalize zs[j].1.fb = fb at *
        go_wp2_with (go_at_fn 46; refine HC.out.mono ?_; clear HC; rintro e w' ⟨rfl, rfl⟩)
        refine ⟨⟨k + 1, j + 1, by go_num, by go_num, by omega, by omega, HE⟩, by simp [intOf]; omega⟩
    · obtain rfl : j = n := by omega
      obtain ⟨hcl, HE⟩ := HI.out.fin HN.out
      have hck : ¬ c = k := by omega
      clear HI HA
      generalize wr.setCells q k (List.replicate (j - k) (.pointer none)) = W9 at *
      go_wp2_with fail
      go_ret
      refine ⟨_, _, _, rfl, hidb ⟨HE.out.1, HE.out.2.mono fun i _ e => ?_, rfl⟩⟩
      rw [e]
      rfl
/-- What is left of the files. -/
theorem delete15_any {db vb : Nat} {fsv : Value} {zs : Zs} {most fuse : Int} {off : Bool} {w : World} (h : DAt db vb fsv zs most fuse off w) : Calls Tryz.prog 45 #[fsv, .func (.func 46) #[] #[]] w fun e w' => ∃ a' n' c', e = .returned (.slice a' n' c') ∧ Hid (w'.ownsRow 0 110 1 (.slice a' n' c') (dropZ zs).length (ptrs (dropZ zs)) ∧ Kt (fun i => fsv.ownBlock = some i) w w' ∧ (Value.slice a' n' c').ownBlock = fsv.ownBlock) := by
  by_cases hex : ∀ z ∈ zs, z.2.cs.length ≠ 0
  · have HX : Hid (Calls Tryz.prog 68 #[fsv, .func (.func 46) #[] #[]] w fun e w' => e = .returned (.int .i64 (-1)) ∧ w' = w) := hidb ((indexF15 h).mono fun e w' ⟨e1, e2⟩ => by
      rcases e2 with ⟨e2, _⟩ | ⟨i, hi, _, hz, _⟩
      · exact ⟨e2, e1⟩
      · exact absurd hz (hex _ (List.getElem_mem hi)))
    have ed : dropZ zs = zs := List.filter_eq_self.2 fun z hz => decide_eq_true (hex z hz)
    have HR := hidb h.row
    obtain ⟨a, c, rfl, h1, h2⟩ := h.form
    rw [ed]
    clear h hex ed
    generalize zs.length = n at *
    go_enter Tryz.func45, Tryz.ntmps45
    go_wp2_with (go_at_call 68; refine HX.out.mono ?_; clear HX; rintro e w1 ⟨rfl, rfl⟩)
    go_ret
    exact ⟨_, _, _, rfl, hidb ⟨HR.out, Kt.refl _ _, rfl⟩⟩
  · obtain ⟨i, hi, hz, hlo⟩ : ∃ (i : Nat) (hi : i < zs.length), zs[i].2.cs.length = 0 ∧ ∀ t (h : t < zs.length), t < i → zs[t].2.cs.length ≠ 0 := by
      have key : ∀ l : Zs, (¬ ∀ z ∈ l, z.2.cs.length ≠ 0) → ∃ (i : Nat) (hi : i < l.length), l[i].2.cs.length = 0 ∧ ∀ t (h : t < l.length), t < i → l[t].2.cs.length ≠ 0 := by
        intro l
        induction l with
        | nil => exact fun h => absurd (by simp) h
        | cons z l ih =>
          intro h
          by_cases e : z.2.cs.length = 0
          · exact ⟨0, by simp, e, fun t _ ht => absurd ht (Nat.not_lt_zero _)⟩
          · obtain ⟨i, hi, h1, h2⟩ := ih fun hh => h fun y hy => by
              rcases List.mem_cons.1 hy with rfl | x
              · exact e
              · exact hh y x
            refine ⟨i + 1, by simp; omega, by simpa using h1, fun t ht hti => ?_⟩
            cases t with
            | zero => exact e
            | succ t => simpa using h2 t (by simpa using ht) (by omega)
      exact key zs hex
    refine deleteF15 h i hi hz hlo (hidb ((indexF15 h).mono fun e w' ⟨e1, e2⟩ => ?_))
    rcases e2 with ⟨_, e2⟩ | ⟨i', hi', e3, hz', hlo'⟩
    · exact absurd e2 hex
    · have : i' = i := by
        rcases Nat.lt_trichotomy i i' with x | x | x
        · exact absurd hz (hlo' i hi x)
        · exact x.symm
        · exact absurd hz' (hlo i' hi' x)
      subst this
      exact ⟨e3, e1⟩
end Go.Proofs.YthmjejmignangaaGreatDoor
