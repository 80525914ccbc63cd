/- Layer 15: Crash. -/
import Derived.Test.YtghhhlbpolhkhaaEO
namespace Go.Proofs.Ytghhhlbpolhkhaa
open Go.RowKit
theorem crclo15 (g : Fg) (f : Fl) (w : World) (h : FlAt w g f) : Calls Try.prog 23 #[.pointer (some ⟨g.fb, 0, none⟩)] w fun e w' => e = .returned (.bool (decide (f.cs.length = 0))) ∧ w' = w := by
  have HC := hidb (count15_any w g f h)
  clear h
  generalize f.cs.length = n at *
  go_enter Try.func23, Try.ntmps23
  go_wp2_with (first | (go_at_call 24; refine HC.out.mono ?_; clear HC; rintro e w' ⟨rfl, rfl⟩) | fail)
  go_ret
  refine ⟨?_, rfl⟩
  show Ending.returned (.bool ((n : Int) == 0)) = _
  rw [show ((n : Int) == 0) = decide (n = 0) by by_cases e : n = 0 <;> simp [e]]
/-- Files that are left. -/
def dropZ (zs : Zs) : Zs := zs.filter fun z => decide (z.2.cs.length ≠ 0)
/-- The first file without a sector. -/
def IdxEnd (zs : Zs) (w : World) (e : Ending) (w' : World) : Prop := w' = w ∧ ((e = .returned (.int .i64 (-1)) ∧ ∀ z ∈ zs, z.2.cs.length ≠ 0) ∨ ∃ (i : Nat) (h : i < zs.length), e = .returned (.int .i64 i) ∧ zs[i].2.cs.length = 0 ∧ ∀ t (h : t < zs.length), t < i → zs[t].2.cs.length ≠ 0)
set_option maxRecDepth 100000 in
set_option maxHeartbeats 1000000 in
theorem indexF15 {db vb : Nat} {fsv : Value} {zs : Zs} {most fuse : Int} {off : Bool} {w : World} (h : DAt db vb fsv zs most fuse off w) : Calls Try.prog 39 #[fsv, .func (.func 23) #[] #[]] w (IdxEnd zs w) := by
  obtain ⟨a, c, rfl, h1, h2⟩ := h.form
  have hn := h.nf
  have eF : ∀ args w, (callFunc 23 args).run Try.prog w = .ok (.enter 23 args) w := enters_of Try.func23 (by kernel_rfl) rfl
  have HA : Hid (∀ i (hi : i < zs.length), ∃ q, a = some ⟨q, 0, none⟩ ∧ w.cell? ⟨q, i, none⟩ = some (.pointer (some ⟨zs[i].1.fb, 0, none⟩)) ∧ Calls Try.prog 23 #[.pointer (some ⟨zs[i].1.fb, 0, none⟩)] w fun e w' => e = .returned (.bool (decide (zs[i].2.cs.length = 0))) ∧ w' = w) := hidb fun i hi => by
    obtain ⟨q, c', e, h3, _, h4, _⟩ := h.at_ i hi
    injection e with e _ _
    exact ⟨q, e, h3, crclo15 _ _ _ h4⟩
  clear h
  obtain ⟨n, hn'⟩ : ∃ n, n = zs.length := ⟨_, rfl⟩
  rw [← hn'] at h1 hn ⊢
  have HN := hidb hn'
  clear hn'
  go_enter Try.func39, Try.ntmps39
  go_wp2_with fail
  go_loopw [8] (fun iv wr => ∃ k : Nat, iv = .int .i64 k ∧ k ≤ n ∧ wr = w ∧ Hid (∀ t (h : t < zs.length), t < k → zs[t].2.cs.length ≠ 0)) (fun iv _ => n - (intOf iv).toNat)
  case atStart => exact ⟨0, rfl, Nat.zero_le _, rfl, hidb fun t _ h => absurd h (Nat.not_lt_zero _)⟩
  case round =>
    obtain ⟨k, rfl, hk, rfl, HI⟩ := hrel
    by_cases hlt : k < n
    · have hm : k < zs.length := by rw [← HN.out]; omega
      obtain ⟨q, rfl, hc, HC⟩ := HA.out _ hm
      have HC := hidb HC
      by_cases hb : zs[k].2.cs.length = 0
      · have HE : Hid (IdxEnd zs wr (.returned (.int .i64 k)) wr) := hidb ⟨rfl, .inr ⟨k, hm, rfl, hb, HI.out⟩⟩
        rw [decide_eq_true hb] at HC
        clear hb
        generalize zs[k].1.fb = fb at *
        go_wp2_with (go_at_fn 23; refine HC.out.mono ?_; clear HC; rintro e w' ⟨rfl, rfl⟩)
        go_ret
        exact HE.out
      · have HE : Hid (∀ t (h : t < zs.length), t < k + 1 → zs[t].2.cs.length ≠ 0) := hidb fun t ht htk => by
          by_cases e : t = k
          · subst e; exact hb
          · exact HI.out t ht (by omega)
        rw [decide_eq_false hb] at HC
        clear hb
        generalize zs[k].1.fb = fb at *
        go_wp2_with (go_at_fn 23; refine HC.out.mono ?_; clear HC; rintro e w' ⟨rfl, rfl⟩)
        refine ⟨⟨k + 1, by go_num, by omega, by first | rfl | trivial, HE⟩, by simp [intOf]; omega⟩
    · have HE : Hid (IdxEnd zs wr (.returned (.int .i64 (-1))) wr) := hidb ⟨rfl, .inl ⟨rfl, fun z hz => by
        obtain ⟨t, ht, rfl⟩ := List.getElem_of_mem hz
        exact HI.out t ht (by rw [← HN.out] at ht; omega)⟩⟩
      go_wp2_with fail
      go_ret
      exact HE.out
theorem dropZ_take (zs : Zs) (j : Nat) (h : j < zs.length) : dropZ (zs.take (j + 1)) = dropZ (zs.take j) ++ (if zs[j].2.cs.length = 0 then [] else [zs[j]]) := by
  unfold dropZ
  rw [List.take_succ_eq_append_getElem h, List.filter_append]
  congr 1
  by_cases e : zs[j].2.cs.length = 0
  · rw [if_pos e]
    exact List.filter_eq_nil_iff.2 fun z hz => by rw [List.mem_singleton.1 hz]; simp [List.eq_nil_of_length_eq_zero e]
  · rw [if_neg e]
    exact List.filter_eq_self.2 fun z hz => by rw [List.mem_singleton.1 hz]; exact decide_eq_true e
theorem dropZ_le (zs : Zs) (j : Nat) : (dropZ (zs.take j)).length ≤ j := Nat.le_trans (List.length_filter_le _ _) (by rw [List.length_take]; omega)
abbrev ptrs (zs : Zs) : List Value := zs.map fun z => .pointer (some ⟨z.1.fb, 0, none⟩)
/-- While files are dropped: j are looked at. -/
structure DlI (q n c : Nat) (zs : Zs) (i j : Nat) (w W : World) : Prop where
  il : i < j
  cnt : i = (dropZ (zs.take j)).length
  row : ∃ xs, W.ownsRow 0 58 1 (.slice (some ⟨q, 0, none⟩) n c) n xs ∧ xs.take i = ptrs (dropZ (zs.take j)) ∧ xs.drop j = ptrs (zs.drop j)
  kt : Kt (fun k => k = q) w W
theorem DlI.skip {q n c : Nat} {zs : Zs} {i j : Nat} {w W : World} (h : DlI q n c zs i j w W) (hj : j < zs.length) (e : zs[j].2.cs.length = 0) : DlI q n c zs i (j + 1) w W := by
  obtain ⟨xs, h1, h2, h3⟩ := h.row
  have e1 : dropZ (zs.take (j + 1)) = dropZ (zs.take j) := by rw [dropZ_take zs j hj, if_pos e, List.append_nil]
  refine ⟨by have := h.il; omega, by rw [e1]; exact h.cnt, ⟨xs, h1, by rw [e1]; exact h2, ?_⟩, h.kt⟩
  have := congrArg (List.drop 1) h3
  rw [List.drop_drop, show ptrs (zs.drop j) = (zs.drop j).map fun z => Value.pointer (some ⟨z.1.fb, 0, none⟩) from rfl, ← List.map_drop, List.drop_drop] at this
  exact this
theorem DlI.move {q n c : Nat} {zs : Zs} {i j : Nat} {w W : World} (h : DlI q n c zs i j w W) (hn : n = zs.length) (hj : j < zs.length) (e : zs[j].2.cs.length ≠ 0) : DlI q n c zs (i + 1) (j + 1) w (W.setCell ⟨q, i, none⟩ (.pointer (some ⟨zs[j].1.fb, 0, none⟩))) := by
  obtain ⟨xs, h1, h2, h3⟩ := h.row
  have hil := h.il
  have hxl : xs.length = n := by have := h1.1; omega
  have e1 : dropZ (zs.take (j + 1)) = dropZ (zs.take j) ++ [zs[j]] := by rw [dropZ_take zs j hj, if_neg e]
  obtain ⟨r1, r2⟩ := h1.stored i (.pointer (some ⟨zs[j].1.fb, 0, none⟩))
  refine ⟨by omega, by rw [e1, List.length_append, ← h.cnt]; rfl, ⟨_, r1, ?_, ?_⟩, h.kt.trans (Kt.grown (S := fun k => k = q) r2 rfl) fun _ _ x => x⟩
  · rw [e1, List.take_succ_eq_append_getElem (by rw [List.length_set]; omega), List.take_set_of_le (Nat.le_refl _), h2]
    simp
  · rw [List.drop_set_of_lt (by omega)]
    have := congrArg (List.drop 1) h3
    rw [List.drop_drop, show ptrs (zs.drop j) = (zs.drop j).map fun z => Value.pointer (some ⟨z.1.fb, 0, none⟩) from rfl, ← List.map_drop, List.drop_drop] at this
    exact this
theorem dropZ_none (zs : Zs) (i : Nat) (hi : i < zs.length) (hz : zs[i].2.cs.length = 0) (hlo : ∀ t (h : t < zs.length), t < i → zs[t].2.cs.length ≠ 0) : dropZ (zs.take (i + 1)) = zs.take i := by
  rw [dropZ_take zs i hi, if_pos hz, List.append_nil]
  refine List.filter_eq_self.2 fun z hz => ?_
  obtain ⟨t, ht, rfl⟩ := List.getElem_of_mem hz
  rw [List.length_take] at ht
  rw [List.getElem_take]
  exact decide_eq_true (hlo t (by omega) (by omega))
end Go.Proofs.Ytghhhlbpolhkhaa
