/- Layer 15: files without a sector are dropped. -/
import Derived.Test.YtghhhlbpolhkhaaEP
namespace Go.Proofs.Ytghhhlbpolhkhaa
open Go.RowKit
theorem DlI.cells {q n c : Nat} {zs : Zs} {i j : Nat} {w W : World} (h : DlI q n c zs i j w W) (hn : n = zs.length) (hj : j < zs.length) : W.cell? ⟨q, j, none⟩ = some (.pointer (some ⟨zs[j].1.fb, 0, none⟩)) ∧ (∃ u, W.cell? ⟨q, i, none⟩ = some u) ∧ W.frozen? ⟨q, i, none⟩ = false := by
  obtain ⟨xs, h1, h2, h3⟩ := h.row
  have hxl : xs.length = n := by have := h1.1; omega
  have hil := h.il
  refine ⟨?_, ⟨xs[i]'(by omega), ?_⟩, h1.frozenAt i⟩
  · rw [h1.cellAt j (by omega)]
    have : (xs.drop j)[0]? = (ptrs (zs.drop j))[0]? := by rw [h3]
    rw [List.getElem?_drop, Nat.add_zero] at this
    rw [this, List.getElem?_map, List.getElem?_drop, Nat.add_zero, List.getElem?_eq_getElem hj]
    rfl
  · rw [h1.cellAt i (by omega), List.getElem?_eq_getElem]
/-- The rest is cleared. -/
theorem DlI.fin {q n c : Nat} {zs : Zs} {i : Nat} {w W : World} (h : DlI q n c zs i n w W) (hn : n = zs.length) : (∀ ty, (Builtin.clear_ #[55] ty #[.slice (some ⟨q, i, none⟩) (n - i) (c - i)]).run Try.prog W = .ok (.tuple #[]) (W.setCells q i (List.replicate (n - i) (.pointer none)))) ∧ Hid ((W.setCells q i (List.replicate (n - i) (.pointer none))).ownsRow 0 58 1 (.slice (some ⟨q, 0, none⟩) i c) (dropZ zs).length (ptrs (dropZ zs)) ∧ Kt (fun k => k = q) w (W.setCells q i (List.replicate (n - i) (.pointer none)))) := by
  obtain ⟨xs, h1, h2, h3⟩ := h.row
  have hxl : xs.length = n := by have := h1.1; omega
  have hil := h.il
  have hcell : ∀ t, t < n → (W.cell? ⟨q, t, none⟩).isSome = true := fun t ht => by rw [h1.cellAt t (by omega), List.getElem?_eq_getElem (by omega)]; rfl
  refine ⟨fun ty => ?_, hidb ?_⟩
  · exact Lib.run_clear_slice W _ _ ty (.pointer none) Try.underlying55 (fun w => by kernel_rfl) rfl rfl q i (n - i) (c - i) (by omega) (fun j hj => hcell _ (by omega)) (fun j _ => h1.frozenAt _)
  · have key : ∀ (vs : List Value) (o : Nat) (W' : World) (ys : List Value), W'.ownsRow 0 58 1 (.slice (some ⟨q, 0, none⟩) n c) n ys → Kt (fun k => k = q) w W' → i ≤ o → ∃ ys', (W'.setCells q o vs).ownsRow 0 58 1 (.slice (some ⟨q, 0, none⟩) n c) n ys' ∧ ys'.take i = ys.take i ∧ Kt (fun k => k = q) w (W'.setCells q o vs) := by
      intro vs
      induction vs with
      | nil => exact fun o W' ys h _ _ => ⟨ys, h, rfl, by assumption⟩
      | cons v vs ih =>
        intro o W' ys h hk ho
        obtain ⟨r1, r2⟩ := h.stored o v
        obtain ⟨ys', k1, k2, k3⟩ := ih (o + 1) _ _ r1 (hk.trans (Kt.grown (S := fun k => k = q) r2 rfl) fun _ _ x => x) (by omega)
        exact ⟨ys', k1, by rw [k2, List.take_set_of_le ho], k3⟩
    obtain ⟨ys, k1, k2, k3⟩ := key (List.replicate (n - i) (.pointer none)) i W xs h1 h.kt (Nat.le_refl _)
    refine ⟨?_, k3⟩
    have ez : zs.take n = zs := List.take_of_length_le (by omega)
    have hc := h.cnt
    rw [ez] at hc h2
    rw [← hc, ← h2, ← k2]
    rcases k1.2 with ⟨e, _⟩ | ⟨q', c', cur, e, b1, b2, b3, b4, b5, b6⟩
    · cases e
    · injection e with e1 _ e3
      injection e1 with e1
      injection e1 with e1
      subst e1; subst e3
      refine ⟨by rw [List.length_take]; have := k1.1; omega, .inr ⟨q, c, cur, rfl, b1, b2, by omega, b4, b5, ?_⟩⟩
      rw [← b6, List.take_take]
      congr 1
      omega
theorem DlI.start {q n c : Nat} {zs : Zs} {i : Nat} {w : World} (hi : i < zs.length) (hz : zs[i].2.cs.length = 0) (hlo : ∀ t (h : t < zs.length), t < i → zs[t].2.cs.length ≠ 0) (hr : w.ownsRow 0 58 1 (.slice (some ⟨q, 0, none⟩) n c) n (ptrs zs)) : DlI q n c zs i (i + 1) w w := by
  have e := dropZ_none zs i hi hz hlo
  refine ⟨by omega, by rw [e, List.length_take]; omega, ⟨ptrs zs, hr, ?_, ?_⟩, Kt.refl _ _⟩
  · rw [e]
    exact (List.map_take ..).symm
  · exact (List.map_drop ..).symm
set_option maxRecDepth 100000 in
set_option maxHeartbeats 1000000 in
theorem deleteF15 {db vb : Nat} {fsv : Value} {zs : Zs} {most fuse : Int} {off : Bool} {w : World} (h : DAt db vb fsv zs most fuse off w) (i : Nat) (hi : i < zs.length) (hz : zs[i].2.cs.length = 0) (hlo : ∀ t (h : t < zs.length), t < i → zs[t].2.cs.length ≠ 0) (HX : Hid (Calls Try.prog 39 #[fsv, .func (.func 23) #[] #[]] w fun e w' => e = .returned (.int .i64 i) ∧ w' = w)) : Calls Try.prog 22 #[fsv, .func (.func 23) #[] #[]] w fun e w' => ∃ a' n' c', e = .returned (.slice a' n' c') ∧ Hid (w'.ownsRow 0 58 1 (.slice a' n' c') (dropZ zs).length ((dropZ zs).map fun z => .pointer (some ⟨z.1.fb, 0, none⟩)) ∧ Kt (fun i => fsv.ownBlock = some i) w w' ∧ (Value.slice a' n' c').ownBlock = fsv.ownBlock) := by
  obtain ⟨a, c, rfl, h1, h2⟩ := h.form
  have hn := h.nf
  have eF : ∀ args w, (callFunc 23 args).run Try.prog w = .ok (.enter 23 args) w := enters_of Try.func23 (by kernel_rfl) rfl
  obtain ⟨q, rfl⟩ : ∃ q, a = some ⟨q, 0, none⟩ := by
    obtain ⟨q, c', e', _, _, _, _⟩ := h.at_ i hi
    injection e' with e' _ _
    exact ⟨q, e'⟩
  have H0 : Hid (DlI q zs.length c zs i (i + 1) w w) := hidb (DlI.start hi hz hlo h.row)
  have HA : Hid (∀ W j (hj : j < zs.length), Kt (fun k => k = q) w W → Calls Try.prog 23 #[.pointer (some ⟨zs[j].1.fb, 0, none⟩)] W fun e w' => e = .returned (.bool (decide (zs[j].2.cs.length = 0))) ∧ w' = W) := hidb fun W j hj hk => crclo15 _ _ _ ((h.fl _ (List.getElem_mem hj)).kt hk fun k hk2 e => (h.own _ (List.getElem_mem hj) k hk2).2.2 (by rw [e]; rfl))
  clear h hz hlo
  obtain ⟨n, hn'⟩ : ∃ n, n = zs.length := ⟨_, rfl⟩
  rw [← hn'] at h1 hn hi HX H0 ⊢
  have HN := hidb hn'
  clear hn'
  go_enter Try.func22, Try.ntmps22
  go_wp2_with (go_at_call 39; refine HX.out.mono ?_; clear HX; rintro e w1 ⟨rfl, rfl⟩)
  have hm1 : ((i : Int) == -1) = false := by simp
  rw [hm1]
  clear hm1
  go_loopw [5, 6] (fun iv jv wr => ∃ i j : Nat, iv = .int .i64 i ∧ jv = .int .i64 j ∧ j ≤ n ∧ i < n ∧ Hid (DlI q n c zs i j w1 wr)) (fun _ jv _ => n - (intOf jv).toNat)
  case atStart => exact ⟨i, i + 1, rfl, rfl, by omega, hi, H0⟩
  case round =>
    clear H0
    obtain ⟨k, j, rfl, rfl, hj, hk, HI⟩ := hrel
    have hkj := HI.out.il
    by_cases hlt : j < n
    · have hm : j < zs.length := by rw [← HN.out]; omega
      obtain ⟨d1, ⟨u0, d2⟩, d3⟩ := HI.out.cells HN.out hm
      have HC := hidb (HA.out wr j hm HI.out.kt)
      by_cases hb : zs[j].2.cs.length = 0
      · have HE := hidb (HI.out.skip hm hb)
        rw [decide_eq_true hb] at HC
        clear hb
        generalize zs[j].1.fb = fb at *
        go_wp2_with (go_at_fn 23; refine HC.out.mono ?_; clear HC; rintro e w' ⟨rfl, rfl⟩)
        refine ⟨⟨k, j + 1, rfl, by go_num, by omega, by omega, HE⟩, by simp [intOf]; omega⟩
      · have HE := hidb (HI.out.move HN.out hm hb)
        rw [decide_eq_false hb] at HC
        clear hb
        generalize zs[j].1.fb = fb at *
        go_wp2_with (go_at_fn 23; refine HC.out.mono ?_; clear HC; rintro e w' ⟨rfl, rfl⟩)
        refine ⟨⟨k + 1, j + 1, by go_num, by go_num, by omega, by omega, HE⟩, by simp [intOf]; omega⟩
    · obtain rfl : j = n := by omega
      obtain ⟨hcl, HE⟩ := HI.out.fin HN.out
      have hck : ¬ c = k := by omega
      clear HI HA
      generalize wr.setCells q k (List.replicate (j - k) (.pointer none)) = W9 at *
      go_wp2_with fail
      go_ret
      refine ⟨_, _, _, rfl, hidb ⟨HE.out.1, HE.out.2.mono fun i _ e => ?_, rfl⟩⟩
      rw [e]
      rfl
/-- What is left of the files. -/
theorem delete15_any {db vb : Nat} {fsv : Value} {zs : Zs} {most fuse : Int} {off : Bool} {w : World} (h : DAt db vb fsv zs most fuse off w) : Calls Try.prog 22 #[fsv, .func (.func 23) #[] #[]] w fun e w' => ∃ a' n' c', e = .returned (.slice a' n' c') ∧ Hid (w'.ownsRow 0 58 1 (.slice a' n' c') (dropZ zs).length (ptrs (dropZ zs)) ∧ Kt (fun i => fsv.ownBlock = some i) w w' ∧ (Value.slice a' n' c').ownBlock = fsv.ownBlock) := by
  by_cases hex : ∀ z ∈ zs, z.2.cs.length ≠ 0
  · have HX : Hid (Calls Try.prog 39 #[fsv, .func (.func 23) #[] #[]] w fun e w' => e = .returned (.int .i64 (-1)) ∧ w' = w) := hidb ((indexF15 h).mono fun e w' ⟨e1, e2⟩ => by
      rcases e2 with ⟨e2, _⟩ | ⟨i, hi, _, hz, _⟩
      · exact ⟨e2, e1⟩
      · exact absurd hz (hex _ (List.getElem_mem hi)))
    have ed : dropZ zs = zs := List.filter_eq_self.2 fun z hz => decide_eq_true (hex z hz)
    have HR := hidb h.row
    obtain ⟨a, c, rfl, h1, h2⟩ := h.form
    rw [ed]
    clear h hex ed
    generalize zs.length = n at *
    go_enter Try.func22, Try.ntmps22
    go_wp2_with (go_at_call 39; refine HX.out.mono ?_; clear HX; rintro e w1 ⟨rfl, rfl⟩)
    go_ret
    exact ⟨_, _, _, rfl, hidb ⟨HR.out, Kt.refl _ _, rfl⟩⟩
  · obtain ⟨i, hi, hz, hlo⟩ : ∃ (i : Nat) (hi : i < zs.length), zs[i].2.cs.length = 0 ∧ ∀ t (h : t < zs.length), t < i → zs[t].2.cs.length ≠ 0 := by
      have key : ∀ l : Zs, (¬ ∀ z ∈ l, z.2.cs.length ≠ 0) → ∃ (i : Nat) (hi : i < l.length), l[i].2.cs.length = 0 ∧ ∀ t (h : t < l.length), t < i → l[t].2.cs.length ≠ 0 := by
        intro l
        induction l with
        | nil => exact fun h => absurd (by simp) h
        | cons z l ih =>
          intro h
          by_cases e : z.2.cs.length = 0
          · exact ⟨0, by simp, e, fun t _ ht => absurd ht (Nat.not_lt_zero _)⟩
          · obtain ⟨i, hi, h1, h2⟩ := ih fun hh => h fun y hy => by
              rcases List.mem_cons.1 hy with rfl | x
              · exact e
              · exact hh y x
            refine ⟨i + 1, by simp; omega, by simpa using h1, fun t ht hti => ?_⟩
            cases t with
            | zero => exact e
            | succ t => simpa using h2 t (by simpa using ht) (by omega)
      exact key zs hex
    refine deleteF15 h i hi hz hlo (hidb ((indexF15 h).mono fun e w' ⟨e1, e2⟩ => ?_))
    rcases e2 with ⟨_, e2⟩ | ⟨i', hi', e3, hz', hlo'⟩
    · exact absurd e2 hex
    · have : i' = i := by
        rcases Nat.lt_trichotomy i i' with x | x | x
        · exact absurd hz (hlo' i hi x)
        · exact x.symm
        · exact absurd hz' (hlo i' hi' x)
      subst this
      exact ⟨e3, e1⟩
end Go.Proofs.Ytghhhlbpolhkhaa
