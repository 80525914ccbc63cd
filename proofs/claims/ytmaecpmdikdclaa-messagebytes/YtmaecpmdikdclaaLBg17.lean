/- Layer 17: the law MessageBegins. -/
import Derived.Test.YtmaecpmdikdclaaMH
namespace Go.Proofs.Ytmaecpmdikdclaa
open Go.RowKit
theorem fol_mono {s t : St17} {r : Rec17} (h : fol s r = some t) : s.vw ≤ t.vw ∧ s.cm ≤ t.cm ∧ (s.nm ≤ s.vw → t.nm ≤ t.vw) ∧ (s.cm ≤ 2048 → s.log.length ≤ 2048 → t.cm ≤ 2048) := by
  unfold fol at h
  split at h
  · cases h
  split at h
  · unfold folV at h; split at h
    · cases h
    · injection h with h; subst h
      simp only
      omega
  split at h
  · unfold folL at h; split at h
    · cases h
    · injection h with h; subst h
      simp only
      omega
  · unfold folC at h; split at h
    · cases h
    · injection h with h; subst h
      simp only
      omega
theorem fold_mono : ∀ (R : List Rec17) {s t : St17}, foldS s R = some t → s.vw ≤ t.vw ∧ s.cm ≤ t.cm ∧ (s.nm ≤ s.vw → t.nm ≤ t.vw) ∧ (s.cm ≤ 2048 → s.log.length ≤ 2048 → t.cm ≤ 2048)
  | [], s, t, h => by
    injection h with h; subst h
    exact ⟨Int.le_refl _, Int.le_refl _, id, fun h _ => h⟩
  | r :: R, s, t, h => by
    rw [foldS_cons] at h
    cases hf : fol s r with
    | none => rw [hf] at h; cases h
    | some u =>
      rw [hf] at h
      obtain ⟨a, b, c, d⟩ := fol_mono hf
      obtain ⟨a', b', c', d'⟩ := fold_mono R (show foldS u R = some t from h)
      exact ⟨Int.le_trans a a', Int.le_trans b b', fun x => c' (c x), fun x y => d' (d x y) (fol_len hf y)⟩
theorem fold_begins {R : List Rec17} {s : St17} (h : foldS zeroS R = some s) (k : Nat) : ∃ t, foldS zeroS (R.take k) = some t ∧ t.vw ≤ s.vw ∧ t.cm ≤ s.cm ∧ t.nm ≤ t.vw ∧ t.cm ≤ 2048 := by
  rw [← List.take_append_drop k R, foldS_append] at h
  cases ht : foldS zeroS (R.take k) with
  | none => rw [ht] at h; cases h
  | some t =>
    rw [ht] at h
    obtain ⟨a, b, _⟩ := fold_mono (R.drop k) (show foldS t (R.drop k) = some s from h)
    obtain ⟨_, _, c, d⟩ := fold_mono (R.take k) ht
    exact ⟨t, rfl, a, b, c (by decide), d (by decide) (by decide)⟩
theorem RsAt17.take {C : Addr → Option Value} {ao : Option Addr} {R : List Rec17} (h : RsAt17 C ao R) (k : Nat) : RsAt17 C ao (R.take k) := by
  rcases h with h | ⟨b, off, h, hc⟩
  · subst h; exact .inl (by simp)
  · refine .inr ⟨b, off, h, fun j hj => ?_⟩
    rw [List.length_take] at hj
    simp only [List.getElem_take]
    exact hc j (by omega)
/-- Records that came in: not too many, none too long. -/
def Fair (R : List Rec17) : Prop := R.length ≤ 2513169434843 ∧ ∀ r ∈ R, (∀ x ∈ r.log, x.d.length ≤ 9223372036854775807) ∧ r.log.length ≤ 5864062014805
/-- Fold of the law's records of any records. -/
theorem foldrec_any (a : Option Addr) (n c : Nat) (R : List Rec17) (w : World) (hn : R.length = n) (hN : RsAt17 w.cell? a R) (hf : Fair R) : ∀ W, Below w.heap.size w W → Calls Try.prog 30 #[.slice a n c] W fun e w' => ∃ va vc, e = .returned (.slice va n vc) ∧ Below W.heap.size W w' ∧ Calls Try.prog 29 #[.slice va n vc] w' (FoldEnd R w') := fun W hW => by
  refine (recordsS_any a n c R W hn (hN.keep (below_keep hW)) (by rw [← hn]; exact hf.1) (fun r hr => (hf.2 r hr).2)).mono ?_
  rintro e w' ⟨v, rfl, hR, hb⟩
  obtain ⟨va, vc, rfl, hA⟩ := hR.at_ (fun r hr => ⟨(hf.2 r hr).1, Nat.le_trans (hf.2 r hr).2 (by decide)⟩)
  rw [hn]
  exact ⟨va, vc, rfl, hb, fold_any17 va n vc R w' hn hA (by have := hf.1; omega)⟩
theorem wrap64_in {x : Int} (h1 : -9223372036854775808 ≤ x) (h2 : x ≤ 9223372036854775807) : wrap64 x = x := by
  simp only [wrap64]; omega
theorem rem_fit (k n : Int) (hn : 0 ≤ n) (hm : n ≤ 1000000000000000) : ∃ q : Nat, (q : Int) ≤ n ∧ (wrap64 (wrap64 (k.tmod (n + 1) + n) + 1)).tmod (n + 1) = q := by
  have h1 : -(n + 1) < Int.tmod k (n + 1) := by
    have := Int.lt_tmod_of_pos k (show (0 : Int) < n + 1 by omega)
    omega
  have h2 := Int.tmod_nonneg (a := Int.tmod k (n + 1) + n + 1) (n + 1) (by omega)
  have h3 := Int.tmod_lt_of_pos (Int.tmod k (n + 1) + n + 1) (show (0 : Int) < n + 1 by omega)
  have h4 : Int.tmod k (n + 1) < n + 1 := Int.tmod_lt_of_pos k (show (0 : Int) < n + 1 by omega)
  rw [wrap64_in (x := Int.tmod k (n + 1) + n) (by omega) (by omega), wrap64_in (by omega) (by omega)]
  exact ⟨(Int.tmod (Int.tmod k (n + 1) + n + 1) (n + 1)).toNat, by omega, by omega⟩
set_option maxRecDepth 100000 in
set_option maxHeartbeats 1000000 in
theorem begins17_any (a : Option Addr) (n c : Nat) (R : List Rec17) (k : Int) (w : World) (hn : R.length = n) (hnc : n ≤ c) (hN : RsAt17 w.cell? a R) (hf : Fair R) : Calls Try.prog 7 #[.slice a n c, .int .i64 k] w fun e w' => e = .returned (.bool true) ∧ Below w.heap.size w w' := by
  have hF1 := foldrec_any a n c R w hn hN hf w (Below.refl _ _)
  have hbig : n ≤ 2513169434843 := by have := hf.1; omega
  have hKn := knows17_any
  have hF2 : ∀ q, q ≤ n → ∀ W, Below w.heap.size w W → _ := fun q hq => foldrec_any a q c (R.take q) w (by rw [List.length_take]; omega) (hN.take q) ⟨by rw [List.length_take]; have := hf.1; omega, fun r hr => hf.2 r (List.mem_of_mem_take hr)⟩
  have hbeg := fun s (h : foldS zeroS R = some s) q => fold_begins h q
  cases hfo : foldS zeroS R with
  | none =>
    have HO := hid hfo
    clear hfo hbeg hF2 hN hf hn
    go_enter Try.func7, Try.ntmps7
    go_wp2_with (go_at_call 30; refine hF1.mono ?_; clear hF1; rintro e w2 ⟨va, vc, rfl, hb2, hF⟩)
    refine hF.mono ?_
    clear hF
    rintro e w3 ⟨hb3, ⟨_, rfl⟩ | ⟨s, sa, sc, h0, _⟩⟩
    · have hb13 := hb2.trans (hb3.mono hb2.size)
      obtain ⟨W4, hW4⟩ : ∃ W, W = w3.alloc (.cells #[.int .i64 0, .int .i64 0, .int .i64 0, .slice none 0 0] 64) := ⟨_, rfl⟩
      have hb4 : Below w.heap.size w W4 := by rw [hW4]; exact hb13.alloc hb13.size _
      go_wp2_with (go_at_call 20; rw [← hW4]; refine (hKn _).mono ?_; rintro e w5 ⟨rfl, hb5⟩)
      go_ret
      exact ⟨rfl, hb4.trans (hb5.mono hb4.size)⟩
    · rw [HO.out] at h0; cases h0
  | some s =>
    have HO := hid hfo
    have HB := hid (hbeg s hfo)
    clear hfo hbeg hN hf hn
    obtain ⟨q, hq, hqe⟩ := rem_fit k n (by omega) (by omega)
    have hqn : q ≤ n := by omega
    have hqc : q ≤ c := by omega
    obtain ⟨t, ht, ht1, ht2, ht3, ht4⟩ := HB.out q
    have HT := hid ht
    clear ht HB
    go_enter Try.func7, Try.ntmps7
    go_wp2_with (go_at_call 30; refine hF1.mono ?_; clear hF1; rintro e w2 ⟨va, vc, rfl, hb2, hF⟩)
    refine hF.mono ?_
    clear hF
    rintro e w3 ⟨hb3, ⟨h0, _⟩ | ⟨s', sa, sc, h0, rfl, _⟩⟩
    · rw [HO.out] at h0; cases h0
    · rw [HO.out] at h0
      injection h0 with h0
      subst h0
      have hb13 := hb2.trans (hb3.mono hb2.size)
      obtain ⟨W4, hW4⟩ : ∃ W, W = w3.alloc (.cells #[.int .i64 s.vw, .int .i64 s.nm, .int .i64 s.cm, .slice sa s.log.length sc] 64) := ⟨_, rfl⟩
      have hb4 : Below w.heap.size w W4 := by rw [hW4]; exact hb13.alloc hb13.size _
      have hF3 := hF2 q hqn W4 hb4
      have bx : ∀ W, Below W4.heap.size W4 W → W.cell? ⟨w3.heap.size, 0, none⟩ = some (.int .i64 s.vw) ∧ W.cell? ⟨w3.heap.size, 2, none⟩ = some (.int .i64 s.cm) := fun W h => by
        have b4 : W4.heap[w3.heap.size]? = some (.cells #[.int .i64 s.vw, .int .i64 s.nm, .int .i64 s.cm, .slice sa s.log.length sc] 64 (0, 0)) := by rw [hW4]; exact heap_alloc_new w3 _
        have e := (h.block _ (lt_of_block b4)).trans b4
        exact ⟨by rw [Lib.cell_of_heap e]; rfl, by rw [Lib.cell_of_heap e]; rfl⟩
      clear hF2
      go_wp2_with fail
      rw [← hW4]
      clear hW4
      refine hF3.mono ?_
      clear hF3
      rintro e w5 ⟨vb, vd, rfl, hb5, hF⟩
      go_wp2_with fail
      refine hF.mono ?_
      clear hF
      rintro e w6 ⟨hb6, ⟨h0, _⟩ | ⟨t', ta, tc, h0, rfl, _⟩⟩
      · rw [HT.out] at h0; cases h0
      · rw [HT.out] at h0
        injection h0 with h0
        subst h0
        have hb46 : Below W4.heap.size W4 w6 := hb5.trans (hb6.mono hb5.size)
        obtain ⟨W7, hW7⟩ : ∃ W, W = w6.alloc (.cells #[.int .i64 t.vw, .int .i64 t.nm, .int .i64 t.cm, .slice ta t.log.length tc] 64) := ⟨_, rfl⟩
        have hb7 : Below W4.heap.size W4 W7 := by rw [hW7]; exact hb46.alloc hb46.size _
        obtain ⟨x0, x2⟩ := bx w6 hb46
        have hl3 : w3.heap.size < w6.heap.size := World.block_lt_of_cell? _ _ x0
        clear bx HO HT
        generalize s.log.length = sl at *
        generalize t.log.length = tl at *
        go_wp2_with (go_at_call 20; rw [← hW7]; refine (hKn _).mono ?_; rintro e w8 ⟨rfl, hb8⟩)
        go_ret
        exact ⟨rfl, hb4.trans ((hb7.trans (hb8.mono hb7.size)).mono hb4.size)⟩
end Go.Proofs.Ytmaecpmdikdclaa
