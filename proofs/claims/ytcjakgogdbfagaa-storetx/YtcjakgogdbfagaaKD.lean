/- Layer 11: a transaction's Commit: the walk. -/
import Derived.Test.YtcjakgogdbfagaaKC
namespace Go.Proofs.Ytcjakgogdbfagaa
open Go.RowKit
theorem take_lenle {C : Kvs} {k n : Nat} (h : C.length ≤ n) : (C.take k).length ≤ n := Nat.le_trans (List.length_take_le' _ _) h
set_option maxRecDepth 100000 in
set_option maxHeartbeats 1000000 in
theorem commit_of (hsort : SortsP) (b : TxB) (L S D M : Kvs) (more : Int) (w : World) (h : TxAt b L S D more w) (hM : Shows L S D M) (hS : (L.length + S.length + D.length + 4) * 46 ≤ 140737488355328) (hL : L.length ≤ 1000000) (hm : M.length ≤ 512) (hsm : ∀ x ∈ M, x.1.length ≤ 281474976710656 ∧ x.2.length ≤ 281474976710656) :
    Calls Try.prog 17 #[.pointer (some ⟨b.xb, 0, none⟩)] w (CmEnd b M w) := by
  have HM := hidb (txmade_any b.xb w b.tb h.x0)
  have HC := hidb (commit_head hsort b L S D M more w h hM hS)
  have hL0 := h.t.srt
  have HA := hidb (And.intro hM (And.intro hS (And.intro hsm hL0)))
  clear h hM hS hsm hsort hL0
  obtain ⟨ll, hll⟩ : ∃ ll, ll = L.length := ⟨_, rfl⟩
  obtain ⟨gn, hgn⟩ : ∃ gn, gn = (M.length : Int) - L.length := ⟨_, rfl⟩
  have g0 : -1000000 ≤ gn := by omega
  have g1 : gn ≤ 512 := by omega
  have gd : decide (512 < (ll : Int) + gn) = false := by simp; omega
  rw [← hgn, ← hll] at HC
  rw [← hll] at hL
  clear hgn hll hm
  go_enter Try.func17, Try.ntmps17
  go_wp2_with (first
    | (go_at_call 32; refine HM.out.mono ?_; clear HM; rintro e w1 ⟨rfl, rfl⟩)
    | (go_at_call 20; refine HC.out.mono ?_; clear HC; rintro e w1 ⟨va, n, vc, rfl, x0, HC1, HG1⟩)
    | (go_at_call 34; refine HC1.out.mono ?_; clear HC1; rintro e w' ⟨rfl, rfl⟩)
    | (go_at_call 42; refine HG1.out.mono ?_; clear HG1; rintro e w2 ⟨rfl, K2⟩)
    | fail)
  obtain ⟨C, hnC, hnl, hdf, hI⟩ := K2.out
  have HI := hidb hI
  have Hn := hidb hnC
  have HD := hidb hdf
  have Hnl := hidb hnl
  clear hI hnC K2 hdf hnl
  have hnb : n ≤ 140737488355328 := cm_b2 HA.out.2.1 Hnl.out
  clear x0 gd g0 g1 hL
  go_loopw [23] (fun iv wr => ∃ k : Nat, iv = .int .i64 k ∧ k ≤ n ∧ Hid (CmI b L S D C more w1 va n vc k wr)) (fun iv _ => n - (intOf iv).toNat)
  case atStart => exact ⟨0, rfl, Nat.zero_le _, HI⟩
  case round =>
    obtain ⟨k, rfl, hk, HK⟩ := hrel
    clear HI
    by_cases hlt : k < n
    · have hkl : k < C.length := by rw [← Hn.out]; exact hlt
      have hr0 : wr.ownsRow (w1.heap.size + 2) 75 2 (.slice va n vc) C.length (cellsP C) := by obtain ⟨_, _, _, _, h4⟩ := HK.out; exact h4
      obtain ⟨g, eg, hg, e0, e1⟩ := row_pair hr0 hkl
      rw [eg]
      have hx : C[k] ∈ C := List.getElem_mem hkl
      have hmem : getL D C[k].1 = none → C[k] ∈ M := difs_mem HA.out.1 HD.out hx
      have hsz : (apL D L (C.take k)).length ≤ L.length + S.length + D.length := by
        have h1 := apL_lenle (D := D) (C := C.take k) HA.out.2.2.2
        have h2 : (C.take k).length ≤ S.length + D.length := take_lenle (by rw [← Hn.out]; exact Hnl.out)
        omega
      have hroom := cm_b3 HA.out.2.1 hsz
      have HX := hidb hmem
      have HB := hidb (HK.out.below ((Below.refl wr.heap.size wr).alloc (Nat.le_refl _) (.cells #[sv C[k].1, sv C[k].2] 75)))
      have HW : Hid (∀ W2 : World, Kt (fun _ => False) (wr.alloc (.cells #[sv C[k].1, sv C[k].2] 75)) W2 → CmI b L S D C more w1 va n vc k W2 → ∃ g', TxAt { b with g := g' } (apL D L (C.take k)) S D more W2 ∧ ∀ g2 w', TreeAt b.tb g2 (ap1 D (apL D L (C.take k)) C[k]) w' → (g2 = g' ∨ W2.heap.size ≤ g2) → Kt (fun i => i = b.tb ∨ i = g') W2 w' → CmI b L S D C more w1 va n vc (k + 1) w') := hidb fun W2 _ ⟨g', h1, h2, h3, h4⟩ => ⟨g', h1, fun g2 w' ht hg kt => CmI.step hkl h1 h2 h3 h4 ht hg kt⟩
      clear hr0 hmem hx HK
      generalize C[k] = x at e0 e1 HX HB HW
      obtain ⟨xa, xb⟩ := x
      simp only at e0 e1 HX HB HW
      have hbx0 := Lib.cell_of_heap (heap_alloc_new wr (.cells #[sv xa, sv xb] 75)) 0
      have hbx1 := Lib.cell_of_heap (heap_alloc_new wr (.cells #[sv xa, sv xb] 75)) 1
      go_wp2_with fail
      obtain ⟨W, hW⟩ : ∃ W, W = wr.alloc (.cells #[sv xa, sv xb] 75) := ⟨_, rfl⟩
      have hlW : wr.heap.size < W.heap.size := by rw [hW]; simp
      rw [← hW] at hbx0 hbx1 HB HW ⊢
      replace hbx0 : W.cell? ⟨wr.heap.size, 0, none⟩ = some (sv xa) := hbx0
      replace hbx1 : W.cell? ⟨wr.heap.size, 1, none⟩ = some (sv xb) := hbx1
      generalize wr.heap.size = pb at *
      have HE := hidb eg
      clear hW e0 e1 hg eg hsz
      have HT0 : Hid (∃ g', TxAt { b with g := g' } (apL D L (C.take k)) S D more W) := by obtain ⟨g', h1, _⟩ := HB.out; exact hidb ⟨g', h1⟩
      obtain ⟨g0, hT0⟩ := HT0.out
      have x1 : W.cell? ⟨b.xb, 1, none⟩ = some (.pointer (some ⟨b.cb, 0, none⟩)) := hT0.x1
      have x0 : W.cell? ⟨b.xb, 0, none⟩ = some (.pointer (some ⟨b.tb, 0, none⟩)) := hT0.x0
      have y1 : W.cell? ⟨b.cb, 1, none⟩ = some (.pointer (some ⟨b.wb, 0, none⟩)) := hT0.y1
      have HD0 := hidb fun M => has_t b.wb b.wg D (W.drewN M) xa (hT0.d.drewN M)
      clear hT0 HT0
      have HN : Hid (∀ W2, (∃ m, W2 = W.drewN m) → ∃ g', TxAt { b with g := g' } (apL D L (C.take k)) S D more W2 ∧ W2.cell? ⟨b.xb, 0, none⟩ = some (.pointer (some ⟨b.tb, 0, none⟩)) ∧ W2.cell? ⟨pb, 0, none⟩ = some (sv xa) ∧ W2.cell? ⟨pb, 1, none⟩ = some (sv xb) ∧ ∀ g2 w', TreeAt b.tb g2 (ap1 D (apL D L (C.take k)) (xa, xb)) w' → (g2 = g' ∨ W2.heap.size ≤ g2) → Kt (fun i => i = b.tb ∨ i = g') W2 w' → CmI b L S D C more w1 va n vc (k + 1) w') := hidb (by
        rintro W2 ⟨m, rfl⟩
        obtain ⟨g', h1, h2⟩ := HW.out (W.drewN m) ((Kt.refl _ W).drewN m) (HB.out.below (below_drewN (Below.refl _ W) m))
        exact ⟨g', h1, x0, hbx0, hbx1, h2⟩)
      clear HW HB
      cases hd : getL D xa with
      | some u =>
        rw [hd] at HD0
        simp only [Option.isSome_some] at HD0
        go_quiet ((go_at_call 39; exact Calls.quiet_of (HD0.out _)))
        clear HD0
        go_wp2_with fail
        obtain ⟨W2, hW2⟩ : ∃ W2, W2 = W.drewN nq := ⟨_, rfl⟩
        obtain ⟨g', h1, z0, z1, z2, h2⟩ := HN.out W2 ⟨nq, hW2⟩
        rw [← hW2]
        have HR : Hid (∀ M, Calls Try.prog 35 #[.pointer (some ⟨b.tb, 0, none⟩), sv xa] (W2.drewN M) fun e w' => ∃ r, e = .returned (.bool r) ∧ Hid (CmI b L S D C more w1 va n vc (k + 1) w')) := hidb fun M => (remove_any b.tb g' _ (W2.drewN M) xa (h1.t.drewN M)).mono fun e w' ⟨e1, H⟩ => ⟨_, e1, hidb (h2 g' w' (by
          have := H.out.1
          rw [ap1, if_pos (by rw [hd]; rfl)]
          exact this) (.inl rfl) (((Kt.refl _ W2).drewN M).trans H.out.2 fun _ _ e => e))⟩
        clear h1 h2 HN x0 x1 y1 hbx0 hbx1 z2 hW2
        go_region_with (go_at_call 35; refine (HR.out _).mono ?_; clear HR; rintro e w3 ⟨r, rfl, K3⟩)
        all_goals
          go_wp2_with fail
          exact ⟨⟨k + 1, by go_num, by omega, by rw [← HE.out]; exact K3⟩, by simp [intOf]; omega⟩
      | none =>
        rw [hd] at HD0
        simp only [Option.isSome_none] at HD0
        go_quiet ((go_at_call 39; exact Calls.quiet_of (HD0.out _)))
        clear HD0
        go_wp2_with fail
        obtain ⟨W2, hW2⟩ : ∃ W2, W2 = W.drewN nq := ⟨_, rfl⟩
        obtain ⟨g', h1, z0, z1, z2, h2⟩ := HN.out W2 ⟨nq, hW2⟩
        rw [← hW2]
        have hsx := HA.out.2.2.1 (xa, xb) (HX.out hd)
        have HR : Hid (∀ M, Calls Try.prog 36 #[.pointer (some ⟨b.tb, 0, none⟩), sv xa, sv xb] (W2.drewN M) fun e w' => e = .returned (.tuple #[]) ∧ Hid (CmI b L S D C more w1 va n vc (k + 1) w')) := hidb fun M => (put_any b.tb g' _ (W2.drewN M) xa xb (h1.t.drewN M) hsx.1 hsx.2 hroom).mono fun e w' ⟨e1, H⟩ => ⟨e1, by
          obtain ⟨g2, t2, hg2, kt2⟩ := H.out
          refine hidb (h2 g2 w' ?_ hg2 (((Kt.refl _ W2).drewN M).trans kt2 fun _ _ e => e))
          rw [ap1, if_neg (by rw [hd]; simp)]
          exact t2⟩
        clear h1 h2 HN x0 x1 y1 hbx0 hbx1 hW2 hsx hroom
        go_region_with (go_at_call 36; refine (HR.out _).mono ?_; clear HR; rintro e w3 ⟨rfl, K3⟩)
        all_goals
          go_wp2_with fail
          exact ⟨⟨k + 1, by go_num, by omega, by rw [← HE.out]; exact K3⟩, by simp [intOf]; omega⟩
    · have htk : C.take k = C := List.take_of_length_le (by rw [← Hn.out]; omega)
      obtain ⟨g', h1, h2, h3, h4⟩ := HK.out
      rw [htk, apL_shown HA.out.1 HA.out.2.2.2 HD.out] at h1
      have x1 : wr.cell? ⟨b.xb, 1, none⟩ = some (.pointer (some ⟨b.cb, 0, none⟩)) := h1.x1
      have HE : Hid (∀ m sb' wb' W2, (∃ sg' wg', TreeAt sb' sg' [] W2 ∧ TreeAt wb' wg' [] W2 ∧ [sb', sg', wb', wg'].Nodup ∧ (wr.drewN m).heap.size ≤ sb' ∧ (wr.drewN m).heap.size ≤ sg' ∧ (wr.drewN m).heap.size ≤ wb' ∧ (wr.drewN m).heap.size ≤ wg' ∧ Below (wr.drewN m).heap.size (wr.drewN m) W2) → (W2.cell? ⟨b.xb, 1, none⟩ = some (.pointer (some ⟨b.cb, 0, none⟩)) ∧ W2.cell? ⟨b.cb, 0, none⟩ = some (.pointer (some ⟨b.sb, 0, none⟩)) ∧ W2.cell? ⟨b.cb, 1, none⟩ = some (.pointer (some ⟨b.wb, 0, none⟩)) ∧ W2.cell? ⟨b.cb, 2, none⟩ = some (.int .i64 more) ∧ W2.frozen? ⟨b.cb, 0, none⟩ = false ∧ W2.frozen? ⟨b.cb, 1, none⟩ = false ∧ W2.frozen? ⟨b.cb, 2, none⟩ = false) ∧ CmEnd b M w1 (.returned (.int .i64 0)) (set3c W2 b.cb (.pointer (some ⟨sb', 0, none⟩)) (.pointer (some ⟨wb', 0, none⟩)) (.int .i64 0))) := hidb (by
        rintro m sb' wb' W2 ⟨sg', wg', t1, t2, nd, q1, q2, q3, q4, q5⟩
        have hT := (h1.drewN m).below q5
        refine ⟨⟨hT.x1, hT.y0, hT.y1, hT.y2, Lib.frozen_of_heap hT.cbx 0, Lib.frozen_of_heap hT.cbx 1, Lib.frozen_of_heap hT.cbx 2⟩, ⟨rfl, hidb ⟨g', sb', sg', wb', wg', (h1.drewN m).bare q5 t1 t2 nd q1 q2 q3 q4, h2, ?_, ?_, ?_, ?_, ?_⟩⟩⟩
        · have := h3.size; exact Nat.le_trans this q1
        · have := h3.size; exact Nat.le_trans this q2
        · have := h3.size; exact Nat.le_trans this q3
        · have := h3.size; exact Nat.le_trans this q4
        · have k1 : Kt (fun i => i = b.cb ∨ i = b.tb ∨ i = b.g) w1 W2 := ((h3.mono (R := fun i => i = b.cb ∨ i = b.tb ∨ i = b.g) fun i _ e => .inr e).drewN m).trans (Kt.below (S := fun i => i = b.cb ∨ i = b.tb ∨ i = b.g) q5) fun _ _ e => e
          unfold set3c
          exact ((k1.set fun _ => .inl rfl).set fun _ => .inl rfl).set fun _ => .inl rfl)
      have HN := hidb fun m => noChanges_any (wr.drewN m)
      clear h1 h2 h3 h4 htk
      go_wp2_with fail
      go_region_with (go_at_call 27; refine (HN.out _).mono ?_; clear HN; rintro e w3 ⟨s2, d2, rfl, K3⟩; obtain ⟨⟨q1, q2, q3, q4, q5, q6, q7⟩, hE⟩ := HE.out _ s2 d2 w3 K3.out; clear HE; have HE := hidb hE; clear hE K3)
      all_goals
        go_wp2_with fail
        go_ret
        exact HE.out
end Go.Proofs.Ytcjakgogdbfagaa
