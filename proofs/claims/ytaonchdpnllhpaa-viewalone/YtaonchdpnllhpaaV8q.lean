/- Layer 18: New. -/
import Derived.Test.YtaonchdpnllhpaaV8m
import Derived.Test.YtaonchdpnllhpaaV8o
namespace Go.Proofs.Ytaonchdpnllhpaa
open Go.RowKit
set_option maxRecDepth 100000 in
set_option maxHeartbeats 1000000 in
theorem rightState_any18 (vw nm cm : Int) (L : List Ent) (a : Option Addr) (n c : Nat) (w : World) (h0 : 0 ≤ nm) (h1 : nm ≤ vw) (h2 : vw ≤ 549755813888) (h3 : 0 ≤ cm) (h4 : cm ≤ n) (hn : L.length = n) (hok : logOk L = true) (hN : EsAt w.cell? a L) : Calls Try.prog 16 #[.agg #[.int .i64 vw, .int .i64 nm, .int .i64 cm, .slice a n c]] w fun e w' => e = .returned (.bool true) ∧ Below w.heap.size w w' := by
  have hs : ∀ x ∈ L, x.d.length ≤ 9223372036854775807 := by
    intro x hx
    unfold logOk at hok
    simp only [Bool.and_eq_true, List.all_eq_true] at hok
    have := hok.2 x hx
    unfold Ent.ok at this
    simp only [Bool.and_eq_true, decide_eq_true_eq] at this
    omega
  have hr : (Rec17.mk 2 0 0 0 L).ok = true := by
    unfold Rec17.ok
    simp [hok, inB]
  have HR : Hid (∀ W, Below w.heap.size w W → Calls Try.prog 29 #[recV 2 0 0 0 (.slice a n c)] W fun e w' => e = .returned (.bool true) ∧ Below W.heap.size W w') := hid fun W hW => by
    have := rightRec17_any ⟨2, 0, 0, 0, L⟩ a n c W hn (hN.keep (below_keep18 hW)) hs
    rw [hr] at this
    exact this
  clear hN hs hr hok hn
  unfold recV at HR
  go_enter Try.func16, Try.ntmps16
  go_wp2_with (first
    | (go_at_call 29; refine (HR.out _ ((Below.refl _ w).alloc (Nat.le_refl _) _)).mono ?_; clear HR; rintro e W2 ⟨rfl, b2⟩; replace b2 := ((Below.refl _ w).alloc (Nat.le_refl _) _).trans (b2.mono (by simp)))
    | fail)
  go_ret
  exact ⟨rfl, b2⟩
theorem ret_tmps2 {P : Program} {fn : Func} {R : Ending → World → Prop} {a : Act} {r u : Tmp} {W : World} (h : fn.results = #[.tmp r, .tmp u]) (hd : a.defers = []) (hR : R (.returned (.tuple #[a.tmps[r]?.getD undef, a.tmps[u]?.getD undef])) W) : bodyPost P fn R .ret a W :=
  bodyPost_ret (by simp [results, h]) hd hR
theorem four_in18 (n : Nat) (h : n = 1 ∨ n = 3 ∨ n = 5 ∨ n = 7) : (([1, 3, 5, 7] : List Int).take 4).contains (n : Int) = true := by
  rcases h with rfl | rfl | rfl | rfl <;> decide
set_option maxRecDepth 100000 in
set_option maxHeartbeats 1000000 in
theorem new_any18 (vw nm cm : Int) (L : List Ent) (a : Option Addr) (k c id n : Nat) (w : World) (hn4 : n = 1 ∨ n = 3 ∨ n = 5 ∨ n = 7) (hid' : id < n) (h0 : 0 ≤ nm) (h1 : nm ≤ vw) (h2 : vw ≤ 549755813888) (h3 : 0 ≤ cm) (h4 : cm ≤ k) (hk : L.length = k) (hok : logOk L = true) (hN : EsAt w.cell? a L) : Calls Try.prog 5 #[.int .i64 id, .int .i64 n, .agg #[.int .i64 vw, .int .i64 nm, .int .i64 cm, .slice a k c]] w fun e w' => ∃ R la lc, e = .returned (.tuple #[.pointer (some ⟨R.rb, 0, none⟩), .int .i64 0]) ∧ RA R ⟨vw, nm, cm, false, id, n, nm == vw, false, 0⟩ (List.replicate n 0) la k lc L w' ∧ R.base = w.heap.size ∧ w.heap.size ≤ R.pb ∧ w.heap.size ≤ R.rb ∧ Below w.heap.size w w' := by
  have hn1 : 1 ≤ n := by omega
  have hn7 : n ≤ 7 := by omega
  have hs : ∀ x ∈ L, x.d.length ≤ 281474976710656 := by
    intro x hx
    unfold logOk at hok
    simp only [Bool.and_eq_true, List.all_eq_true] at hok
    have := hok.2 x hx
    unfold Ent.ok at this
    simp only [Bool.and_eq_true, decide_eq_true_eq] at this
    omega
  have hkm : k ≤ 65536 := by
    unfold logOk at hok
    simp only [Bool.and_eq_true, decide_eq_true_eq] at hok
    omega
  have HC : Hid (∀ V W : World, W = V.alloc (.cells #[.int .i64 1, .int .i64 3, .int .i64 5, .int .i64 7] 3) → Calls Try.prog 15 #[.slice (some ⟨V.heap.size, 0, none⟩) 4 4, .int .i64 n] W fun e w' => e = .returned (.bool true) ∧ w' = W) := hid fun V W hV => by
    have hW : W.heap[V.heap.size]? = some (.cells #[.int .i64 1, .int .i64 3, .int .i64 5, .int .i64 7] 3 (0, 0)) := by rw [hV]; exact heap_alloc_new _ _
    have h := Try.slices_Contains_int V.heap.size 0 4 4 [1, 3, 5, 7] n W (by decide) (by decide) (fun j hj => by
      rw [Lib.cell_of_heap hW]
      have hj' : j < 4 := hj
      rcases j with _ | _ | _ | _ | j
      · rfl
      · rfl
      · rfl
      · rfl
      · omega)
    rw [four_in18 n hn4] at h
    exact h
  have HR : Hid (∀ W, Below w.heap.size w W → Calls Try.prog 16 #[.agg #[.int .i64 vw, .int .i64 nm, .int .i64 cm, .slice a k c]] W fun e w' => e = .returned (.bool true) ∧ Below W.heap.size W w') := hid fun W hW => rightState_any18 vw nm cm L a k c W h0 h1 h2 h3 h4 hk hok (hN.keep (below_keep18 hW))
  have HO : Hid (∀ W, Below w.heap.size w W → Calls Try.prog 18 #[.slice a k c] W (fun e w' => ∃ v, e = .returned v ∧ w'.ownsRow W.heap.size 56 2 v k (cellsE L) ∧ Below W.heap.size W w')) := hid fun W hW => own_any18 a k c L W hk hkm (hN.keep (below_keep18 hW)) hs
  have HP : Hid (∀ W (lv : Value), Calls Try.prog 17 #[.int .i64 id, .int .i64 n, .agg #[.int .i64 vw, .int .i64 nm, .int .i64 cm, lv]] W fun e w' => ∃ pb mb sv dv, e = .returned (.pointer (some ⟨pb, 0, none⟩)) ∧ NPart W ⟨vw, nm, cm, false, id, n, nm == vw, false, 0⟩ lv sv dv n pb mb w') := hid fun W lv => newPart_any18 vw nm cm lv id n hn7 hid' W
  clear hN hs hok h0 h1 h2 h3 h4
  have hidn : decide (n ≤ id) = false := by simp; omega
  have hid0 : decide ((id : Int) < 0) = false := by simp
  obtain ⟨W1, hW1⟩ : ∃ W1, W1 = w.alloc (.cells #[.int .i64 vw, .int .i64 nm, .int .i64 cm, .slice a k c] 29) := ⟨_, rfl⟩
  have B1 : Below w.heap.size w W1 := by rw [hW1]; exact (Below.refl _ w).alloc (Nat.le_refl _) _
  have X1 : W1.heap[w.heap.size]? = some (.cells #[.int .i64 vw, .int .i64 nm, .int .i64 cm, .slice a k c] 29 (0, 0)) := by rw [hW1]; exact heap_alloc_new _ _
  obtain ⟨W2, hW2⟩ : ∃ W2, W2 = W1.alloc (.cells #[.int .i64 1, .int .i64 3, .int .i64 5, .int .i64 7] 3) := ⟨_, rfl⟩
  have HC1 := hid (HC.out W1 W2 hW2)
  have B2 : Below w.heap.size w W2 := by rw [hW2]; exact B1.alloc B1.size _
  have X2 : W2.heap[w.heap.size]? = some (.cells #[.int .i64 vw, .int .i64 nm, .int .i64 cm, .slice a k c] 29 (0, 0)) := by rw [hW2]; exact (heap_alloc_old _ _ (lt_of_block X1)).trans X1
  have S1 : W1.heap.size = w.heap.size + 1 := by rw [hW1]; exact Array.size_push _
  have c0 : W2.cell? ⟨w.heap.size, 0, none⟩ = some (.int .i64 vw) := by rw [Lib.cell_of_heap X2]; rfl
  have c1 : W2.cell? ⟨w.heap.size, 1, none⟩ = some (.int .i64 nm) := by rw [Lib.cell_of_heap X2]; rfl
  have c2 : W2.cell? ⟨w.heap.size, 2, none⟩ = some (.int .i64 cm) := by rw [Lib.cell_of_heap X2]; rfl
  have c3 : W2.cell? ⟨w.heap.size, 3, none⟩ = some (.slice a k c) := by rw [Lib.cell_of_heap X2]; rfl
  have l0 := lt_of_block X2
  have HS : Hid (∀ W, Below W2.heap.size W2 W → W.cell? ⟨w.heap.size, 0, none⟩ = some (.int .i64 vw) ∧ W.cell? ⟨w.heap.size, 1, none⟩ = some (.int .i64 nm) ∧ W.cell? ⟨w.heap.size, 2, none⟩ = some (.int .i64 cm) ∧ W.cell? ⟨w.heap.size, 3, none⟩ = some (.slice a k c)) := (hid fun W hW => ⟨below_keep hW _ _ c0, below_keep hW _ _ c1, below_keep hW _ _ c2, below_keep hW _ _ c3⟩)
  clear HC
  rw [hW1] at hW2
  rw [S1] at HC1
  clear X1 X2 B1 S1 hW1
  have HRt := hid (HR.out W2 B2)
  go_enter Try.func5, Try.ntmps5
  go_wp2_with fail
  rw [← hW2]
  clear hW2
  go_wp2_with (first
    | (go_at_call 15; refine HC1.out.mono ?_; clear HC1; rintro e W3 ⟨rfl, hW3⟩; subst hW3)
    | (go_at_call 16; refine HRt.out.mono ?_; clear HRt HR; rintro e W4 ⟨rfl, b4⟩; have B4 := B2.trans (b4.mono B2.size); clear c0 c1 c2 c3; obtain ⟨c0, c1, c2, c3⟩ := HS.out W4 b4)
    | fail)
  go_region_held3 (fun W => W.cell? ⟨w.heap.size, 0, none⟩ = some (.int .i64 vw) ∧ W.cell? ⟨w.heap.size, 1, none⟩ = some (.int .i64 nm) ∧ W.cell? ⟨w.heap.size, 2, none⟩ = some (.int .i64 cm) ∧ W.cell? ⟨w.heap.size, 3, none⟩ = some (.slice a k c)) (first | go_keep | exact HS.out _ b5 | exact HS.out _ b6 | exact HS.out _ (b6.alloc b6.size _)) (first
    | (go_at_call 18; refine (HO.out _ B4.drew).mono ?_; clear HO; rintro e W5 ⟨v5, rfl, r5, b5'⟩; obtain ⟨la, lc, rfl, -⟩ := row_form r5; have b5 := b4.drew.trans (b5'.mono b4.size); have B5 := B4.drew.trans (b5'.mono B4.size); clear b5')
    | (go_at_call 17; refine (HP.out _ _).mono ?_; clear HP; rintro e W6 ⟨pb, mb, sv, dv, rfl, h6⟩; have b6 := b5.trans (h6.2.2.2.mono b5.size)))
  go_wp2_with fail
  refine ret_tmps2 rfl rfl ?_
  obtain ⟨hp, hk6, hpb, hb6⟩ := h6
  have ha : Below W6.heap.size W6 (W6.alloc (.cells #[.pointer (some ⟨pb, 0, none⟩)] 67)) := (Below.refl _ W6).alloc (Nat.le_refl _) _
  have s4 : w.heap.size ≤ W4.heap.size := B4.size
  have s5 : w.heap.size ≤ W5.heap.size := B5.size
  have s6 : W5.heap.size ≤ W6.heap.size := hb6.size
  refine ⟨⟨W6.heap.size, pb, w.heap.size, mb, n, sv, dv⟩, la, lc, rfl, ⟨heap_alloc_new _ _, hp.below ha, row_base18 (row_below2 (row_below2 r5 hb6) ha) s4, row_base18 (row_below2 hk6 ha) s5, Nat.le_trans s5 (Nat.le_trans s6 ha.size)⟩, rfl, Nat.le_trans s5 hpb, Nat.le_trans s5 s6, (B5.trans (hb6.mono s5)).trans (ha.mono (Nat.le_trans s5 s6))⟩
end Go.Proofs.Ytaonchdpnllhpaa
