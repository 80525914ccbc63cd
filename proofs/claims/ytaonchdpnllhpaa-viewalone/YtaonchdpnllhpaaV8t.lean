/- Layer 18: Leads, State, hears. -/
import Derived.Test.YtaonchdpnllhpaaV8q
import Derived.Test.YtaonchdpnllhpaaV8s
namespace Go.Proofs.Ytaonchdpnllhpaa
open Go.RowKit
theorem load_state18 {w : World} {b : Nat} {x0 x1 x2 x3 : Value} (h : w.heap[b]? = some (.cells #[x0, x1, x2, x3] 29 (0, 0))) : (loadVar 29 ⟨b, 0, none⟩).run Try.prog w = .ok (.agg #[x0, x1, x2, x3]) w := by
  simp [loadVar, go_sem, Lib.cell_of_heap h]
theorem lies_row18 {W : World} {b n c s : Nat} {e : TypeId} {a : Option Addr} {xs : List Value} (h : W.ownsRow b e s (.slice a n c) n xs) : Lies W (.slice a n c) n xs := by
  obtain ⟨a', c', e1, -, -, hr⟩ := row_form h
  injection e1 with e1 e2 e3
  rcases hr with ⟨q, q2, q3⟩ | ⟨g, q, -, -, hc⟩
  · refine .inl ⟨c, by rw [e1, q, q2], q2, List.eq_nil_of_length_eq_zero ?_⟩
    rw [h.1, q2, Nat.zero_mul]
  · refine .inr ⟨⟨g, 0, none⟩, c, by rw [e1, q], fun j u hu => ?_⟩
    have := hc j u hu
    rcases j with _ | j
    · simpa [Addr.add] using this
    · simpa [Addr.add] using this
set_option maxRecDepth 100000 in
set_option maxHeartbeats 1000000 in
theorem rleads_any18 {R : RC} {x : Pt} {mt : List Nat} {la : Option Addr} {ln lc : Nat} {L : List Ent} (v : Nat) (w : World) (h : RA R x mt la ln lc L w) (hn1 : 1 ≤ x.n) (hn : x.n ≤ 7) (hv : x.vw = v) (hv2 : v ≤ 9223372036854775807) : Calls Try.prog 14 #[.pointer (some ⟨R.rb, 0, none⟩)] w fun e w' => e = .returned (.bool (x.leads v)) ∧ ∃ m, w' = w.drewN m := by
  have HM := hid (made_any18 w h)
  have HL := hid (leads_any18 v hv hv2 hn1 hn w h.p)
  have c0 : w.cell? ⟨R.rb, 0, none⟩ = some (.pointer (some ⟨R.pb, 0, none⟩)) := by rw [Lib.cell_of_heap h.b]; rfl
  have l0 := lt_of_block h.b
  clear h hv hv2
  generalize x.leads v = b at *
  go_enter Try.func14, Try.ntmps14
  go_wp2_with (first
    | (go_at_call 20; refine HM.out.mono ?_; clear HM; rintro e W2 ⟨rfl, hW2⟩; subst hW2)
    | (go_at_call 21; refine HL.out.mono ?_; clear HL; rintro e W3 ⟨rfl, n3, rfl⟩)
    | fail)
  go_ret
  exact ⟨rfl, n3, rfl⟩
set_option maxRecDepth 100000 in
set_option maxHeartbeats 1000000 in
theorem state_any18 {R : RC} {x : Pt} {mt : List Nat} {la : Option Addr} {ln lc : Nat} {L : List Ent} (w : World) (h : RA R x mt la ln lc L w) (hln : ln ≤ 65536) : Calls Try.prog 10 #[.pointer (some ⟨R.rb, 0, none⟩)] w fun e w' => ∃ sa sc, e = .returned (.agg #[.int .i64 x.vw, .int .i64 x.la, .int .i64 x.cm, .slice sa ln sc]) ∧ w'.ownsRow w.heap.size 56 2 (.slice sa ln sc) ln (cellsE L) ∧ Below w.heap.size w w' := by
  have HS : Hid (∀ W, Below w.heap.size w W → W.cell? ⟨R.rb, 0, none⟩ = some (.pointer (some ⟨R.pb, 0, none⟩)) ∧ W.cell? ⟨R.pb, 0, none⟩ = some (.int .i64 x.vw) ∧ W.cell? ⟨R.pb, 1, none⟩ = some (.int .i64 x.la) ∧ W.cell? ⟨R.pb, 2, none⟩ = some (.int .i64 x.cm) ∧ W.cell? ⟨R.pb, 3, none⟩ = some (.slice la ln lc)) := hid fun W hW => by
    obtain ⟨⟨p0, p1, p2, p3, -⟩, -⟩ := (h.below hW).p.rd
    exact ⟨by rw [Lib.cell_of_heap (h.below hW).b]; rfl, p0, p1, p2, p3⟩
  have HC : Hid (∀ W, Below w.heap.size w W → Calls Try.prog 26 #[.slice la ln lc] W (CopyEnd18 56 2 ln (cellsE L) W)) := hid fun W hW => by
    have h1 := h.below hW
    have h2 := h1.l.1
    refine clone18_any la ln lc (cellsE L) W (lies_row18 h1.l) h2 (cellsE_one18 L) hln
  obtain ⟨W1, hW1⟩ : ∃ W1, W1 = w.alloc (.cells #[.int .i64 0, .int .i64 0, .int .i64 0, .slice none 0 0] 29) := ⟨_, rfl⟩
  have B1 : Below w.heap.size w W1 := by rw [hW1]; exact (Below.refl _ w).alloc (Nat.le_refl _) _
  have X1 : W1.heap[w.heap.size]? = some (.cells #[.int .i64 0, .int .i64 0, .int .i64 0, .slice none 0 0] 29 (0, 0)) := by rw [hW1]; exact heap_alloc_new _ _
  have HM := hid (made_any18 W1 (h.below B1))
  obtain ⟨c0, p0, p1, p2, p3⟩ := HS.out W1 B1
  have l0 := lt_of_block (h.below B1).b
  have l1 := (h.below B1).p.rd.2.2.1
  have l2 := lt_of_block X1
  have l3 := lt_of_block h.b
  have l4 := h.p.rd.2.2.1
  clear h
  go_enter Try.func10, Try.ntmps10
  go_wp2_with fail
  rw [← hW1]
  clear hW1
  go_wp2_with (first
    | (go_at_call 20; refine HM.out.mono ?_; clear HM; rintro e W2 ⟨rfl, hW2⟩; replace hW2 := hW2.symm; subst hW2)
    | fail)
  have n1 : R.rb ≠ w.heap.size := by omega
  have n2 : R.pb ≠ w.heap.size := by omega
  have hX : Hid (∀ (W : World) (u0 u1 u2 u3 : Value), Below W1.heap.size W1 W → ((((W.setCell ⟨w.heap.size, 0, none⟩ u0).setCell ⟨w.heap.size, 1, none⟩ u1).setCell ⟨w.heap.size, 2, none⟩ u2).setCell ⟨w.heap.size, 3, none⟩ u3).heap[w.heap.size]? = some (.cells #[u0, u1, u2, u3] 29 (0, 0))) := hid fun W u0 u1 u2 u3 hb => heap_setCell_same _ _ _ _ _ _ (heap_setCell_same _ _ _ _ _ _ (heap_setCell_same _ _ _ _ _ _ (heap_setCell_same _ _ _ _ _ _ ((hb.block _ l2).trans X1))))
  go_region_held3 (fun W => W.cell? ⟨R.rb, 0, none⟩ = some (.pointer (some ⟨R.pb, 0, none⟩)) ∧ W.cell? ⟨R.pb, 0, none⟩ = some (.int .i64 x.vw) ∧ W.cell? ⟨R.pb, 1, none⟩ = some (.int .i64 x.la) ∧ W.cell? ⟨R.pb, 2, none⟩ = some (.int .i64 x.cm) ∧ W.cell? ⟨R.pb, 3, none⟩ = some (.slice la ln lc)) (first | go_keep | exact HS.out _ B3 | exact HS.out _ ((((B3.setCell (p := ⟨w.heap.size, 0, none⟩) (Nat.le_refl _) _).setCell (p := ⟨w.heap.size, 1, none⟩) (Nat.le_refl _) _).setCell (p := ⟨w.heap.size, 2, none⟩) (Nat.le_refl _) _).setCell (p := ⟨w.heap.size, 3, none⟩) (Nat.le_refl _) _)) (first
    | (go_at_call 26; refine (HC.out _ B1.drew).mono ?_; clear HC; rintro e W3 ⟨⟨v3, rfl, r3⟩, b3'⟩; obtain ⟨sa, sc, rfl, -⟩ := row_form r3; have b3 := (Below.refl _ W1).drew.trans b3'; have B3 := B1.trans (b3.mono B1.size); have X3 := (b3.block _ l2).trans X1; have l3 := lt_of_block X3; have f0 := Lib.frozen_of_heap X3 0; have f1 := Lib.frozen_of_heap X3 1; have f2 := Lib.frozen_of_heap X3 2; have f3 := Lib.frozen_of_heap X3 3; have c4 : W3.cell? ⟨w.heap.size, 0, none⟩ = some (.int .i64 0) := (by rw [Lib.cell_of_heap X3]; rfl); have c5 : W3.cell? ⟨w.heap.size, 1, none⟩ = some (.int .i64 0) := (by rw [Lib.cell_of_heap X3]; rfl); have c6 : W3.cell? ⟨w.heap.size, 2, none⟩ = some (.int .i64 0) := (by rw [Lib.cell_of_heap X3]; rfl); have c7 : W3.cell? ⟨w.heap.size, 3, none⟩ = some (.slice none 0 0) := (by rw [Lib.cell_of_heap X3]; rfl); clear b3' X3))
  go_wp2_with fail
  have hX4 := hX.out W3 (.int .i64 x.vw) (.int .i64 x.la) (.int .i64 x.cm) (.slice sa ln sc) b3
  refine ret_box1 rfl rfl rfl (load_state18 hX4) ⟨sa, sc, rfl, ?_, (((B3.setCell (p := ⟨w.heap.size, 0, none⟩) (Nat.le_refl _) _).setCell (p := ⟨w.heap.size, 1, none⟩) (Nat.le_refl _) _).setCell (p := ⟨w.heap.size, 2, none⟩) (Nat.le_refl _) _).setCell (p := ⟨w.heap.size, 3, none⟩) (Nat.le_refl _) _⟩
  have hb : (Value.slice sa ln sc).ownBlock ≠ some w.heap.size := fun e => by
    have := (World.ownsRow.lt r3 _ e).1
    simp at this
    omega
  exact row_base18 (row_keep18 (row_keep18 (row_keep18 (row_keep18 r3 hb _) hb _) hb _) hb _) (Nat.le_of_lt (by simpa using l2))
end Go.Proofs.Ytaonchdpnllhpaa
