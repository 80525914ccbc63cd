/- Layer 18: a PrepareOk at the one that leads. -/
import Derived.Test.YtaonchdpnllhpaaV8r
import Derived.Test.YtaonchdpnllhpaaRQ
namespace Go.Proofs.Ytaonchdpnllhpaa
open Go.RowKit
set_option maxRecDepth 100000 in
set_option maxHeartbeats 1000000 in
theorem stepAnswer_ok18 {T : TC} {w0 : World} {x : Pt} {mt : List Nat} {la : Option Addr} {ln lc : Nat} {L : List Ent} {a0 : Option Addr} {m ac : Nat} {xs : List Value} {d0 : Option Addr} {dk dc : Nat} (w : World) (h : TS T w0 x mt la ln lc L a0 m ac xs d0 dk dc w) (v : Nat) (hv : x.vw = v) (hv2 : v ≤ 9223372036854775807) (hn1 : 1 ≤ x.n) (hn : x.n ≤ 7) (hid' : x.id < x.n) (hld : x.leads v = true) (i op : Nat) (hi : i < x.n) (hm : m ≤ 900000) (tt vw cm nm : Int) (za : Option Addr) (zn zc : Nat) :
    Calls Try.prog 42 #[.pointer (some ⟨T.tb, 0, none⟩), .agg #[.int .i64 2, .int .i64 i, .int .i64 tt, .int .i64 vw, .int .i64 op, .int .i64 cm, .int .i64 nm, .slice za zn zc]] w (fun e w' => e = .returned (.tuple #[]) ∧ ∃ a' ac', Hid (TS T w0 (x.rises (min ((midN x.n ((mt.set i (max (mt.getD i 0) (min op ln))).set x.id ln) : Nat) : Int) ln)) (mt.set i (max (mt.getD i 0) (min op ln))) la ln lc L a' (m + comN x.cm (min ((midN x.n ((mt.set i (max (mt.getD i 0) (min op ln))).set x.id ln) : Nat) : Int) ln)) ac' (xs ++ comX x.cm (min ((midN x.n ((mt.set i (max (mt.getD i 0) (min op ln))).set x.id ln) : Nat) : Int) ln)) d0 dk dc w')) := by
  have HT := hid h
  have HL : Hid (∀ W, Below w.heap.size w W → Calls Try.prog 21 #[.pointer (some ⟨T.pb, 0, none⟩)] W fun e w' => e = .returned (.bool true) ∧ ∃ m, w' = W.drewN m) := hid fun W hW => by
    have h1 := leads_any18 v hv hv2 hn1 hn W (h.below hW).p
    rw [hld] at h1
    exact h1
  have HF : Hid (∀ W, Below w.heap.size w W → W.cell? ⟨T.tb, 0, none⟩ = some (.pointer (some ⟨T.pb, 0, none⟩)) ∧ W.cell? ⟨T.pb, 12, none⟩ = some (.slice (some ⟨T.mb, 0, none⟩) x.n T.mc) ∧ W.cell? ⟨T.pb, 3, none⟩ = some (.slice la ln lc) ∧ W.cell? ⟨T.mb, i, none⟩ = some (.int .i64 ((mt.getD i 0 : Nat) : Int)) ∧ W.frozen? ⟨T.mb, i, none⟩ = false ∧ T.tb < W.heap.size ∧ T.pb < W.heap.size ∧ T.mb < W.heap.size) := hid fun W hW => by
    have h1 := h.below hW
    have h2 := nsV_cells18 h1.k i (by rw [h.len.2]; exact hi)
    refine ⟨h1.rd.1, h1.p.rd.2.1.2.2.2.2.2, h1.rd.2.2.1, ?_, World.ownsRow.frozenAt h1.k i, h1.rd.2.2.2.1, h1.rd.2.2.2.2, (World.ownsRow.lt h1.k _ rfl).2⟩
    rw [h2]
    have hlt : i < mt.length := by rw [h.len.2]; exact hi
    rw [List.getD_eq_getElem?_getD, List.getD_eq_getElem?_getD, List.getElem?_map, List.getElem?_eq_getElem hlt]
    rfl
  obtain ⟨c0, p12, p3, q0, f0, l0, l1, l2⟩ := HF.out w (Below.refl _ w)
  clear h
  obtain ⟨W1, hW1⟩ : ∃ W1, W1 = w.alloc (.cells #[.int .i64 2, .int .i64 i, .int .i64 tt, .int .i64 vw, .int .i64 op, .int .i64 cm, .int .i64 nm, .slice za zn zc] 41) := ⟨_, rfl⟩
  have B1 : Below w.heap.size w W1 := by rw [hW1]; exact (Below.refl _ w).alloc (Nat.le_refl _) _
  have X1 : W1.heap[w.heap.size]? = some (.cells #[.int .i64 2, .int .i64 i, .int .i64 tt, .int .i64 vw, .int .i64 op, .int .i64 cm, .int .i64 nm, .slice za zn zc] 41 (0, 0)) := by rw [hW1]; exact heap_alloc_new _ _
  have HL1 := hid (HL.out W1 B1)
  have c0' := (HF.out W1 B1).1
  have t0 := (HF.out W1 B1).2.2.2.2.2.1
  have m0 : W1.cell? ⟨w.heap.size, 0, none⟩ = some (.int .i64 2) := by rw [Lib.cell_of_heap X1]; rfl
  have m1 := lt_of_block X1
  go_enter Try.func42, Try.ntmps42
  go_wp2_with fail
  rw [← hW1]
  clear hW1
  go_wp2_with (first
    | (go_at_call 21; refine HL1.out.mono ?_; clear HL1 HL; rintro e W3 ⟨rfl, n2, hW3⟩; have B3 : Below w.heap.size w W3 := (by rw [hW3]; exact below_drewN B1 n2); have X3 := (show W3.heap[w.heap.size]? = some (.cells #[.int .i64 2, .int .i64 i, .int .i64 tt, .int .i64 vw, .int .i64 op, .int .i64 cm, .int .i64 nm, .slice za zn zc] 41 (0, 0)) by rw [hW3]; exact X1); clear hW3 X1 c0 p12 p3 q0 f0 l0 l1 l2 c0' t0 m0 m1; obtain ⟨c0, p12, p3, q0, f0, l0, l1, l2⟩ := HF.out W3 B3; have m1 : W3.cell? ⟨w.heap.size, 1, none⟩ = some (.int .i64 i) := (by rw [Lib.cell_of_heap X3]; rfl); have m4 : W3.cell? ⟨w.heap.size, 4, none⟩ = some (.int .i64 op) := (by rw [Lib.cell_of_heap X3]; rfl); have m5 := lt_of_block X3)
    | fail)
  have hi2 : (i : Int) < (x.n : Int) := by omega
  have HS : Hid (∀ W, Below w.heap.size w W → TS T w0 x (mt.set i (max (mt.getD i 0) (min op ln))) la ln lc L a0 m ac xs d0 dk dc (W.setCell ⟨T.mb, i, none⟩ (.int .i64 (max ((mt.getD i 0 : Nat) : Int) (min (op : Int) (ln : Int)))))) := hid fun W hW => by
    have h1 := (HT.out.below hW).setMatch i (max (mt.getD i 0) (min op ln))
    rw [show ((max (mt.getD i 0) (min op ln) : Nat) : Int) = max ((mt.getD i 0 : Nat) : Int) (min (op : Int) (ln : Int)) by omega] at h1
    exact h1
  generalize hg : mt.getD i 0 = g at q0 HS
  refine wp_region_quiet_last (n := 1000) (by kernel_rfl) rfl (by kernel_rfl) (by kernel_rfl) (by kernel_rfl) ?_
  simp only [stillLast, stillOf, lastOp]
  repeat (any_goals (first | go_big_quiet_step (fail) | quiet_step (fail)))
  refine wpQuiet_nil ?_
  rintro _ ⟨nq, rfl⟩
  go_simp
  obtain ⟨W5, hW5⟩ : ∃ W5, W5 = (W3.drewN nq).setCell ⟨T.mb, i, none⟩ (.int .i64 (max (g : Int) (min (op : Int) (ln : Int)))) := ⟨_, rfl⟩
  rw [← hW5]
  have H5 := hid (show TS T w0 x (mt.set i (max g (min op ln))) la ln lc L a0 m ac xs d0 dk dc W5 by rw [hW5]; exact HS.out _ (below_drewN B3 nq))
  clear hW5 HS X3 B3 c0 p12 p3 q0 f0 l0 l1 l2 m1 m4 m5 HF HT B1
  obtain ⟨t0, p0, p3, tl, pl⟩ := H5.out.rd
  have HM := hid (H5.out.matched hn1 hn hid')
  go_wp2_with (first
    | (go_at_call 36; refine HM.out.mono ?_; clear HM; rintro e W6 ⟨rfl, b6⟩; have H6 := hid (H5.out.below b6); clear H5 b6; obtain ⟨t0, p0, p3, tl, pl⟩ := H6.out.rd; have HRi := hid (H6.out.rise (c := midN x.n ((mt.set i (max g (min op ln))).set x.id ln)) hm))
    | (go_at_call 35; refine HRi.out.mono ?_; clear HRi; rintro e W7 ⟨rfl, a7, ac7, H7⟩)
    | fail)
  go_end0
  subst hg
  exact ⟨rfl, a7, ac7, hid H7.out.1⟩
end Go.Proofs.Ytaonchdpnllhpaa
