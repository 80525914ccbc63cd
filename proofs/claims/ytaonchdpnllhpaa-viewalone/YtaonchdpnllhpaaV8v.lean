/- Layer 18: a turn's step of a PrepareOk, at the one that leads. -/
import Derived.Test.YtaonchdpnllhpaaV8u
namespace Go.Proofs.Ytaonchdpnllhpaa
open Go.RowKit
/-- What is known to match behind a PrepareOk of so many. -/
def okM (mt : List Nat) (i op ln : Nat) : List Nat := mt.set i (max (mt.getD i 0) (min op ln))
def okC (x : Pt) (mt : List Nat) (i op ln : Nat) : Int := min ((midN x.n ((okM mt i op ln).set x.id ln) : Nat) : Int) ln
def OkEnd (T : TC) (w0 : World) (x : Pt) (mt : List Nat) (la : Option Addr) (ln lc : Nat) (L : List Ent) (m : Nat) (xs : List Value) (d0 : Option Addr) (dk dc i op : Nat) (w' : World) : Prop := ∃ a' ac', Hid (TS T w0 (x.rises (okC x mt i op ln)) (okM mt i op ln) la ln lc L a' (m + comN x.cm (okC x mt i op ln)) ac' (xs ++ comX x.cm (okC x mt i op ln)) d0 dk dc w')
set_option maxRecDepth 100000 in
set_option maxHeartbeats 1000000 in
theorem stepOk18 {T : TC} {w0 : World} {x : Pt} {mt : List Nat} {la : Option Addr} {ln lc : Nat} {L : List Ent} {a0 : Option Addr} {m ac : Nat} {xs : List Value} {d0 : Option Addr} {dk dc : Nat} (w : World) (h : TS T w0 x mt la ln lc L a0 m ac xs d0 dk dc w) (v : Nat) (hv : x.vw = v) (hv2 : v ≤ 9223372036854775807) (hn1 : 1 ≤ x.n) (hn : x.n ≤ 7) (hid' : x.id < x.n) (hld : x.leads v = true) (i op : Nat) (hi : i < x.n) (hin : i ≠ x.id) (hm : m ≤ 900000) (tt cm nm : Int) (za : Option Addr) (zn zc : Nat) :
    Calls Try.prog 25 #[.pointer (some ⟨T.tb, 0, none⟩), .agg #[.int .i64 2, .int .i64 i, .int .i64 tt, .int .i64 v, .int .i64 op, .int .i64 cm, .int .i64 nm, .slice za zn zc]] w (fun e w' => e = .returned (.tuple #[]) ∧ OkEnd T w0 x mt la ln lc L m xs d0 dk dc i op w') := by
  have HA : Hid (∀ W, Below w.heap.size w W → Calls Try.prog 42 #[.pointer (some ⟨T.tb, 0, none⟩), .agg #[.int .i64 2, .int .i64 i, .int .i64 tt, .int .i64 v, .int .i64 op, .int .i64 cm, .int .i64 nm, .slice za zn zc]] W (fun e w' => e = .returned (.tuple #[]) ∧ OkEnd T w0 x mt la ln lc L m xs d0 dk dc i op w')) := hid fun W hW => stepAnswer_ok18 W (h.below hW) v hv hv2 hn1 hn hid' hld i op hi hm tt v cm nm za zn zc
  have hl := hld
  unfold Pt.leads at hl
  simp only [Bool.and_eq_true, decide_eq_true_eq] at hl
  have HP : Hid (∀ W, Below w.heap.size w W → Calls Try.prog 31 #[.pointer (some ⟨T.pb, 0, none⟩)] W fun e w' => e = .returned (.int .i64 (x.id : Int)) ∧ ∃ m, w' = W.drewN m) := hid fun W hW => by
    have h1 := pprimary_any18 v hv hv2 hn1 hn W (h.below hW).p
    rw [hl.2] at h1
    exact h1
  obtain ⟨W1, hW1⟩ : ∃ W1, W1 = w.alloc (.cells #[.int .i64 2, .int .i64 i, .int .i64 tt, .int .i64 v, .int .i64 op, .int .i64 cm, .int .i64 nm, .slice za zn zc] 41) := ⟨_, rfl⟩
  have B1 : Below w.heap.size w W1 := by rw [hW1]; exact (Below.refl _ w).alloc (Nat.le_refl _) _
  have X1 : W1.heap[w.heap.size]? = some (.cells #[.int .i64 2, .int .i64 i, .int .i64 tt, .int .i64 v, .int .i64 op, .int .i64 cm, .int .i64 nm, .slice za zn zc] 41 (0, 0)) := by rw [hW1]; exact heap_alloc_new _ _
  have h1 := h.below B1
  have c0 := h1.rd.1
  have c1 := h1.rd.2.1
  rw [hv] at c1
  have c9 := h1.p.rd.2.1.2.2.1
  rw [hl.1] at c9
  have l0 := h1.rd.2.2.2.1
  have l1 := h1.rd.2.2.2.2
  have m0 : W1.cell? ⟨w.heap.size, 0, none⟩ = some (.int .i64 2) := by rw [Lib.cell_of_heap X1]; rfl
  have m1 : W1.cell? ⟨w.heap.size, 1, none⟩ = some (.int .i64 i) := by rw [Lib.cell_of_heap X1]; rfl
  have m2 : W1.cell? ⟨w.heap.size, 2, none⟩ = some (.int .i64 tt) := by rw [Lib.cell_of_heap X1]; rfl
  have m3 : W1.cell? ⟨w.heap.size, 3, none⟩ = some (.int .i64 v) := by rw [Lib.cell_of_heap X1]; rfl
  have m4 : W1.cell? ⟨w.heap.size, 4, none⟩ = some (.int .i64 op) := by rw [Lib.cell_of_heap X1]; rfl
  have m5 : W1.cell? ⟨w.heap.size, 5, none⟩ = some (.int .i64 cm) := by rw [Lib.cell_of_heap X1]; rfl
  have m6 : W1.cell? ⟨w.heap.size, 6, none⟩ = some (.int .i64 nm) := by rw [Lib.cell_of_heap X1]; rfl
  have m7 : W1.cell? ⟨w.heap.size, 7, none⟩ = some (.slice za zn zc) := by rw [Lib.cell_of_heap X1]; rfl
  have l2 := lt_of_block X1
  have f1 : ((i : Int) == (x.id : Int)) = false := by simp; omega
  clear h h1 hl hld hv X1
  go_enter Try.func25, Try.ntmps25
  go_wp2_with fail
  rw [← hW1]
  clear hW1
  go_quiet ((go_at_call 31; exact Calls.quiet_of (HP.out _ (below_drewN B1 _))))
  go_wp2_with fail
  go_quiet (fail)
  go_wp2_with (first
    | (go_at_call 42; refine (HA.out _ (below_drewN B1 _)).mono ?_; clear HA; rintro e W5 ⟨rfl, h5⟩)
    | fail)
  go_end0
  exact ⟨rfl, h5⟩
end Go.Proofs.Ytaonchdpnllhpaa
