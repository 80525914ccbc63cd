/- Layer 18: hears; a turn's step of a PrepareOk. -/
import Derived.Test.YtaonchdpnllhpaaV8t
namespace Go.Proofs.Ytaonchdpnllhpaa
open Go.RowKit
set_option maxRecDepth 100000 in
set_option maxHeartbeats 1000000 in
theorem hears_yes18 {pb : Nat} {x : Pt} {lv sv dv mv : Value} (m : Msg) (za : Option Addr) (zn zc : Nat) (w : World) (h : PtAt pb x lv sv dv mv w) (hz : m.log.length = zn) (hN : EsAt w.cell? za m.log) (hok : m.ok = true) (hto : m.tt = x.id) (hfr : m.fr ≠ x.id) (hfn : m.fr < x.n) : Calls Try.prog 24 #[.pointer (some ⟨pb, 0, none⟩), msgV m.kd m.fr m.tt m.vw m.op m.cm m.nm (.slice za zn zc)] w fun e w' => e = .returned (.bool true) ∧ Below w.heap.size w w' := by
  have hs : ∀ y ∈ m.log, y.d.length ≤ 9223372036854775807 := by
    intro y hy
    unfold Msg.ok logOk at hok
    simp only [Bool.and_eq_true, List.all_eq_true] at hok
    have := hok.1.1.2.2 y hy
    unfold Ent.ok at this
    simp only [Bool.and_eq_true, decide_eq_true_eq] at this
    omega
  have HR : Hid (∀ W, Below w.heap.size w W → Calls Try.prog 38 #[msgV m.kd m.fr m.tt m.vw m.op m.cm m.nm (.slice za zn zc)] W fun e w' => e = .returned (.bool true) ∧ Below W.heap.size W w') := hid fun W hW => by
    have := right17_any m za zn zc W hz (hN.keep (below_keep18 hW)) hs
    rw [hok] at this
    exact this
  have HF : Hid (∀ W, Below w.heap.size w W → W.cell? ⟨pb, 7, none⟩ = some (.int .i64 x.id) ∧ W.cell? ⟨pb, 8, none⟩ = some (.int .i64 x.n) ∧ pb < W.heap.size) := hid fun W hW => ⟨(h.below hW).rd.2.1.1, (h.below hW).rd.2.1.2.1, (h.below hW).rd.2.2.1⟩
  unfold msgV at HR ⊢
  clear h hok hs hN hz
  generalize m.kd = kd at *
  generalize m.fr = fr at *
  generalize m.tt = tt at *
  generalize m.vw = mw at *
  generalize m.op = op at *
  generalize m.cm = mc at *
  generalize m.nm = nm at *
  subst hto
  have f1 : (fr != (x.id : Int)) = true := by simp [hfr]
  have f2 : decide (fr < (x.n : Int)) = true := by simp [hfn]
  obtain ⟨W1, hW1⟩ : ∃ W1, W1 = w.alloc (.cells #[.int .i64 kd, .int .i64 fr, .int .i64 x.id, .int .i64 mw, .int .i64 op, .int .i64 mc, .int .i64 nm, .slice za zn zc] 41) := ⟨_, rfl⟩
  have B1 : Below w.heap.size w W1 := by rw [hW1]; exact (Below.refl _ w).alloc (Nat.le_refl _) _
  have X1 : W1.heap[w.heap.size]? = some (.cells #[.int .i64 kd, .int .i64 fr, .int .i64 x.id, .int .i64 mw, .int .i64 op, .int .i64 mc, .int .i64 nm, .slice za zn zc] 41 (0, 0)) := by rw [hW1]; exact heap_alloc_new _ _
  have HS : Hid (∀ W, Below W1.heap.size W1 W → W.cell? ⟨w.heap.size, 0, none⟩ = some (.int .i64 kd) ∧ W.cell? ⟨w.heap.size, 1, none⟩ = some (.int .i64 fr) ∧ W.cell? ⟨w.heap.size, 2, none⟩ = some (.int .i64 x.id) ∧ W.cell? ⟨w.heap.size, 3, none⟩ = some (.int .i64 mw) ∧ W.cell? ⟨w.heap.size, 4, none⟩ = some (.int .i64 op) ∧ W.cell? ⟨w.heap.size, 5, none⟩ = some (.int .i64 mc) ∧ W.cell? ⟨w.heap.size, 6, none⟩ = some (.int .i64 nm) ∧ W.cell? ⟨w.heap.size, 7, none⟩ = some (.slice za zn zc) ∧ W.cell? ⟨pb, 7, none⟩ = some (.int .i64 x.id) ∧ W.cell? ⟨pb, 8, none⟩ = some (.int .i64 x.n)) := hid fun W hW => by
    have hx := (hW.block _ (lt_of_block X1)).trans X1
    obtain ⟨p7, p8, -⟩ := HF.out W (B1.trans (hW.mono B1.size))
    exact ⟨by rw [Lib.cell_of_heap hx]; rfl, by rw [Lib.cell_of_heap hx]; rfl, by rw [Lib.cell_of_heap hx]; rfl, by rw [Lib.cell_of_heap hx]; rfl, by rw [Lib.cell_of_heap hx]; rfl, by rw [Lib.cell_of_heap hx]; rfl, by rw [Lib.cell_of_heap hx]; rfl, by rw [Lib.cell_of_heap hx]; rfl, p7, p8⟩
  obtain ⟨c0, c1, c2, c3, c4, c5, c6, c7, p7, p8⟩ := HS.out W1 (Below.refl _ W1)
  have l0 := (HF.out W1 B1).2.2
  have l1 := lt_of_block X1
  clear X1 HF
  go_enter Try.func24, Try.ntmps24
  go_wp2_with fail
  rw [← hW1]
  clear hW1
  go_region_held3 (fun W => W.cell? ⟨w.heap.size, 0, none⟩ = some (.int .i64 kd) ∧ W.cell? ⟨w.heap.size, 1, none⟩ = some (.int .i64 fr) ∧ W.cell? ⟨w.heap.size, 2, none⟩ = some (.int .i64 x.id) ∧ W.cell? ⟨w.heap.size, 3, none⟩ = some (.int .i64 mw) ∧ W.cell? ⟨w.heap.size, 4, none⟩ = some (.int .i64 op) ∧ W.cell? ⟨w.heap.size, 5, none⟩ = some (.int .i64 mc) ∧ W.cell? ⟨w.heap.size, 6, none⟩ = some (.int .i64 nm) ∧ W.cell? ⟨w.heap.size, 7, none⟩ = some (.slice za zn zc) ∧ W.cell? ⟨pb, 7, none⟩ = some (.int .i64 x.id) ∧ W.cell? ⟨pb, 8, none⟩ = some (.int .i64 x.n)) (first | go_keep | exact HS.out _ b2) (first
    | (go_at_call 38; refine (HR.out _ B1.drew).mono ?_; clear HR; rintro e W2 ⟨rfl, b2'⟩; have b2 := (Below.refl _ W1).drew.trans b2'; have B2 := B1.trans (b2.mono B1.size); clear b2'))
  go_wp2_with fail
  go_ret
  exact ⟨rfl, B2⟩
end Go.Proofs.Ytaonchdpnllhpaa
