/- code.Get of any bytes. -/
import Derived.Test.YtkbmmaacmofijaaGH
namespace Go.Proofs.Ytkbmmaacmofijaa
open Go.RowKit
theorem results_mix4 {fn : Func} {t u : Tmp} {ty : TypeId} (h : fn.results = #[.cell t ty, .tmp u]) (tmps : Array Value) (P : Program) (w : World) (a : Addr) (v : Value) (ha : tmps[t]?.getD undef = .pointer (some a)) (hl : (loadVar ty a).run P w = .ok v w) :
    (results fn tmps).run P w = .ok (.tuple #[v, tmps[u]?.getD undef]) w := by
  simp [results, h, ha, asAddr, hl]
theorem ret_scr2 {fn : Func} {R : Ending → World → Prop} {a : Act} {t u : Tmp} {w : World} {b : Nat} {x y z : Value} (h : fn.results = #[.cell t 25, .tmp u]) (ha : a.tmps[t]?.getD undef = .pointer (some ⟨b, 0, none⟩)) (hd : a.defers = []) (hu : a.tmps[u]?.getD undef = z) (h0 : w.cell? ⟨b, 0, none⟩ = some x) (h1 : w.cell? ⟨b, 1, none⟩ = some y) (hR : R (.returned (.tuple #[.agg #[x, y], z])) w) : bodyPost Try.prog fn R .ret a w :=
  bodyPost_ret (by rw [results_mix4 h _ _ _ _ _ ha (load_scr h0 h1), hu]) hd hR
/-- What Get answers: the script, and the error. -/
def getS (bs : List UInt8) : Scr := if getOk bs = true then (gScr (bs, 0)).1 else ⟨[], []⟩
def getE4 (bs : List UInt8) : Int := if getOk bs = true then 0 else 30
def GetEnd4 (bs : List UInt8) (w : World) (e : Ending) (w' : World) : Prop := (∃ u0 u1, e = .returned (.tuple #[.agg #[u0, u1], .int .i64 (getE4 bs)]) ∧ ScIs w'.cell? (getS bs) u0 u1) ∧ Below w.heap.size w w'
theorem scr_none (C : Addr → Option Value) : ScIs C ⟨[], []⟩ (.slice none 0 0) (.slice none 0 0) := ⟨⟨none, 0, rfl, .inl rfl⟩, ⟨none, 0, rfl, .inl rfl⟩⟩
theorem get_no {bs : List UInt8} (h : getOk bs = false) : getE4 bs = 30 ∧ getS bs = ⟨[], []⟩ := by simp [getE4, getS, h]
theorem get_yes {bs : List UInt8} (h : getOk bs = true) : getE4 bs = 0 ∧ getS bs = (gScr (bs, 0)).1 := by simp [getE4, getS, h]
set_option maxRecDepth 100000 in
set_option maxHeartbeats 1000000 in
theorem get4_any (a : Option Addr) (m c : Nat) (bs : List UInt8) (hm : bs.length = m) (w : World) (hB : Bs w a bs) (hm' : m ≤ 140737488355328) : Calls Try.prog 20 #[.slice a m c] w (GetEnd4 bs w) := by
  obtain ⟨W0, hW0⟩ : ∃ W0, W0 = w.alloc (.cells #[.slice none 0 0, .slice none 0 0] 25) := ⟨_, rfl⟩
  have hz0 : W0.heap.size = w.heap.size + 1 := by rw [hW0]; simp
  have hb0 : Below w.heap.size w W0 := by rw [hW0]; exact (Below.refl _ w).alloc (Nat.le_refl _) _
  have b0 : W0.heap[w.heap.size]? = some (.cells #[.slice none 0 0, .slice none 0 0] 25 (0, 0)) := by rw [hW0]; exact heap_alloc_new w _
  have hNew := rnew_any a m c bs W0 hm hm' (hB.keep (below_keep hb0))
  have hsf := gScr_fits (bs, 0)
  have hok : getOk bs = (decide (doneOf (gScr (bs, 0)).2.1 (gScr (bs, 0)).2.2 = 0) && (gScr (bs, 0)).1.right) := rfl
  have hno := fun h => get_no (bs := bs) h
  have hyes := fun h => get_yes (bs := bs) h
  have hScr : ∀ (W : World) (p h g : Nat), RdS W p h g bs 0 → g < W.heap.size → Calls Try.prog 39 #[rdV p] W (ScrEnd (gScr (bs, 0)).1 p h g (gScr (bs, 0)).2 W) := fun W p h g H hg => gscr_s p h g (bs, 0) W H hg
  have fin : ∀ w9 u0 u1, ScIs w9.cell? (getS bs) u0 u1 → Below w.heap.size w w9 → GetEnd4 bs w (.returned (.tuple #[.agg #[u0, u1], .int .i64 (getE4 bs)])) w9 := fun w9 u0 u1 h hb => ⟨⟨u0, u1, rfl, h⟩, hb⟩
  generalize (gScr (bs, 0)).1 = s at *
  generalize (gScr (bs, 0)).2 = st at *
  go_enter Try.func20, Try.ntmps20
  go_wp2_with fail
  rw [← hW0]
  clear hW0
  refine hNew.mono ?_
  rintro e w1 ⟨h, rfl, hh, H1, hb1⟩
  clear hNew
  obtain ⟨W2, hW2⟩ : ∃ W2, W2 = w1.alloc (.cells #[.pointer (some ⟨h + 1, 0, none⟩)] 70) := ⟨_, rfl⟩
  have H2 : RdS W2 (h + 1) h W0.heap.size bs 0 := by rw [hW2]; exact H1.chg (Chg.alloc w1 _ (fun _ => False)) id id id
  have hl1 := rds_lt4 H1
  have hz2 : W2.heap.size = w1.heap.size + 1 := by rw [hW2]; simp
  have bx2 : W2.heap[w1.heap.size]? = some (.cells #[.pointer (some ⟨h + 1, 0, none⟩)] 70 (0, 0)) := by rw [hW2]; exact heap_alloc_new w1 _
  have b2 : W2.heap[w.heap.size]? = some (.cells #[.slice none 0 0, .slice none 0 0] 25 (0, 0)) := by rw [hW2, Below.heap_alloc _ _ _ (by omega)]; exact (hb1.block _ (by omega)).trans b0
  have hb2 : Below w.heap.size w W2 := by rw [hW2]; exact (hb0.trans (hb1.mono hb0.size)).alloc (by omega) _
  have hS := hScr W2 (h + 1) h W0.heap.size H2 (by omega)
  clear hScr
  go_wp2_with fail
  rw [← hW2]
  clear hW2
  refine hS.mono ?_
  rintro e w3 ⟨⟨u0, u1, rfl, hU⟩, H3, hc3⟩
  clear hS
  have hU' := hU
  obtain ⟨⟨a0, d0, rfl, _⟩, ⟨a1, d1, rfl, _⟩⟩ := hU'
  generalize s.consts.length = n0 at *
  generalize s.funcs.length = n1 at *
  have hs3 := hc3.size
  have bx3 := (hc3.block _ (lt_of_block bx2) (by omega)).trans bx2
  have b3 := (hc3.block _ (lt_of_block b2) (by omega)).trans b2
  have px3 : w3.cell? ⟨w1.heap.size, 0, none⟩ = some (.pointer (some ⟨h + 1, 0, none⟩)) := by rw [Lib.cell_of_heap bx3]; rfl
  have hlw3 : w1.heap.size < w3.heap.size := by omega
  have hb3 : Below w.heap.size w w3 := hb2.trans (hc3.below hb2.size (fun i (e : i = h) => by omega))
  obtain ⟨W4, hW4⟩ : ∃ W4, W4 = w3.alloc (.cells #[.slice a0 n0 d0, .slice a1 n1 d1] 25) := ⟨_, rfl⟩
  have hz4 : W4.heap.size = w3.heap.size + 1 := by rw [hW4]; simp
  have bs4 : W4.heap[w3.heap.size]? = some (.cells #[.slice a0 n0 d0, .slice a1 n1 d1] 25 (0, 0)) := by rw [hW4]; exact heap_alloc_new w3 _
  have bx4 : W4.heap[w1.heap.size]? = some (.cells #[.pointer (some ⟨h + 1, 0, none⟩)] 70 (0, 0)) := by rw [hW4, Below.heap_alloc _ _ _ (by omega)]; exact bx3
  have b4 : W4.heap[w.heap.size]? = some (.cells #[.slice none 0 0, .slice none 0 0] 25 (0, 0)) := by rw [hW4, Below.heap_alloc _ _ _ (by omega)]; exact b3
  have H4 : RdS W4 (h + 1) h W0.heap.size st.1 st.2 := by rw [hW4]; exact H3.chg (Chg.alloc w3 _ (fun _ => False)) id id id
  have hb4 : Below w.heap.size w W4 := by rw [hW4]; exact hb3.alloc (by omega) _
  have hU4 : ScIs (upFrom W4 (w1.heap.size + 3)) s (.slice a0 n0 d0) (.slice a1 n1 d1) := by
    rw [hW4]
    have e : w1.heap.size + 3 = W2.heap.size + 2 := by omega
    rw [e]
    exact hU.keep (upFrom_chg (Chg.alloc w3 _ (fun _ => False)) (fun _ e => e.elim) (Nat.le_refl _))
  have hD := rdone_any (h + 1) h W0.heap.size st.1 st.2 W4 H4
  have px : W4.cell? ⟨w1.heap.size, 0, none⟩ = some (.pointer (some ⟨h + 1, 0, none⟩)) := by rw [Lib.cell_of_heap bx4]; rfl
  obtain ⟨y0, y1, o0, o1⟩ := cells2 b4
  obtain ⟨v0, v1, _, _⟩ := cells2 bs4
  clear hU H1 H2 H3 hc3 bx2 bx3 b2 b3 b0 hb1 hb2
  have fin0 : getOk bs = false → ∀ w5, Below W4.heap.size W4 w5 → ((w5.setCell ⟨w.heap.size, 0, none⟩ (.slice none 0 0)).setCell ⟨w.heap.size, 1, none⟩ (.slice none 0 0)).cell? ⟨w.heap.size, 0, none⟩ = some (.slice none 0 0) ∧ ((w5.setCell ⟨w.heap.size, 0, none⟩ (.slice none 0 0)).setCell ⟨w.heap.size, 1, none⟩ (.slice none 0 0)).cell? ⟨w.heap.size, 1, none⟩ = some (.slice none 0 0) ∧ GetEnd4 bs w (.returned (.tuple #[.agg #[.slice none 0 0, .slice none 0 0], .int .i64 30])) ((w5.setCell ⟨w.heap.size, 0, none⟩ (.slice none 0 0)).setCell ⟨w.heap.size, 1, none⟩ (.slice none 0 0)) := fun hf w5 hb5 => by
    have b5 := (hb5.block _ (lt_of_block b4)).trans b4
    obtain ⟨j0, j1, _, _⟩ := cells2 (set2_1 (u := .slice none 0 0) (set2_0 (u := .slice none 0 0) b5))
    have hb := ((hb4.trans (hb5.mono hb4.size)).setCell (p := ⟨w.heap.size, 0, none⟩) (Nat.le_refl _) (.slice none 0 0)).setCell (p := ⟨w.heap.size, 1, none⟩) (Nat.le_refl _) (.slice none 0 0)
    have := fin _ (.slice none 0 0) (.slice none 0 0) (by rw [(hno hf).2]; exact scr_none _) hb
    rw [(hno hf).1] at this
    exact ⟨j0, j1, this⟩
  have res5 : ∀ w5, Below W4.heap.size W4 w5 → (w5.cell? ⟨w.heap.size, 0, none⟩ = some (.slice none 0 0) ∧ w5.cell? ⟨w.heap.size, 1, none⟩ = some (.slice none 0 0) ∧ w5.frozen? ⟨w.heap.size, 0, none⟩ = false ∧ w5.frozen? ⟨w.heap.size, 1, none⟩ = false) ∧ w5.cell? ⟨w3.heap.size, 0, none⟩ = some (.slice a0 n0 d0) ∧ w5.cell? ⟨w3.heap.size, 1, none⟩ = some (.slice a1 n1 d1) := fun w5 hb5 => by
    obtain ⟨q0, q1, _, _⟩ := cells2 ((hb5.block _ (lt_of_block bs4)).trans bs4)
    exact ⟨cells2 ((hb5.block _ (lt_of_block b4)).trans b4), q0, q1⟩
  by_cases hd : doneOf st.1 st.2 = 0
  · rw [hd] at hD
    have hR := right4_any s _ _ W4 (hU4.keep upFrom_le) hsf
    cases hr : s.right with
    | false =>
      have hf : getOk bs = false := by rw [hok, hr]; simp
      rw [hr] at hR
      go_wp2_with fail
      rw [← hW4]
      clear hW4
      refine hD.mono ?_
      rintro e w' ⟨rfl, hw'⟩
      subst hw'
      clear hD
      go_wp2_with (go_at_call 13; refine hR.mono ?_; rintro e w5 ⟨rfl, hb5⟩; clear hR; obtain ⟨⟨i0, i1, i2, i3⟩, i4, i5⟩ := res5 w5 hb5)
      obtain ⟨j0, j1, F⟩ := fin0 hf w5 hb5
      exact ret_scr2 rfl rfl rfl rfl j0 j1 F
    | true =>
      have hf : getOk bs = true := by rw [hok, hr, hd]; rfl
      rw [hr] at hR
      go_wp2_with fail
      rw [← hW4]
      clear hW4
      refine hD.mono ?_
      rintro e w' ⟨rfl, hw'⟩
      subst hw'
      clear hD
      go_wp2_with (go_at_call 13; refine hR.mono ?_; rintro e w5 ⟨rfl, hb5⟩; clear hR; obtain ⟨⟨i0, i1, i2, i3⟩, i4, i5⟩ := res5 w5 hb5)
      have b5 := (hb5.block _ (lt_of_block b4)).trans b4
      obtain ⟨j0, j1, _, _⟩ := cells2 (set2_1 (u := .slice a1 n1 d1) (set2_0 (u := .slice a0 n0 d0) b5))
      have k5 := (Chg.setCell w5 ⟨w.heap.size, 0, none⟩ (.slice a0 n0 d0)).trans (Chg.setCell _ ⟨w.heap.size, 1, none⟩ (.slice a1 n1 d1)) fun _ _ e => e
      have hb := ((hb4.trans (hb5.mono hb4.size)).setCell (p := ⟨w.heap.size, 0, none⟩) (Nat.le_refl _) (.slice a0 n0 d0)).setCell (p := ⟨w.heap.size, 1, none⟩) (Nat.le_refl _) (.slice a1 n1 d1)
      have T := (hU4.keep (upFrom_chg (Chg.of_below (S := fun _ => False) hb5) (fun _ e => e.elim) (Nat.le_refl _))).keep (upFrom_chg k5 (B' := 0) (fun i (e : i = w.heap.size) => by omega) (Nat.zero_le _))
      have F := fin _ (.slice a0 n0 d0) (.slice a1 n1 d1) (by rw [(hyes hf).2]; exact T.keep upFrom_le) hb
      rw [(hyes hf).1] at F
      exact ret_scr2 rfl rfl rfl rfl j0 j1 F
  · have hf : getOk bs = false := by rw [hok, decide_eq_false hd]; rfl
    have hne : (doneOf st.1 st.2 != 0) = true := by simp [hd]
    obtain ⟨j0, j1, F⟩ := fin0 hf W4 (Below.refl _ _)
    generalize doneOf st.1 st.2 = dn at hD hne
    go_wp2_with fail
    rw [← hW4]
    clear hW4
    refine hD.mono ?_
    rintro e w' ⟨rfl, hw'⟩
    subst hw'
    clear hD
    go_wp2_with fail
    exact ret_scr2 rfl rfl rfl rfl j0 j1 F
end Go.Proofs.Ytkbmmaacmofijaa
