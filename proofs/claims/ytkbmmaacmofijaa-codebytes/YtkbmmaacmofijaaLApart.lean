/- The law CodeApart. -/
import Derived.Test.YtkbmmaacmofijaaCK
import Derived.Test.YtkbmmaacmofijaaCG
import Derived.Test.YtkbmmaacmofijaaCS
namespace Go.Proofs.Ytkbmmaacmofijaa
open Go.RowKit
/-- What Put answers: bytes and the error. -/
def putB4 (s : Scr) : List UInt8 := if s.right = true then scrB s else []
def putE4 (s : Scr) : Int := if s.right = true then 0 else 30
theorem put4_form {s : Scr} {w : World} {e : Ending} {w' : World} (h : PutEnd4 s w e w') : (∃ ao cap, e = .returned (.tuple #[.slice ao (putB4 s).length cap, .int .i64 (putE4 s)]) ∧ Bs w' ao (putB4 s) ∧ (putB4 s).length ≤ cap) ∧ Below w.heap.size w w' := by
  obtain ⟨hb, h⟩ := h
  refine ⟨?_, hb⟩
  rcases h with ⟨h1, rfl⟩ | ⟨h1, a, rfl, h2⟩
  · exact ⟨none, 0, by simp [putB4, putE4, h1], .inl (by simp [putB4, h1]), by simp [putB4, h1]⟩
  · exact ⟨some a, (scrB s).length, by simp [putB4, putE4, h1], by simpa [putB4, h1] using h2, by simp [putB4, h1]⟩
/-- A copy of a script, written. -/
theorem cloneput (s : Scr) (V0 V1 : Value) (w : World) (hs : ScIs w.cell? s V0 V1) (hsf : s.fits) : ∀ W, Below w.heap.size w W → Calls Try.prog 9 #[.agg #[V0, V1]] W fun e w' => (∃ u0 u1, e = .returned (.agg #[u0, u1]) ∧ Calls Try.prog 18 #[.agg #[u0, u1]] w' fun e2 w2 => (∃ ao cap, e2 = .returned (.tuple #[.slice ao (putB4 s).length cap, .int .i64 (putE4 s)]) ∧ Bs w2 ao (putB4 s) ∧ (putB4 s).length ≤ cap) ∧ Below w'.heap.size w' w2) ∧ Below W.heap.size W w' := fun W hW => by
  refine (rclone_any s V0 V1 W (hs.keep (below_keep hW)) hsf).mono ?_
  rintro e w3 ⟨u0, u1, rfl, hX, hb3⟩
  exact ⟨⟨u0, u1, rfl, (put4_any s u0 u1 w3 hX hsf).mono fun e w' h => put4_form h⟩, hb3⟩
set_option maxRecDepth 100000 in
set_option maxHeartbeats 1000000 in
theorem apart_walk (s t : Scr) (V0 V1 U0 U1 : Value) (w : World) (hs : ScIs w.cell? s V0 V1) (ht : ScIs w.cell? t U0 U1) (hsf : s.fits) (htf : t.fits) : Calls Try.prog 7 #[.agg #[V0, V1], .agg #[U0, U1]] w fun e w' => e = .returned (.bool true) ∧ Below w.heap.size w w' := by
  have hC1 := cloneput s V0 V1 w hs hsf
  have hC2 := cloneput t U0 U1 w ht htf
  have hE : ∀ W, Below w.heap.size w W → Calls Try.prog 15 #[.agg #[V0, V1], .agg #[U0, U1]] W fun e w' => e = .returned (.bool (decide (s = t))) ∧ Below W.heap.size W w' := fun W hW => rsame_any s t _ _ _ _ W (hs.keep (below_keep hW)) (ht.keep (below_keep hW)) hsf htf
  have hKn := knows4_any
  have h3 : putE4 s = 30 ∨ (putE4 s = 0 ∧ putE4 t = 30) ∨ (putE4 s = 0 ∧ putE4 t = 0 ∧ decide (putB4 s = putB4 t) = decide (s = t)) := by
    cases h1 : s.right with
    | false => exact .inl (by simp [putE4, h1])
    | true =>
      right
      cases h2 : t.right with
      | false => exact .inl ⟨by simp [putE4, h1], by simp [putE4, h2]⟩
      | true => exact .inr ⟨by simp [putE4, h1], by simp [putE4, h2], by simp [putB4, h1, h2, scrB_inj h1 h2]⟩
  obtain ⟨⟨A0, C0, rfl, _⟩, ⟨A1, C1, rfl, _⟩⟩ := hs
  obtain ⟨⟨B0, D0, rfl, _⟩, ⟨B1, D1, rfl, _⟩⟩ := ht
  generalize s.consts.length = n0 at *
  generalize s.funcs.length = n1 at *
  generalize t.consts.length = m0 at *
  generalize t.funcs.length = m1 at *
  obtain ⟨W2, hW2⟩ : ∃ W2, W2 = (w.alloc (.cells #[.slice A0 n0 C0, .slice A1 n1 C1] 25)).alloc (.cells #[.slice B0 m0 D0, .slice B1 m1 D1] 25) := ⟨_, rfl⟩
  have hb2 : Below w.heap.size w W2 := by rw [hW2]; exact ((Below.refl _ w).alloc (Nat.le_refl _) _).alloc (by simp) _
  have bA : W2.heap[w.heap.size]? = some (.cells #[.slice A0 n0 C0, .slice A1 n1 C1] 25 (0, 0)) := by rw [hW2, Below.heap_alloc _ _ _ (by simp)]; exact heap_alloc_new w _
  have bB : W2.heap[w.heap.size + 1]? = some (.cells #[.slice B0 m0 D0, .slice B1 m1 D1] 25 (0, 0)) := by
    have := heap_alloc_new (w.alloc (.cells #[.slice A0 n0 C0, .slice A1 n1 C1] 25)) (.cells #[.slice B0 m0 D0, .slice B1 m1 D1] 25)
    rw [hW2]; simpa using this
  have lA := (Array.getElem?_eq_some_iff.1 bA).1
  have lB := (Array.getElem?_eq_some_iff.1 bB).1
  have hcells : ∀ W, Below W2.heap.size W2 W → (W.cell? ⟨w.heap.size, 0, none⟩ = some (.slice A0 n0 C0) ∧ W.cell? ⟨w.heap.size, 1, none⟩ = some (.slice A1 n1 C1)) ∧ W.cell? ⟨w.heap.size + 1, 0, none⟩ = some (.slice B0 m0 D0) ∧ W.cell? ⟨w.heap.size + 1, 1, none⟩ = some (.slice B1 m1 D1) := fun W hW => by
    have e1 := (hW.block _ lA).trans bA
    have e2 := (hW.block _ lB).trans bB
    exact ⟨⟨by rw [Lib.cell_of_heap e1]; rfl, by rw [Lib.cell_of_heap e1]; rfl⟩, by rw [Lib.cell_of_heap e2]; rfl, by rw [Lib.cell_of_heap e2]; rfl⟩
  have lift : ∀ W, Below W2.heap.size W2 W → Below w.heap.size w W := fun W h => hb2.trans (h.mono hb2.size)
  have hD1 := hC1 W2 hb2
  clear hC1
  have e4 : (putB4 s).length = (putB4 s).length := rfl
  generalize putB4 s = pb at *
  generalize putB4 t = qb at *
  generalize decide (s = t) = same at *
  generalize putE4 s = pe at *
  generalize putE4 t = qe at *
  clear e4
  rcases h3 with rfl | ⟨rfl, rfl⟩ | ⟨rfl, rfl, hsame⟩
  · go_enter Try.func7, Try.ntmps7
    go_wp2_with fail
    rw [← hW2]
    clear hW2
    refine hD1.mono ?_
    clear hD1
    rintro e w3 ⟨⟨u0, u1, rfl, hP⟩, hb3⟩
    go_wp2_with (first | (go_at_call 18; first | (refine hP.mono ?_; clear hP; rintro e w4 ⟨⟨xa, xc, rfl, hX, _⟩, hb4'⟩; have hb4 := hb3.trans (hb4'.mono hb3.size); obtain ⟨_, p2, p3⟩ := hcells w4 hb4; have hD2 := hC2 w4 (lift _ hb4); clear hC2 hb4') | (refine hP2.mono ?_; clear hP2; rintro e w6 ⟨⟨ya, yc, rfl, hY, _⟩, hb6'⟩; have hb46 : Below w4.heap.size w4 w6 := hb5'.trans (hb6'.mono hb5'.size); have hb6 := hb4.trans (hb46.mono hb4.size); replace hX := hX.keep (below_keep hb46); clear hb5' hb6')) | (go_at_call 9; refine hD2.mono ?_; clear hD2; rintro e w5 ⟨⟨u2, u3, rfl, hP2⟩, hb5'⟩) | (go_at_call 22; refine (num4_any _ _).mono ?_; rintro e w' ⟨rfl, hw'⟩; replace hw' := hw'.symm; subst hw') | (go_at_call 16; refine (hKn _).mono ?_; rintro e w8 ⟨rfl, hb8⟩))
    go_ret
    exact ⟨rfl, lift _ (hb6.trans (hb8.mono hb6.size))⟩
  · go_enter Try.func7, Try.ntmps7
    go_wp2_with fail
    rw [← hW2]
    clear hW2
    refine hD1.mono ?_
    clear hD1
    rintro e w3 ⟨⟨u0, u1, rfl, hP⟩, hb3⟩
    go_wp2_with (first | (go_at_call 18; first | (refine hP.mono ?_; clear hP; rintro e w4 ⟨⟨xa, xc, rfl, hX, _⟩, hb4'⟩; have hb4 := hb3.trans (hb4'.mono hb3.size); obtain ⟨_, p2, p3⟩ := hcells w4 hb4; have hD2 := hC2 w4 (lift _ hb4); clear hC2 hb4') | (refine hP2.mono ?_; clear hP2; rintro e w6 ⟨⟨ya, yc, rfl, hY, _⟩, hb6'⟩; have hb46 : Below w4.heap.size w4 w6 := hb5'.trans (hb6'.mono hb5'.size); have hb6 := hb4.trans (hb46.mono hb4.size); replace hX := hX.keep (below_keep hb46); clear hb5' hb6')) | (go_at_call 9; refine hD2.mono ?_; clear hD2; rintro e w5 ⟨⟨u2, u3, rfl, hP2⟩, hb5'⟩) | (go_at_call 22; refine (num4_any _ _).mono ?_; rintro e w' ⟨rfl, hw'⟩; replace hw' := hw'.symm; subst hw') | (go_at_call 16; refine (hKn _).mono ?_; rintro e w8 ⟨rfl, hb8⟩))
    go_ret
    exact ⟨rfl, lift _ (hb6.trans (hb8.mono hb6.size))⟩
  · go_enter Try.func7, Try.ntmps7
    go_wp2_with fail
    rw [← hW2]
    clear hW2
    refine hD1.mono ?_
    clear hD1
    rintro e w3 ⟨⟨u0, u1, rfl, hP⟩, hb3⟩
    go_wp2_with (first | (go_at_call 18; first | (refine hP.mono ?_; clear hP; rintro e w4 ⟨⟨xa, xc, rfl, hX, _⟩, hb4'⟩; have hb4 := hb3.trans (hb4'.mono hb3.size); obtain ⟨_, p2, p3⟩ := hcells w4 hb4; have hD2 := hC2 w4 (lift _ hb4); clear hC2 hb4') | (refine hP2.mono ?_; clear hP2; rintro e w6 ⟨⟨ya, yc, rfl, hY, _⟩, hb6'⟩; have hb46 : Below w4.heap.size w4 w6 := hb5'.trans (hb6'.mono hb5'.size); have hb6 := hb4.trans (hb46.mono hb4.size); replace hX := hX.keep (below_keep hb46); clear hb5' hb6')) | (go_at_call 9; refine hD2.mono ?_; clear hD2; rintro e w5 ⟨⟨u2, u3, rfl, hP2⟩, hb5'⟩) | (go_at_call 22; refine (num4_any _ _).mono ?_; rintro e w' ⟨rfl, hw'⟩; replace hw' := hw'.symm; subst hw'))
    have hst : ∀ W, Below w6.heap.size w6 W → (convert 36 9 (.slice xa pb.length xc)).run Try.prog W = .ok (.string ⟨pb.toArray⟩) W ∧ (convert 36 9 (.slice ya qb.length yc)).run Try.prog W = .ok (.string ⟨qb.toArray⟩) W := fun W hW => ⟨run_str (hX.keep (below_keep hW)) xc, run_str (hY.keep (below_keep hW)) yc⟩
    have hSk : ∀ W, Below w6.heap.size w6 W → W.cell? ⟨w.heap.size, 0, none⟩ = some (.slice A0 n0 C0) ∧ W.cell? ⟨w.heap.size, 1, none⟩ = some (.slice A1 n1 C1) ∧ W.cell? ⟨w.heap.size + 1, 0, none⟩ = some (.slice B0 m0 D0) ∧ W.cell? ⟨w.heap.size + 1, 1, none⟩ = some (.slice B1 m1 D1) ∧ (convert 36 9 (.slice xa pb.length xc)).run Try.prog W = .ok (.string ⟨pb.toArray⟩) W ∧ (convert 36 9 (.slice ya qb.length yc)).run Try.prog W = .ok (.string ⟨qb.toArray⟩) W := fun W hW => by
      obtain ⟨⟨a1, a2⟩, a3, a4⟩ := hcells W (hb6.trans (hW.mono hb6.size))
      exact ⟨a1, a2, a3, a4, (hst W hW).1, (hst W hW).2⟩
    have hE1 := hE w6.drew ((lift _ hb6).drew)
    have hb7 : Below w6.heap.size w6 w6.drew := (Below.refl _ _).drew
    clear hE hX hY
    by_cases hpq : pb = qb
    · obtain rfl : pb = qb := hpq
      obtain rfl : same = true := by simpa using hsame.symm
      clear hsame
      go_region_held3 (fun W => W.cell? ⟨w.heap.size, 0, none⟩ = some (.slice A0 n0 C0) ∧ W.cell? ⟨w.heap.size, 1, none⟩ = some (.slice A1 n1 C1) ∧ W.cell? ⟨w.heap.size + 1, 0, none⟩ = some (.slice B0 m0 D0) ∧ W.cell? ⟨w.heap.size + 1, 1, none⟩ = some (.slice B1 m1 D1) ∧ (convert 36 9 (.slice xa pb.length xc)).run Try.prog W = .ok (.string ⟨pb.toArray⟩) W ∧ (convert 36 9 (.slice ya pb.length yc)).run Try.prog W = .ok (.string ⟨pb.toArray⟩) W) (first | exact hSk _ hb9 | exact hSk _ hb8 | exact hSk _ hb7 | exact hSk _ (Below.refl _ _) | go_keep) (first | (go_at_call 15; refine hE1.mono ?_; rintro e w8 ⟨rfl, hb8'⟩; clear hE1; have hb8 := hb7.trans (hb8'.mono hb7.size)) | (go_at_call 16; refine (hKn _).mono ?_; rintro e w9 ⟨rfl, hb9'⟩; clear hKn; have hb9 := hb8.trans (hb9'.mono hb8.size)))
      go_wp2_with fail
      go_ret
      exact ⟨rfl, lift _ (hb6.trans (hb9.mono hb6.size))⟩
    · obtain rfl : same = false := by rw [← hsame]; exact decide_eq_false hpq
      have q : (pb == qb) = false := by simp [hpq]
      have q' : (pb != qb) = true := by simp [hpq]
      clear hsame
      go_region_held3 (fun W => W.cell? ⟨w.heap.size, 0, none⟩ = some (.slice A0 n0 C0) ∧ W.cell? ⟨w.heap.size, 1, none⟩ = some (.slice A1 n1 C1) ∧ W.cell? ⟨w.heap.size + 1, 0, none⟩ = some (.slice B0 m0 D0) ∧ W.cell? ⟨w.heap.size + 1, 1, none⟩ = some (.slice B1 m1 D1) ∧ (convert 36 9 (.slice xa pb.length xc)).run Try.prog W = .ok (.string ⟨pb.toArray⟩) W ∧ (convert 36 9 (.slice ya qb.length yc)).run Try.prog W = .ok (.string ⟨qb.toArray⟩) W) (first | exact hSk _ hb9 | exact hSk _ hb8 | exact hSk _ hb7 | exact hSk _ (Below.refl _ _) | go_keep) (first | (go_at_call 15; refine hE1.mono ?_; rintro e w8 ⟨rfl, hb8'⟩; clear hE1; have hb8 := hb7.trans (hb8'.mono hb7.size)) | (go_at_call 16; refine (hKn _).mono ?_; rintro e w9 ⟨rfl, hb9'⟩; clear hKn; have hb9 := hb8.trans (hb9'.mono hb8.size)))
      go_wp2_with fail
      go_ret
      exact ⟨rfl, lift _ (hb6.trans (hb9.mono hb6.size))⟩
end Go.Proofs.Ytkbmmaacmofijaa
