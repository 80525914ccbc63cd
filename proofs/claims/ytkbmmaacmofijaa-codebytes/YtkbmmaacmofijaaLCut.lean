/- The law CodeCut. -/
import Derived.Test.YtkbmmaacmofijaaGG
import Derived.Test.YtkbmmaacmofijaaLApart
import Derived.Test.YtkbmmaacmofijaaCT
namespace Go.Proofs.Ytkbmmaacmofijaa
open Go.RowKit
theorem scrB_pos (s : Scr) : 1 ≤ (scrB s).length := by
  unfold scrB
  simp only [List.length_append, List.length_cons, List.length_nil]
  omega
theorem scrB_most {s : Scr} (h : s.right = true) : (scrB s).length ≤ 1048576 := by
  obtain ⟨h0, h1, h2, h3, h4⟩ := Scr.right_parts h
  have a := flatB s.funcs h4
  have b : ∀ (L : List (List UInt8)), (∀ x ∈ L, x.length ≤ 256) → (texts L).length ≤ 258 * L.length := fun L => by
    induction L with
    | nil => intro _; simp [texts]
    | cons x r ih =>
      intro h
      have a := ih fun y hy => h y (List.mem_cons_of_mem _ hy)
      have b := h x (List.mem_cons_self ..)
      unfold texts at a ⊢
      simp only [List.flatMap_cons, List.length_append, List.length_cons, text_length] at a ⊢
      omega
  have c := b s.consts h3
  unfold scrB
  simp only [List.length_append, List.length_cons, List.length_nil]
  omega
theorem Bs.take4 {w : World} {ao : Option Addr} {bs : List UInt8} (h : Bs w ao bs) (k : Nat) : Bs w ao (bs.take k) := by
  rcases h with h | ⟨b, off, h, hc⟩
  · exact .inl (by rw [h]; simp)
  · refine .inr ⟨b, off, h, fun j hj => ?_⟩
    rw [List.getElem_take]
    exact hc j (by rw [List.length_take] at hj; omega)
/-- Get of bytes that are no script. -/
theorem get4_no (a : Option Addr) (m c : Nat) (bs : List UInt8) (hm : bs.length = m) (w : World) (hB : Bs w a bs) (hm' : m ≤ 140737488355328) (hno : getOk bs = false) : Calls Try.prog 20 #[.slice a m c] w fun e w' => (∃ a0 c0 a1 c1, e = .returned (.tuple #[.agg #[.slice a0 0 c0, .slice a1 0 c1], .int .i64 30])) ∧ Below w.heap.size w w' := by
  refine (get4_any a m c bs hm w hB hm').mono ?_
  rintro e w' ⟨⟨u0, u1, rfl, hS⟩, hb⟩
  rw [(get_no hno).2] at hS
  rw [(get_no hno).1]
  obtain ⟨⟨a0, c0, rfl, _⟩, ⟨a1, c1, rfl, _⟩⟩ := hS
  exact ⟨⟨a0, c0, a1, c1, rfl⟩, hb⟩
theorem cut_place (k : Int) (n : Nat) (h1 : 1 ≤ n) (h2 : n ≤ 1048576) : ∃ j : Nat, (wrap64 (k.tmod (n : Int) + (n : Int))).tmod (n : Int) = j ∧ j < n := by
  have ha : (k.tmod (n : Int)).natAbs = k.natAbs % n := by rw [Int.natAbs_tmod]; simp
  have hb : k.natAbs % n < n := Nat.mod_lt _ (by omega)
  generalize k.tmod (n : Int) = x at *
  have e : wrap64 (x + n) = x + n := by unfold wrap64; omega
  rw [e, Int.tmod_eq_emod_of_nonneg (by omega)]
  have h3 := Int.emod_nonneg (x + n) (show (n : Int) ≠ 0 by omega)
  have h4 := Int.emod_lt_of_pos (x + n) (show (0 : Int) < n by omega)
  exact ⟨((x + n) % n).toNat, by omega, by omega⟩
set_option maxRecDepth 100000 in
set_option maxHeartbeats 1000000 in
theorem cut_walk (s : Scr) (V0 V1 : Value) (k : Int) (w : World) (hs : ScIs w.cell? s V0 V1) (hsf : s.fits) (hI64 : ∀ f ∈ s.funcs, ∀ x ∈ f.code, -9223372036854775808 ≤ x.2 ∧ x.2 ≤ 9223372036854775807) : Calls Try.prog 8 #[.agg #[V0, V1], .int .i64 k] w fun e w' => e = .returned (.bool true) ∧ Below w.heap.size w w' := by
  have hC1 := cloneput s V0 V1 w hs hsf
  have hR : ∀ W, Below w.heap.size w W → Calls Try.prog 14 #[.agg #[V0, V1]] W fun e w' => e = .returned (.bool s.right) ∧ Below W.heap.size W w' := fun W hW => rright4_any s _ _ W (hs.keep (below_keep hW)) hsf hI64
  have hKn := knows4_any
  have hcut := fun h => getOk_cut (s := s) h
  have hmost := fun h => scrB_most (s := s) h
  have hpos := scrB_pos s
  obtain ⟨⟨A0, C0, rfl, _⟩, ⟨A1, C1, rfl, _⟩⟩ := hs
  generalize s.consts.length = n0 at *
  generalize s.funcs.length = n1 at *
  obtain ⟨W2, hW2⟩ : ∃ W2, W2 = w.alloc (.cells #[.slice A0 n0 C0, .slice A1 n1 C1] 25) := ⟨_, rfl⟩
  have hb2 : Below w.heap.size w W2 := by rw [hW2]; exact (Below.refl _ w).alloc (Nat.le_refl _) _
  have bA : W2.heap[w.heap.size]? = some (.cells #[.slice A0 n0 C0, .slice A1 n1 C1] 25 (0, 0)) := by rw [hW2]; exact heap_alloc_new w _
  have hcells : ∀ W, Below W2.heap.size W2 W → W.cell? ⟨w.heap.size, 0, none⟩ = some (.slice A0 n0 C0) ∧ W.cell? ⟨w.heap.size, 1, none⟩ = some (.slice A1 n1 C1) := fun W hW => by
    obtain ⟨q0, q1, _, _⟩ := cells2 ((hW.block _ (lt_of_block bA)).trans bA)
    exact ⟨q0, q1⟩
  have lift : ∀ W, Below W2.heap.size W2 W → Below w.heap.size w W := fun W h => hb2.trans (h.mono hb2.size)
  have hD1 := hC1 W2 hb2
  clear hC1
  cases hr : s.right with
  | false =>
    have e1 : putE4 s = 30 := by simp [putE4, hr]
    have e2 : putB4 s = [] := by simp [putB4, hr]
    rw [e1, e2] at hD1
    rw [hr] at hR
    go_enter Try.func8, Try.ntmps8
    go_wp2_with fail
    rw [← hW2]
    clear hW2
    refine hD1.mono ?_
    clear hD1
    rintro e w3 ⟨⟨u0, u1, rfl, hP⟩, hb3⟩
    go_wp2_with (first | (go_at_call 18; refine hP.mono ?_; clear hP; rintro e w4 ⟨⟨xa, xc, rfl, hX, hxc⟩, hb4'⟩; have hb4 := hb3.trans (hb4'.mono hb3.size); obtain ⟨p0, p1⟩ := hcells w4 hb4; have hR4 := hR w4 (lift _ hb4); clear hR) | (go_at_call 22; refine (num4_any _ _).mono ?_; rintro e w' ⟨rfl, hw'⟩; replace hw' := hw'.symm; subst hw') | (go_at_call 14; refine hR4.mono ?_; rintro e w5 ⟨rfl, hb5'⟩; clear hR4; have hb5 := hb4.trans (hb5'.mono hb4.size)) | (go_at_call 16; refine (hKn _).mono ?_; rintro e w6 ⟨rfl, hb6'⟩; have hb6 := hb5.trans (hb6'.mono hb5.size)))
    go_ret
    exact ⟨rfl, lift _ hb6⟩
  | true =>
    have e1 : putE4 s = 0 := by simp [putE4, hr]
    have e2 : putB4 s = scrB s := by simp [putB4, hr]
    rw [e1, e2] at hD1
    replace hcut := hcut hr
    replace hmost := hmost hr
    generalize scrB s = bs at *
    obtain ⟨n, hn⟩ : ∃ n, n = bs.length := ⟨_, rfl⟩
    rw [← hn] at hD1 hcut hmost hpos
    have HN := hid hn
    clear hn
    have hne : ((n : Int) == 0) = false := by simp; omega
    obtain ⟨j, hj, hjn⟩ := cut_place k n hpos hmost
    go_enter Try.func8, Try.ntmps8
    go_wp2_with fail
    rw [← hW2]
    clear hW2
    refine hD1.mono ?_
    clear hD1
    rintro e w3 ⟨⟨u0, u1, rfl, hP⟩, hb3⟩
    go_wp2_with (first | (go_at_call 18; refine hP.mono ?_; clear hP; rintro e w4 ⟨⟨xa, xc, rfl, hX, hxc⟩, hb4'⟩; have hb4 := hb3.trans (hb4'.mono hb3.size); obtain ⟨p0, p1⟩ := hcells w4 hb4) | (go_at_call 22; refine (num4_any _ _).mono ?_; rintro e w' ⟨rfl, hw'⟩; replace hw' := hw'.symm; subst hw'))
    have hG := get4_no xa j xc (bs.take j) (by rw [List.length_take, ← HN.out]; omega) w4 (hX.take4 j) (by omega) (hcut j hjn)
    refine hG.mono ?_
    rintro e w5 ⟨⟨a0, c0, a1, c1, rfl⟩, hb5'⟩
    clear hG
    have hb5 := hb4.trans (hb5'.mono hb4.size)
    have hb6 := hb5.alloc hb5.size (.cells #[.slice a0 0 c0, .slice a1 0 c1] 25)
    go_wp2_with (first | (go_at_call 22; refine (num4_any _ _).mono ?_; rintro e w' ⟨rfl, hw'⟩; replace hw' := hw'.symm; subst hw') | (go_at_call 16; refine (hKn _).mono ?_; rintro e w7 ⟨rfl, hb7'⟩; have hb7 := hb6.trans (hb7'.mono hb6.size)))
    go_ret
    exact ⟨rfl, lift _ hb7⟩
end Go.Proofs.Ytkbmmaacmofijaa
