/- The law CodeBack. -/
import Derived.Test.YtkbmmaacmofijaaLCut
namespace Go.Proofs.Ytkbmmaacmofijaa
open Go.RowKit
/-- Get of a script's bytes. -/
theorem get4_self {s : Scr} (hr : s.right = true) (a : Option Addr) (m c : Nat) (hm : (scrB s).length = m) (w : World) (hB : Bs w a (scrB s)) (hm' : m ≤ 140737488355328) : Calls Try.prog 20 #[.slice a m c] w fun e w' => (∃ a0 c0 a1 c1, e = .returned (.tuple #[.agg #[.slice a0 s.consts.length c0, .slice a1 s.funcs.length c1], .int .i64 0]) ∧ ScIs w'.cell? s (.slice a0 s.consts.length c0) (.slice a1 s.funcs.length c1)) ∧ Below w.heap.size w w' := by
  refine (get4_any a m c _ hm w hB hm').mono ?_
  rintro e w' ⟨⟨u0, u1, rfl, hS⟩, hb⟩
  obtain ⟨h1, h2⟩ := getOk_self hr
  rw [(get_yes h1).2, h2] at hS
  rw [(get_yes h1).1]
  have hS' := hS
  obtain ⟨⟨a0, c0, rfl, _⟩, ⟨a1, c1, rfl, _⟩⟩ := hS'
  exact ⟨⟨a0, c0, a1, c1, rfl, hS⟩, hb⟩
set_option maxRecDepth 100000 in
set_option maxHeartbeats 1000000 in
theorem cback_walk (s : Scr) (V0 V1 : Value) (x : UInt8) (w : World) (hs : ScIs w.cell? s V0 V1) (hsf : s.fits) (hI64 : ∀ f ∈ s.funcs, ∀ x ∈ f.code, -9223372036854775808 ≤ x.2 ∧ x.2 ≤ 9223372036854775807) : Calls Try.prog 6 #[.agg #[V0, V1], .int .u8 (x.toNat : Int)] w fun e w' => e = .returned (.bool true) ∧ Below w.heap.size w w' := by
  have hC1 := cloneput s V0 V1 w hs hsf
  have hR : ∀ W, Below w.heap.size w W → Calls Try.prog 14 #[.agg #[V0, V1]] W fun e w' => e = .returned (.bool s.right) ∧ Below W.heap.size W w' := fun W hW => rright4_any s _ _ W (hs.keep (below_keep hW)) hsf hI64
  have hE : ∀ W u0 u1, Below w.heap.size w W → ScIs W.cell? s u0 u1 → Calls Try.prog 15 #[.agg #[u0, u1], .agg #[V0, V1]] W fun e w' => e = .returned (.bool true) ∧ Below W.heap.size W w' := fun W u0 u1 hW hu => by
    have := rsame_any s s u0 u1 V0 V1 W hu (hs.keep (below_keep hW)) hsf hsf
    rw [decide_eq_true rfl] at this
    exact this
  have hKn := knows4_any
  have hcut := fun h => getOk_cut (s := s) h
  have hmore := fun h => getOk_more (s := s) h
  have hself := fun h => get4_self (s := s) h
  have hmost := fun h => scrB_most (s := s) h
  have hpos := scrB_pos s
  obtain ⟨⟨A0, C0, rfl, _⟩, ⟨A1, C1, rfl, _⟩⟩ := hs
  generalize s.consts.length = n0 at *
  generalize s.funcs.length = n1 at *
  obtain ⟨W2, hW2⟩ : ∃ W2, W2 = w.alloc (.cells #[.slice A0 n0 C0, .slice A1 n1 C1] 25) := ⟨_, rfl⟩
  have hb2 : Below w.heap.size w W2 := by rw [hW2]; exact (Below.refl _ w).alloc (Nat.le_refl _) _
  have bA : W2.heap[w.heap.size]? = some (.cells #[.slice A0 n0 C0, .slice A1 n1 C1] 25 (0, 0)) := by rw [hW2]; exact heap_alloc_new w _
  have hcells : ∀ W, Below W2.heap.size W2 W → W.cell? ⟨w.heap.size, 0, none⟩ = some (.slice A0 n0 C0) ∧ W.cell? ⟨w.heap.size, 1, none⟩ = some (.slice A1 n1 C1) := fun W hW => by
    obtain ⟨q0, q1, _, _⟩ := cells2 ((hW.block _ (lt_of_block bA)).trans bA)
    exact ⟨q0, q1⟩
  have lift : ∀ W, Below W2.heap.size W2 W → Below w.heap.size w W := fun W h => hb2.trans (h.mono hb2.size)
  have hD1 := hC1 W2 hb2
  clear hC1
  cases hr : s.right with
  | false =>
    have e1 : putE4 s = 30 := by simp [putE4, hr]
    have e2 : putB4 s = [] := by simp [putB4, hr]
    rw [e1, e2] at hD1
    rw [hr] at hR
    go_enter Try.func6, Try.ntmps6
    go_wp2_with fail
    rw [← hW2]
    clear hW2
    refine hD1.mono ?_
    clear hD1
    rintro e w3 ⟨⟨u0, u1, rfl, hP⟩, hb3⟩
    go_wp2_with (first | (go_at_call 18; refine hP.mono ?_; clear hP; rintro e w4 ⟨⟨xa, xc, rfl, hX, hxc⟩, hb4'⟩; have hb4 := hb3.trans (hb4'.mono hb3.size); obtain ⟨p0, p1⟩ := hcells w4 hb4; have hR4 := hR w4 (lift _ hb4); clear hR) | (go_at_call 22; refine (num4_any _ _).mono ?_; rintro e w' ⟨rfl, hw'⟩; replace hw' := hw'.symm; subst hw') | (go_at_call 14; refine hR4.mono ?_; rintro e w5 ⟨rfl, hb5'⟩; clear hR4; have hb5 := hb4.trans (hb5'.mono hb4.size)) | (go_at_call 16; refine (hKn _).mono ?_; rintro e w6 ⟨rfl, hb6'⟩; have hb6 := hb5.trans (hb6'.mono hb5.size)))
    go_ret
    exact ⟨rfl, lift _ hb6⟩
  | true =>
    have e1 : putE4 s = 0 := by simp [putE4, hr]
    have e2 : putB4 s = scrB s := by simp [putB4, hr]
    rw [e1, e2] at hD1
    replace hcut := hcut hr
    replace hmore := hmore hr x
    replace hself := hself hr
    replace hmost := hmost hr
    generalize scrB s = bs at *
    obtain ⟨n, hn⟩ : ∃ n, n = bs.length := ⟨_, rfl⟩
    rw [← hn] at hD1 hcut hmost hpos
    have HN := hid hn
    clear hn e1 e2
    have hne : ((n : Int) == 0) = false := by simp; omega
    have hn1 : ((n - 1 : Nat) : Int) = (n : Int) - 1 := by omega
    go_enter Try.func6, Try.ntmps6
    go_wp2_with fail
    rw [← hW2]
    clear hW2
    refine hD1.mono ?_
    clear hD1
    rintro e w3 ⟨⟨u0, u1, rfl, hP⟩, hb3⟩
    go_wp2_with (first | (go_at_call 18; refine hP.mono ?_; clear hP; rintro e w4 ⟨⟨xa, xc, rfl, hX, hxc⟩, hb4'⟩; have hb4 := hb3.trans (hb4'.mono hb3.size); have hG4 := hself xa n xc HN.out.symm w4 hX (by omega); clear hself) | (go_at_call 22; refine (num4_any _ _).mono ?_; rintro e w' ⟨rfl, hw'⟩; replace hw' := hw'.symm; subst hw'))
    refine hG4.mono ?_
    clear hG4
    rintro e w5 ⟨⟨a0, c0, a1, c1, rfl, hS5⟩, hb5'⟩
    have hb5 := hb4.trans (hb5'.mono hb4.size)
    replace hX := hX.keep (below_keep hb5')
    -- the script that was read, in its box
    obtain ⟨W6, hW6⟩ : ∃ W6, W6 = w5.alloc (.cells #[.slice a0 n0 c0, .slice a1 n1 c1] 25) := ⟨_, rfl⟩
    have hb56 : Below w5.heap.size w5 W6 := by rw [hW6]; exact (Below.refl _ _).alloc (Nat.le_refl _) _
    have bX : W6.heap[w5.heap.size]? = some (.cells #[.slice a0 n0 c0, .slice a1 n1 c1] 25 (0, 0)) := by rw [hW6]; exact heap_alloc_new w5 _
    have hb6 := hb5.trans (hb56.mono hb5.size)
    replace hX := hX.keep (below_keep hb56)
    replace hS5 := hS5.keep (below_keep hb56)
    have hO0 : OwnB (W6.alloc (.cells #[] 5)) W6.heap.size (.slice (some ⟨W6.heap.size, 0, none⟩) 0 0) [] := World.ownsRow_lit W6 #[] 0 (Nat.le_refl _) (Nat.zero_le _) rfl
    have hb7 : Below W6.heap.size W6 (W6.alloc (.cells #[] 5)) := (Below.refl _ _).alloc (Nat.le_refl _) _
    have hSrc := src_bs (P := Try.prog) _ Try.underlying36 (hX.keep (below_keep hb7)) xc
    rw [← HN.out] at hSrc
    have hO0' : OwnB (W6.alloc (.cells #[] 5)) w.heap.size (.slice (some ⟨W6.heap.size, 0, none⟩) 0 0) [] := World.ownsRow_lit W6 #[] 0 (lift _ hb6).size (Nat.zero_le _) rfl
    go_upto_region 5 with fail
    rw [← hW6]
    clear hW6
    go_wp2_with (first | (at_builtin; first | (refine wpList_app _ rfl _ _ _ _ rfl elem_u8 W6.heap.size _ _ rfl hO0 _ rfl (bs.map bv) hSrc (by simp only [List.length_map, ← HN.out]; unfold maxLen; simp; omega) (by simp only [List.length_map, ← HN.out]; simp; omega) (by simp) ?_; intro v8 w8 ho8 hs8; clear hO0 hSrc; have hO8 : OwnB w8 W6.heap.size v8 bs := (by simpa [OwnB] using ho8); have hO8a := Own.alloc hO8 (.cells #[.int .u8 (x.toNat : Int)] 5); have hS8 := src_one (P := Try.prog) w8 Try.underlying36 (.int .u8 (x.toNat : Int)) (bv x) 5 rfl rfl 1; have hb8 : Below W6.heap.size W6 w8 := hb7.trans (hs8.below hb7.size fun k e => by cases e; exact Nat.le_refl _); have z8 := hb8.size) | (refine wpList_app _ rfl _ _ _ _ rfl elem_u8 W6.heap.size _ _ rfl hO8a _ rfl [bv x] hS8 (by simp only [List.length_map, List.length_cons, List.length_nil, ← HN.out]; unfold maxLen; omega) (by simp only [List.length_map, List.length_cons, List.length_nil, ← HN.out]; omega) (by simp; omega) ?_; intro v9 w9 ho9 hs9; clear hO8a hS8; have hO9 : OwnB w9 W6.heap.size v9 (bs ++ [x]) := (by simpa [OwnB] using ho9); obtain ⟨a9, c9, rfl, l9, m9, hB9, _, _⟩ := Own.bs hO9)))
    have hb9 : Below W6.heap.size W6 w9 := (hb8.alloc z8 (.cells #[.int .u8 (x.toNat : Int)] 5)).trans (hs9.below (by simp; omega) fun k e => (Own.lt hO8 k e).1)
    replace hX := hX.keep (below_keep hb9)
    have hG9 := get4_no a9 (bs.length + 1) c9 (bs ++ [x]) (by simp) w9 hB9 (by rw [← HN.out]; omega) hmore
    refine hG9.mono ?_
    rintro e w10 ⟨⟨f0, g0, f1, g1, rfl⟩, hb10'⟩
    clear hG9
    have hb10 := hb9.trans (hb10'.mono hb9.size)
    have hb11 := hb10.alloc hb10.size (.cells #[.slice f0 0 g0, .slice f1 0 g1] 25)
    replace hX := (hX.keep (below_keep hb10')).keep (keepA _ (.cells #[.slice f0 0 g0, .slice f1 0 g1] 25))
    have hG11 := get4_no xa (n - 1) xc (bs.take (n - 1)) (by rw [List.length_take, ← HN.out]; omega) _ (hX.take4 (n - 1)) (by omega) (hcut (n - 1) (by omega))
    have hlen : (0 : Int) ≤ (n : Int) - 1 := by omega
    have hlen2 : (n : Int) - 1 ≤ (xc : Int) := by omega
    have hton : ((n : Int) - 1).toNat = n - 1 := by omega
    go_wp2_with fail
    refine hG11.mono ?_
    rintro e w12 ⟨⟨f2, g2, f3, g3, rfl⟩, hb12'⟩
    clear hG11
    have hb12 := hb11.trans (hb12'.mono hb11.size)
    have hb13 := hb12.alloc hb12.size (.cells #[.slice f2 0 g2, .slice f3 0 g3] 25)
    have z13 := hb12.size
    have lX := lt_of_block bX
    obtain ⟨r0, r1, _, _⟩ := cells2 ((hb12.block _ lX).trans bX)
    obtain ⟨p0, p1⟩ := hcells w12 (hb6.trans (hb12.mono hb6.size))
    have z6 := (lift _ hb6).size
    have zA := lt_of_block bA
    have zB := hb6.size
    have hl1 : w5.heap.size < w12.heap.size := by omega
    have hl2 : w.heap.size < w12.heap.size := by omega
    have hE13 := hE _ _ _ (lift _ (hb6.trans (hb13.mono hb6.size))) (hS5.keep (below_keep hb13))
    clear hE
    go_wp2_with (first | (go_at_call 22; refine (num4_any _ _).mono ?_; rintro e w' ⟨rfl, hw'⟩; replace hw' := hw'.symm; subst hw') | (go_at_call 15; refine hE13.mono ?_; rintro e w14 ⟨rfl, hb14'⟩; clear hE13; have hb14 := hb13.trans (hb14'.mono hb13.size)) | (go_at_call 16; refine (hKn _).mono ?_; rintro e w15 ⟨rfl, hb15'⟩; have hb15 := hb14.trans (hb15'.mono hb14.size)))
    go_ret
    exact ⟨rfl, lift _ (hb6.trans (hb15.mono hb6.size))⟩
end Go.Proofs.Ytkbmmaacmofijaa
