/- The law CallsOrders. -/
import Derived.Test.YtikomfbpaimnmaaXV
namespace Go.Proofs.Ytikomfbpaimnmaa
open Go.RowKit
def ordE (s : Scr) : Int := if s.right = true then (if (ordS s.funcs.length (gF s)).isNone = true then 34 else 0) else 30
def ordL (s : Scr) : List Nat := if s.right = true then (ordS s.funcs.length (gF s)).getD [] else []
theorem ord_end {s : Scr} {w w' : World} {e : Ending} (h : OrdEnd s w e w') : ∃ la lc, e = .returned (.tuple #[.slice la (ordL s).length lc, .int .i64 (ordE s)]) ∧ NsAt w'.cell? la (rowI (ordL s)) ∧ Below w.heap.size w w' := by
  obtain ⟨h1, h2⟩ := h
  unfold ordE ordL
  by_cases hr : s.right = true
  · rw [if_pos hr] at h2
    rw [if_pos hr, if_pos hr]
    cases ho : ordS s.funcs.length (gF s) with
    | none => rw [ho] at h2; exact ⟨none, 0, h2, .inl rfl, h1⟩
    | some o =>
      rw [ho] at h2
      obtain ⟨la, lc, e1, e2⟩ := h2
      exact ⟨la, lc, e1, e2, h1⟩
  · rw [if_neg hr] at h2
    rw [if_neg hr, if_neg hr]
    exact ⟨none, 0, h2, .inl rfl, h1⟩
theorem ordL_len (s : Scr) : (ordL s).length ≤ 16 := by
  unfold ordL
  split
  · rename_i hr
    cases ho : ordS s.funcs.length (gF s) with
    | none => simp
    | some o => have := (ord_told ho).1; have := (right_calls hr).1; simp; omega
  · simp
/-- How deep the functions are, if they do not go round. -/
def dpL (s : Scr) (d : Nat → Nat) : List Int := if ordE s = 0 then deepL s d else []
def DpOk (s : Scr) (d : Nat → Nat) : Prop := ordE s = 0 → DeepIs s.funcs.length (gF s) d ∧ ∀ x < s.funcs.length, d x ≤ 1000
theorem dpL_eq {s : Scr} {d d' : Nat → Nat} (h : DpOk s d) (h' : DpOk s d') : dpL s d = dpL s d' := by
  unfold dpL
  by_cases he : ordE s = 0
  · rw [if_pos he, if_pos he]
    have hu := deep_uniq (graph_inn s).1 (h he).1 (h' he).1
    unfold deepL
    apply List.map_congr_left
    intro x hx
    rw [hu x (by simpa using hx)]
  · rw [if_neg he, if_neg he]
theorem dpL_len (s : Scr) (d : Nat → Nat) : (dpL s d).length ≤ 16 := by
  unfold dpL
  split
  · rename_i he
    have hr : s.right = true := by
      cases hr : s.right with
      | true => rfl
      | false => rw [ordE, hr] at he; simp at he
    have := (right_calls hr).1
    simp [deepL]; omega
  · simp
theorem deep_end {s : Scr} {w w' : World} {e : Ending} (h : DeepEnd s w e w') : ∃ la lc d, e = .returned (.tuple #[.slice la (dpL s d).length lc, .int .i64 (ordE s)]) ∧ NsAt w'.cell? la (dpL s d) ∧ DpOk s d ∧ Below w.heap.size w w' := by
  obtain ⟨h1, h2⟩ := h
  by_cases hr : s.right = true
  · rw [if_pos hr] at h2
    by_cases ho : (ordS s.funcs.length (gF s)).isNone = true
    · have he : ordE s = 34 := by rw [ordE, if_pos hr, if_pos ho]
      rw [if_pos ho] at h2
      exact ⟨none, 0, fun _ => 0, by rw [he, dpL, he]; exact h2, by rw [dpL, he]; exact .inl rfl, (fun h => absurd (he.symm.trans h) (by decide)), h1⟩
    · have he : ordE s = 0 := by rw [ordE, if_pos hr, if_neg ho]
      rw [if_neg ho] at h2
      obtain ⟨la, lc, d, e1, e2, e3, e4⟩ := h2
      refine ⟨la, lc, d, ?_, ?_, fun _ => ⟨e3, e4⟩, h1⟩
      · rw [he, dpL, if_pos he, e1]
        simp [deepL]
      · rw [dpL, if_pos he]; exact e2
  · have he : ordE s = 30 := by rw [ordE, if_neg hr]
    rw [if_neg hr] at h2
    exact ⟨none, 0, fun _ => 0, by rw [he, dpL, he]; exact h2, by rw [dpL, he]; exact .inl rfl, (fun h => absurd (he.symm.trans h) (by decide)), h1⟩
set_option maxRecDepth 100000 in
set_option maxHeartbeats 2000000 in
theorem orders8_any (s : Scr) (V0 V1 : Value) (w : World) (hs : ScIs w.cell? s V0 V1) (hsf : s.fits) (hI64 : ∀ f ∈ s.funcs, ∀ x ∈ f.code, -9223372036854775808 ≤ x.2 ∧ x.2 ≤ 9223372036854775807) :
    Calls Try.prog 4 #[.agg #[V0, V1]] w fun e w' => e = .returned (.bool true) ∧ Below w.heap.size w w' := by
  obtain ⟨⟨a0, c0, rfl, n0⟩, ⟨a1, c1, rfl, n1⟩⟩ := hs
  have hs : ScIs w.cell? s (.slice a0 s.consts.length c0) (.slice a1 s.funcs.length c1) := ⟨⟨a0, c0, rfl, n0⟩, ⟨a1, c1, rfl, n1⟩⟩
  have hl := ordL_len s
  have HC : Hid (Calls Try.prog 8 #[.agg #[.slice a0 s.consts.length c0, .slice a1 s.funcs.length c1]] (w.alloc (.cells #[.slice a0 s.consts.length c0, .slice a1 s.funcs.length c1] 25)) fun e w2 => ∃ b0 d0 b1 d1, e = .returned (.agg #[.slice b0 s.consts.length d0, .slice b1 s.funcs.length d1]) ∧
      Hid (Calls Try.prog 18 #[.agg #[.slice b0 s.consts.length d0, .slice b1 s.funcs.length d1]] (w2.alloc (.cells #[.slice b0 s.consts.length d0, .slice b1 s.funcs.length d1] 25)) fun e w3 => ∃ a c, e = .returned (.tuple #[.slice a (ordL s).length c, .int .i64 (ordE s)]) ∧ (w3.cell? ⟨w.heap.size, 0, none⟩ = some (.slice a0 s.consts.length c0) ∧ w3.cell? ⟨w.heap.size, 1, none⟩ = some (.slice a1 s.funcs.length c1)) ∧
        Hid (Calls Try.prog 19 #[.agg #[.slice a0 s.consts.length c0, .slice a1 s.funcs.length c1]] w3 fun e w4 => ∃ b d, e = .returned (.tuple #[.slice b (ordL s).length d, .int .i64 (ordE s)]) ∧ (w4.cell? ⟨w2.heap.size, 0, none⟩ = some (.slice b0 s.consts.length d0) ∧ w4.cell? ⟨w2.heap.size, 1, none⟩ = some (.slice b1 s.funcs.length d1)) ∧
          Hid (Calls Try.prog 20 #[.agg #[.slice b0 s.consts.length d0, .slice b1 s.funcs.length d1]] w4 fun e w5 => ∃ pa pc pl, e = .returned (.tuple #[.slice pa pl pc, .int .i64 (ordE s)]) ∧ (w5.cell? ⟨w.heap.size, 0, none⟩ = some (.slice a0 s.consts.length c0) ∧ w5.cell? ⟨w.heap.size, 1, none⟩ = some (.slice a1 s.funcs.length c1)) ∧
            Hid (Calls Try.prog 21 #[.agg #[.slice a0 s.consts.length c0, .slice a1 s.funcs.length c1]] w5 fun e w6 => ∃ qa qc, e = .returned (.tuple #[.slice qa pl qc, .int .i64 (ordE s)]) ∧
              Hid (Calls Try.prog 13 #[.slice a (ordL s).length c, .slice b (ordL s).length d] w6 fun e w7 => e = .returned (.bool true) ∧
                Hid (Calls Try.prog 13 #[.slice pa pl pc, .slice qa pl qc] w7 fun e w8 => e = .returned (.bool true) ∧ (w8.cell? ⟨w.heap.size, 0, none⟩ = some (.slice a0 s.consts.length c0) ∧ w8.cell? ⟨w.heap.size, 1, none⟩ = some (.slice a1 s.funcs.length c1) ∧ w8.cell? ⟨w2.heap.size, 0, none⟩ = some (.slice b0 s.consts.length d0) ∧ w8.cell? ⟨w2.heap.size, 1, none⟩ = some (.slice b1 s.funcs.length d1)) ∧
                  Hid (Calls Try.prog 16 #[.agg #[.slice b0 s.consts.length d0, .slice b1 s.funcs.length d1], .agg #[.slice a0 s.consts.length c0, .slice a1 s.funcs.length c1]] w8 fun e w9 => e = .returned (.bool true) ∧ Hid (Below w.heap.size w w9))))))))) := hid7 ((clone_box s _ _ w hs hsf).mono fun e w2 ⟨b0, d0, b1, d1, h1, h2⟩ => ⟨b0, d0, b1, d1, h1, hid7 ((order_any s _ _ _ h2.out.c hsf).mono fun e w3 hg3 => by
    obtain ⟨a, c, h3, h4, h5⟩ := ord_end hg3
    have x3 := h2.out.below h5
    refine ⟨a, c, h3, x3.sc, hid7 ((rorder_any s _ _ w3 (hs.keep (below_keep x3.b)) hsf hI64).mono fun e w4 hg4 => ?_)⟩
    obtain ⟨b, d, h6, h7, h8⟩ := ord_end hg4
    have x4 := x3.below h8
    refine ⟨b, d, h6, x4.xc, hid7 ((deep_any s _ _ w4 x4.c hsf).mono fun e w5 hg5 => ?_)⟩
    obtain ⟨pa, pc, d5, h9, h10, h11, h12⟩ := deep_end hg5
    have x5 := x4.below h12
    refine ⟨pa, pc, _, h9, x5.sc, hid7 ((rdeep_any s _ _ w5 (hs.keep (below_keep x5.b)) hsf hI64).mono fun e w6 hg6 => ?_)⟩
    obtain ⟨qa, qc, d6, h13, h14, h15, h16⟩ := deep_end hg6
    have x6 := x5.below h16
    have hdd := dpL_eq h15 h11
    rw [hdd] at h13 h14
    have hdl := dpL_len s d5
    have k46 : Below w4.heap.size w4 w6 := h12.trans (h16.mono h12.size)
    refine ⟨qa, qc, h13, hid7 ((lints_any a b c d _ _ (rowI (ordL s)) (rowI (ordL s)) (by simp [rowI]) (by simp [rowI]) w6 ((h4.keep (below_keep h8)).keep (below_keep k46)) (h7.keep (below_keep k46)) (by omega) (by omega)).mono fun e w7 ⟨h17, k7, e7⟩ => ?_)⟩
    subst e7
    have x7 := x6.below (below_draws2 (Below.refl _ w6) k7)
    have h10' : NsAt w6.cell? pa (dpL s d5) := h10.keep (below_keep h16)
    refine ⟨by rw [h17]; simp, hid7 ((lints_any pa qa pc qc _ _ (dpL s d5) (dpL s d5) rfl rfl (w6.drewN k7) h10' h14 (by omega) (by omega)).mono fun e w8 ⟨h18, k8, e8⟩ => ?_)⟩
    subst e8
    have x8 := x7.below (below_draws2 (Below.refl _ (w6.drewN k7)) k8)
    refine ⟨by rw [h18]; simp, ⟨x8.sc.1, x8.sc.2, x8.xc.1, x8.xc.2⟩, hid7 ((rsame_any s s _ _ _ _ _ x8.c (hs.keep (below_keep x8.b)) hsf hsf).mono fun e w9 ⟨h19, h20⟩ => ⟨by rw [h19]; simp, hid7 (x8.b.trans (h20.mono x8.b.size))⟩)⟩)⟩)
  clear hs n0 n1 hsf hI64 hl
  have hee : (ordE s == ordE s) = true := by simp
  generalize (ordL s).length = rl at HC
  generalize ordE s = er at HC hee
  generalize s.funcs.length = fl at HC ⊢
  generalize s.consts.length = cl at HC ⊢
  go_enter Try.func4, Try.ntmps4
  go_wp2_with (first
    | (go_at_call 8; refine HC.out.mono ?_; clear HC; rintro e w2 ⟨b0, d0, b1, d1, rfl, H2⟩)
    | (go_at_call 18; refine H2.out.mono ?_; clear H2; rintro e w3 ⟨a, c, rfl, ⟨s0, s1⟩, H3⟩)
    | (go_at_call 19; refine H3.out.mono ?_; clear H3; rintro e w4 ⟨b, d, rfl, ⟨x0, x1⟩, H4⟩)
    | (go_at_call 20; refine H4.out.mono ?_; clear H4; rintro e w5 ⟨pa, pc, pl, rfl, ⟨z0, z1⟩, H5⟩)
    | (go_at_call 21; refine H5.out.mono ?_; clear H5; rintro e w6 ⟨qa, qc, rfl, H6⟩)
    | (go_at_call 13; refine H6.out.mono ?_; clear H6; rintro e w7 ⟨rfl, H7⟩)
    | (go_at_call 13; refine H7.out.mono ?_; clear H7; rintro e w8 ⟨rfl, ⟨y0, y1, y2, y3⟩, H8⟩)
    | (go_at_call 16; refine H8.out.mono ?_; clear H8; rintro e w9 ⟨rfl, B9⟩)
    | (go_at_call 12; refine (num8_any _ _).mono ?_; rintro e w10 ⟨rfl, w10e⟩; rw [w10e]; clear w10e)
    | (go_at_call 17; refine (knows8_any _).mono ?_; rintro e w11 ⟨rfl, b11⟩)
    | fail)
  go_ret
  exact ⟨rfl, B9.out.trans (b11.mono B9.out.size)⟩
end Go.Proofs.Ytikomfbpaimnmaa
