/- Layer 17: the law MessageFolds. -/
import Derived.Test.YtmaecpmdikdclaaMV
import Derived.Test.YtmaecpmdikdclaaMS
import Derived.Test.YtmaecpmdikdclaaLBg17
namespace Go.Proofs.Ytmaecpmdikdclaa
open Go.RowKit
/-- What Fold answers. -/
def fS (R : List Rec17) : St17 × Bool := match foldS zeroS R with | none => (zeroS, false) | some s => (s, true)
theorem fS_none {R : List Rec17} (h : foldS zeroS R = none) : fS R = (zeroS, false) := by unfold fS; rw [h]
theorem fS_some {R : List Rec17} {s : St17} (h : foldS zeroS R = some s) : fS R = (s, true) := by unfold fS; rw [h]
def FUni (s : St17 × Bool) (w : World) (e : Ending) (w' : World) : Prop := (∃ a c, e = .returned (.tuple #[.agg #[.int .i64 s.1.vw, .int .i64 s.1.nm, .int .i64 s.1.cm, .slice a s.1.log.length c], .bool s.2]) ∧ EsAt w'.cell? a s.1.log) ∧ Below w.heap.size w w'
theorem FoldEnd.uni {R : List Rec17} {w : World} {e : Ending} {w' : World} (h : FoldEnd R w e w') : FUni (fS R) w e w' := by
  obtain ⟨hb, ⟨h0, rfl⟩ | ⟨s, a, c, h0, rfl, hr⟩⟩ := h
  · rw [fS_none h0]; exact ⟨⟨none, 0, rfl, .inl rfl⟩, hb⟩
  · rw [fS_some h0]
    obtain ⟨_, _, _, ev, hE⟩ := es_of_row hr
    injection ev with e1 e2 e3
    subst e1 e3
    exact ⟨⟨_, _, rfl, hE⟩, hb⟩
theorem FoldEndD.uni {R : List Rec17} {w : World} {e : Ending} {w' : World} (h : FoldEndD R w e w') : FUni (fS R) w e w' := by
  obtain ⟨hb, ⟨h0, rfl⟩ | ⟨s, a, c, h0, rfl, hr⟩⟩ := h
  · rw [fS_none h0]; exact ⟨⟨none, 0, rfl, .inl rfl⟩, hb⟩
  · rw [fS_some h0]
    obtain ⟨_, _, _, ev, hE⟩ := es_of_row hr
    injection ev with e1 e2 e3
    subst e1 e3
    exact ⟨⟨_, _, rfl, hE⟩, hb⟩
theorem fS_len (R : List Rec17) : (fS R).1.log.length ≤ 2048 := by
  cases h : foldS zeroS R with
  | none => rw [fS_none h]; decide
  | some s =>
    rw [fS_some h]
    have key : ∀ (R : List Rec17) {s t : St17}, foldS s R = some t → s.log.length ≤ 2048 → t.log.length ≤ 2048 := by
      intro R
      induction R with
      | nil => intro s t h hs; injection h with h; subst h; exact hs
      | cons r R ih =>
        intro s t h hs
        rw [foldS_cons] at h
        cases hf : fol s r with
        | none => rw [hf] at h; cases h
        | some u => rw [hf] at h; exact ih (show foldS u R = some t from h) (fol_len hf hs)
    exact key R h (by decide)
set_option maxRecDepth 100000 in
set_option maxHeartbeats 2000000 in
theorem folds17_any (a : Option Addr) (n c : Nat) (R : List Rec17) (w : World) (hn : R.length = n) (hN : RsAt17 w.cell? a R) (hf : Fair R) : Calls Try.prog 5 #[.slice a n c] w fun e w' => e = .returned (.bool true) ∧ Below w.heap.size w w' := by
  have hF1 := foldrec_any a n c R w hn hN hf w (Below.refl _ _)
  have hF2 : ∀ W, Below w.heap.size w W → Calls Try.prog 31 #[.slice a n c] W (FUni (fS R) W) := fun W hW => (rfold_any17 a n c R W hn (hN.keep (below_keep hW)) (by have := hf.1; omega)).mono fun e w' h => h.uni
  have hKn := knows17_any
  have hU : ∀ W e w', FoldEnd R W e w' → FUni (fS R) W e w' := fun W e w' h => h.uni
  have hlen := fS_len R
  have hLg : ∀ W ta tc, EsAt W.cell? ta (fS R).1.log → Calls Try.prog 33 #[.slice ta (fS R).1.log.length tc] W fun e w' => (∃ va vc, e = .returned (.slice va (fS R).1.log.length vc) ∧ EsAt w'.cell? va (fS R).1.log) ∧ Below W.heap.size W w' := fun W ta tc hE => by
    refine (logS_any ta _ tc (fS R).1.log W rfl hE (by omega)).mono ?_
    rintro e w' ⟨v, rfl, hL, hb⟩
    obtain ⟨va, vc, rfl, hE⟩ := hL.form
    exact ⟨⟨va, vc, rfl, hE⟩, hb⟩
  have hSm : ∀ W ua uc va vc, EsAt W.cell? ua (fS R).1.log → EsAt W.cell? va (fS R).1.log → Calls Try.prog 32 #[.slice ua (fS R).1.log.length uc, .slice va (fS R).1.log.length vc] W fun e w' => e = .returned (.bool true) ∧ Below W.heap.size W w' := fun W ua uc va vc h1 h2 => by
    refine (sameLog_any ua _ uc (fS R).1.log va _ vc (fS R).1.log W rfl rfl h1 h2 (by omega) (by omega)).mono ?_
    rintro e w' ⟨rfl, q, rfl⟩
    exact ⟨by rw [decide_eq_true rfl], below_dN (Below.refl _ _) q⟩
  unfold FUni at hF2 hU
  generalize fS R = fs at *
  obtain ⟨⟨vw, nm, cm, L⟩, ok⟩ := fs
  simp only at *
  generalize L.length = ll at *
  clear hN hf hn hlen
  go_enter Try.func5, Try.ntmps5
  go_wp2_with (go_at_call 30; refine hF1.mono ?_; clear hF1; rintro e w2 ⟨va, vc, rfl, hb2, hF⟩)
  refine hF.mono ?_
  clear hF
  rintro e w3 hX
  obtain ⟨⟨sa, sc, rfl, hE3⟩, hb3'⟩ := hU _ _ _ hX
  clear hX hU
  have hb3 := hb2.trans (hb3'.mono hb2.size)
  obtain ⟨W4, hW4⟩ : ∃ W, W = w3.alloc (.cells #[.int .i64 vw, .int .i64 nm, .int .i64 cm, .slice sa ll sc] 64) := ⟨_, rfl⟩
  have hb34 : Below w3.heap.size w3 W4 := by rw [hW4]; exact (Below.refl _ _).alloc (Nat.le_refl _) _
  have hb4 := hb3.trans (hb34.mono hb3.size)
  obtain ⟨X, hX⟩ : ∃ z, z = w3.heap.size := ⟨_, rfl⟩
  have bX4 : W4.heap[X]? = some (.cells #[.int .i64 vw, .int .i64 nm, .int .i64 cm, .slice sa ll sc] 64 (0, 0)) := by rw [hW4, hX]; exact heap_alloc_new w3 _
  have hE4 := hE3.keep (below_keep hb34)
  have hF3 := hF2 W4 hb4
  clear hF2 hE3 hb3'
  go_wp2_with fail
  rw [← hW4, ← hX]
  clear hW4 hX
  refine hF3.mono ?_
  clear hF3
  rintro e w5 ⟨⟨ta, tc, rfl, hE5⟩, hb5'⟩
  have hb5 := hb4.trans (hb5'.mono hb4.size)
  obtain ⟨W6, hW6⟩ : ∃ W, W = w5.alloc (.cells #[.int .i64 vw, .int .i64 nm, .int .i64 cm, .slice ta ll tc] 70) := ⟨_, rfl⟩
  have hb56 : Below w5.heap.size w5 W6 := by rw [hW6]; exact (Below.refl _ _).alloc (Nat.le_refl _) _
  have hb6 := hb5.trans (hb56.mono hb5.size)
  obtain ⟨Y, hY⟩ : ∃ z, z = w5.heap.size := ⟨_, rfl⟩
  have bY6 : W6.heap[Y]? = some (.cells #[.int .i64 vw, .int .i64 nm, .int .i64 cm, .slice ta ll tc] 70 (0, 0)) := by rw [hW6, hY]; exact heap_alloc_new w5 _
  have hb46 : Below W4.heap.size W4 W6 := hb5'.trans (hb56.mono hb5'.size)
  have bX6 := (hb46.block _ (lt_of_block bX4)).trans bX4
  have hEx : ∀ W, Below W6.heap.size W6 W → EsAt W.cell? sa L ∧ EsAt W.cell? ta L := fun W h => ⟨hE4.keep (below_keep (hb46.trans (h.mono hb46.size))), hE5.keep (below_keep (hb56.trans (h.mono hb56.size)))⟩
  have hSk : ∀ W, Below W6.heap.size W6 W → ((W.cell? ⟨X, 0, none⟩ = some (.int .i64 vw) ∧ W.cell? ⟨X, 1, none⟩ = some (.int .i64 nm) ∧ W.cell? ⟨X, 2, none⟩ = some (.int .i64 cm) ∧ W.cell? ⟨X, 3, none⟩ = some (.slice sa ll sc)) ∧ X < W.heap.size) ∧ ((W.cell? ⟨Y, 0, none⟩ = some (.int .i64 vw) ∧ W.cell? ⟨Y, 1, none⟩ = some (.int .i64 nm) ∧ W.cell? ⟨Y, 2, none⟩ = some (.int .i64 cm) ∧ W.cell? ⟨Y, 3, none⟩ = some (.slice ta ll tc)) ∧ Y < W.heap.size) := fun W h => by
    have e1 := (h.block _ (lt_of_block bX6)).trans bX6
    have e2 := (h.block _ (lt_of_block bY6)).trans bY6
    refine ⟨⟨⟨?_, ?_, ?_, ?_⟩, lt_of_block e1⟩, ⟨?_, ?_, ?_, ?_⟩, lt_of_block e2⟩ <;> first | (rw [Lib.cell_of_heap e1]; rfl) | (rw [Lib.cell_of_heap e2]; rfl)
  have h0 : Below W6.heap.size W6 W6 := Below.refl _ _
  have h1 : Below W6.heap.size W6 W6.drew := (Below.refl _ _).drew
  have hL1 := hLg W6.drew ta tc (hEx _ h1).2
  clear hLg hE4 hE5 bX4 bX6 bY6 hb46 hb56 hb5'
  go_upto_region 3 with fail
  rw [← hW6, ← hY]
  clear hW6 hY
  cases ok <;> (
    go_region_held3 (fun W => ((W.cell? ⟨X, 0, none⟩ = some (.int .i64 vw) ∧ W.cell? ⟨X, 1, none⟩ = some (.int .i64 nm) ∧ W.cell? ⟨X, 2, none⟩ = some (.int .i64 cm) ∧ W.cell? ⟨X, 3, none⟩ = some (.slice sa ll sc)) ∧ X < W.heap.size) ∧ ((W.cell? ⟨Y, 0, none⟩ = some (.int .i64 vw) ∧ W.cell? ⟨Y, 1, none⟩ = some (.int .i64 nm) ∧ W.cell? ⟨Y, 2, none⟩ = some (.int .i64 cm) ∧ W.cell? ⟨Y, 3, none⟩ = some (.slice ta ll tc)) ∧ Y < W.heap.size)) (first | go_keep | exact hSk _ h9 | exact hSk _ h8 | exact hSk _ h7 | exact hSk _ h1 | exact hSk _ h0) (first
      | (go_at_call 33; refine hL1.mono ?_; clear hL1; rintro e w7 ⟨⟨va7, vc7, rfl, hV7⟩, h7'⟩; have h7 := h1.trans (h7'.mono h1.size); clear h7'; have hS7 := hSm w7 sa sc va7 vc7 (hEx _ h7).1 hV7; clear hSm hEx hV7)
      | (go_at_call 32; refine hS7.mono ?_; clear hS7; rintro e w8 ⟨rfl, h8'⟩; have h8 := h7.trans (h8'.mono h7.size); clear h8')
      | (go_at_call 20; refine (hKn _).mono ?_; clear hKn; rintro e w9 ⟨rfl, h9'⟩; have h9 := h8.trans (h9'.mono h8.size); clear h9'))
    all_goals
      go_wp2_with fail
      go_ret
      exact ⟨rfl, hb6.trans (h9.mono hb6.size)⟩)
end Go.Proofs.Ytmaecpmdikdclaa
