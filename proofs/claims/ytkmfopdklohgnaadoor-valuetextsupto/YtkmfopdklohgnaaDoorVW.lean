/- value.readWord, Parse whole. -/
import Derived.Test.YtkmfopdklohgnaaDoorVG
import Derived.Test.YtkmfopdklohgnaaDoorVParse
import Derived.Lib.ItoaLen
namespace Go.Proofs.YtkmfopdklohgnaaDoor
open Go.RowKit Go.Shelf
attribute [local go_sem high] eq_val eq_val0
/-- What readWord reads. -/
def readOf (s : List UInt8) : Option Val := (guessOf s).bind fun x => if printOf [x] = s then some x else none
theorem unhex_length : ∀ (n : Nat) (s t : List UInt8), s.length ≤ n → unhex s = some t → t.length ≤ s.length
  | _, [], t, _, h => by simp [unhex] at h; subst h; simp
  | _, [_], t, _, h => by simp [unhex] at h
  | 0, _ :: _ :: _, _, hn, _ => by simp at hn
  | n + 1, a :: b :: r, t, hn, h => by
    rw [unhex] at h
    split at h
    · cases h
    · simp only [Option.map_eq_some_iff] at h
      obtain ⟨u, hu, rfl⟩ := h
      have := unhex_length n r u (by simp at hn; omega) hu
      simp
      omega
theorem hex_len (s : List UInt8) : (hexWord s).length = 3 + 2 * s.length := by
  unfold hexWord
  simp only [List.length_append, hex_length, List.length_cons, List.length_nil]
  omega
/-- What guess reads is printable. -/
theorem guess_good {s : List UInt8} (hs : s.length ≤ 1048576) {x : Val} (h : guessOf s = some x) : x.b.length ≤ 1048576 ∧ -9223372036854775808 ≤ x.n ∧ x.n ≤ 9223372036854775807 := by
  unfold guessOf at h
  split at h
  · cases h; decide
  split at h
  · cases h; decide
  split at h
  · unfold readB at h
    split at h
    · simp only [Option.map_eq_some_iff] at h
      obtain ⟨u, hu, rfl⟩ := h
      have h1 := unhex_length _ _ _ (Nat.le_refl _) hu
      have h2 : (Lib.trimSuffix (s.drop 2) [39]).length ≤ (s.drop 2).length := by
        unfold Lib.trimSuffix
        split <;> simp
      simp only [List.length_drop] at h2
      exact ⟨by simp only; omega, by simp, by simp⟩
    · cases h
  · split at h
    · rename_i v hv
      cases h
      have := Lib.atoiAll_bounds hv
      exact ⟨by simp, this.1, this.2⟩
    · cases h
theorem itoa_len (n : Int) (h0 : -9223372036854775808 ≤ n) (h1 : n ≤ 9223372036854775807) : (Lib.itoa n).length ≤ 1048576 := Nat.le_trans (Lib.itoa_length_le n h0 h1) (by decide)
theorem word_len (x : Val) (h0 : -9223372036854775808 ≤ x.n) (h1 : x.n ≤ 9223372036854775807) (hb : x.b.length ≤ 1048576) : (wordOf x).length ≤ 2097155 := by
  unfold wordOf
  split
  · have := itoa_len x.n h0 h1; omega
  split
  · rw [hex_len]; omega
  split <;> simp
set_option maxRecDepth 100000 in
set_option maxHeartbeats 1000000 in
theorem readWord_any (s : List UInt8) (hs : s.length ≤ 1048576) (w : World) (hL : Laid w) : Calls Tryd.prog 13 #[.string ⟨s.toArray⟩] w (ReadEnd (readOf s) w) := by
  have hG := fun W hW => guess_any s hs W hW
  have hgood : ∀ x, guessOf s = some x → x.b.length ≤ 1048576 ∧ -9223372036854775808 ≤ x.n ∧ x.n ≤ 9223372036854775807 := fun x h => guess_good hs h
  unfold readOf
  have hL2 : Laid (w.alloc (Val.box ⟨0, 0, []⟩)) := hL.keep ((Below.refl _ w).alloc (Nat.le_refl _) _)
  generalize guessOf s = g at hG hgood ⊢
  cases g with
  | none =>
    simp only [Option.bind_none]
    go_enter Tryd.func13, Tryd.ntmps13
    go_wp2_with (go_at_call 25; refine (hG _ hL2).mono ?_; rintro e w1 ⟨x, rfl, _, hb1⟩; have hB := boxed_new hb1; obtain ⟨⟨c0, c1, c2⟩, hf⟩ := hB.facts; have f0 := hf 0; have f1 := hf 1; have f2 := hf 2; have hlt := (Array.getElem?_eq_some_iff.1 hB).1; simp only [Val.v])
    have hlt' : w.heap.size < w1.heap.size := hlt
    exact ret_read (x := ⟨0, 0, []⟩) rfl rfl rfl rfl ((set_box hB ⟨0, 0, []⟩).keep (keep_alloc _ _)) ⟨rfl, (below_set3 (((Below.refl _ w).alloc (Nat.le_refl _) _).trans (hb1.mono (by simp))) (Nat.le_refl _)).alloc (by simp [World.setCell]; omega) _⟩
  | some x =>
    simp only [Option.bind_some]
    obtain ⟨g0, g1, g2⟩ := hgood x rfl
    have hP : ∀ W a, Laid W → Vs W a [x] → Calls Tryd.prog 7 #[.slice a 1 1] W fun e w' => e = .returned (.string ⟨(printOf [x]).toArray⟩) ∧ Below W.heap.size W w' := fun W a hW hV => print_any a 1 1 [x] rfl W hW.pow hV (fun y hy => by simp at hy; subst hy; exact ⟨g0, g1, g2⟩) (by decide) (by
      have := word_len x g1 g2 g0
      simp [printList, Lib.join]
      omega)
    generalize hp : printOf [x] = p at hP
    rcases (show (p = s ∧ (p == s) = true) ∨ (¬ p = s ∧ (p == s) = false) by by_cases h : p = s <;> simp [h]) with ⟨hps, hq⟩ | ⟨hps, hq⟩
    all_goals
      go_enter Tryd.func13, Tryd.ntmps13
      go_wp2_with (first | (go_at_call 25; refine (hG _ hL2).mono ?_; rintro e w1 ⟨y, rfl, hy, hb1⟩; obtain rfl := hy x rfl; have hB := boxed_new hb1; have hlt := (Array.getElem?_eq_some_iff.1 hB).1; simp only [Val.v]) | (go_at_call 7; have hb11 := (((Below.refl w1.heap.size w1).alloc (Nat.le_refl _) (Val.box y)).alloc (by simp) (Val.box y)); refine (hP _ _ ((hL2.keep hb1).keep hb11) (vsOne (w1.alloc (Val.box y)) y (w1.heap.size + 1) (by simp))).mono ?_; rintro e w2 ⟨rfl, hb2⟩; have hb12 := hb11.trans (hb2.mono (by simp; omega)); have hB2 : Boxed3 w2 w.heap.size := (hb12.block _ hlt).trans hB; obtain ⟨⟨c0, c1, c2⟩, hf⟩ := hB2.facts; have f0 := hf 0; have f1 := hf 1; have f2 := hf 2; have hv2 : ValAt w2 w1.heap.size y := ((val_new w1 y).keep (keep_alloc _ _)).keep (fun _ _ h => cell_below h hb2); obtain ⟨v0, v1, v2⟩ := hv2; have hlt2 : w1.heap.size < w2.heap.size := World.block_lt_of_cell? _ _ v0))
    all_goals have hbw : Below w.heap.size w w2 := ((Below.refl _ w).alloc (Nat.le_refl _) _).trans ((hb1.mono (by simp)).trans (hb12.mono (Nat.le_of_lt hlt)))
    · exact ret_read (x := y) rfl rfl rfl rfl (set_box hB2 y) ⟨rfl, below_set3 hbw (Nat.le_refl _)⟩
    · exact ret_read (x := ⟨0, 0, []⟩) rfl rfl rfl rfl (set_box hB2 ⟨0, 0, []⟩) ⟨rfl, below_set3 hbw (Nat.le_refl _)⟩
end Go.Proofs.YtkmfopdklohgnaaDoor
