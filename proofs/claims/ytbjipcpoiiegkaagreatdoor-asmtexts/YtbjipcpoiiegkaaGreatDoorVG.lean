/- value.guess. value.readWord, Parse whole. Layer 2's check 'knows'. -/
import Derived.Test.YtbjipcpoiiegkaaGreatDoorBA
import Derived.Test.YtbjipcpoiiegkaaGreatDoorPA
import Derived.Test.YtbjipcpoiiegkaaGreatDoorVA
import Derived.Test.YtbjipcpoiiegkaaGreatDoorAY
import Derived.Lib.AtoiAllCases
import Derived.Test.YtbjipcpoiiegkaaGreatDoorVParse
import Derived.Lib.ItoaLen
namespace Go.Proofs.YtbjipcpoiiegkaaGreatDoor
open Go.RowKit Go.Shelf
attribute [local go_sem high] eq_val eq_val0
def wTrue : List UInt8 := [116, 114, 117, 101]
def wFalse : List UInt8 := [102, 97, 108, 115, 101]
/-- What guess reads. -/
def guessOf (s : List UInt8) : Option Val :=
  if s = wTrue then some (Val.truth true) else if s = wFalse then some (Val.truth false) else if Lib.hasPrefix s [120, 39] then readB (s.drop 2) else match Lib.atoiAll s with
    | .ok v => some ⟨1, v, []⟩
    | _ => none
/-- How guess ends: with the value, or with any and false. -/
def GuessEnd (r : Option Val) (w : World) (e : Ending) (w' : World) : Prop := ∃ x : Val, e = .returned (.tuple #[x.v, .bool r.isSome]) ∧ (∀ y, r = some y → x = y) ∧ Below w.heap.size w w'
theorem Boxed3.facts {w : World} {b : Nat} (h : Boxed3 w b) : (w.cell? ⟨b, 0, none⟩ = some (.int .i64 0) ∧ w.cell? ⟨b, 1, none⟩ = some (.int .i64 0) ∧ w.cell? ⟨b, 2, none⟩ = some (.string ⟨#[]⟩)) ∧ ∀ j, w.frozen? ⟨b, j, none⟩ = false :=
  ⟨⟨by rw [Lib.cell_of_heap h]; rfl, by rw [Lib.cell_of_heap h]; rfl, by rw [Lib.cell_of_heap h]; rfl⟩, fun j => Lib.frozen_of_heap h j⟩
theorem boxed_new {w w1 : World} (h : Below (w.alloc (Val.box ⟨0, 0, []⟩)).heap.size (w.alloc (Val.box ⟨0, 0, []⟩)) w1) : Boxed3 w1 w.heap.size := (h.block _ (by simp)).trans (World.alloc_heap_new w _)
theorem below_set3 {n b : Nat} {w W : World} {u v x : Value} (h : Below n w W) (hb : n ≤ b) : Below n w (((W.setCell ⟨b, 0, none⟩ u).setCell ⟨b, 1, none⟩ v).setCell ⟨b, 2, none⟩ x) :=
  ((h.setCell (p := ⟨b, 0, none⟩) hb _).setCell (p := ⟨b, 1, none⟩) hb _).setCell (p := ⟨b, 2, none⟩) hb _
set_option maxRecDepth 100000 in
set_option maxHeartbeats 1000000 in
theorem guess_any (s : List UInt8) (hs : s.length ≤ 1048576) (w : World) (hL : Laid w) : Calls Tryz.prog 92 #[.string ⟨s.toArray⟩] w (GuessEnd (guessOf s) w) := by
  unfold guessOf
  by_cases h1 : s = wTrue
  · rw [if_pos h1]
    have q1 : (s == [116, 114, 117, 101]) = true := by simp [h1, wTrue]
    go_enter Tryz.func92, Tryz.ntmps92
    go_wp2_with (go_at_call 79; refine (truth_any' true _).mono ?_; rintro e w' ⟨rfl, rfl⟩; simp only [Val.box, Val.v, Val.truth])
    refine ret_read (x := Val.truth true) rfl rfl rfl rfl (((val_new w (Val.truth true)).keep (keep_alloc _ _)).keep (keep_alloc _ _)) ⟨_, rfl, fun y hy => by cases hy; rfl, ?_⟩
    exact (((Below.refl _ w).alloc (Nat.le_refl _) _).alloc (by simp) _).alloc (by simp; omega) _
  rw [if_neg h1]
  have q1 : (s == [116, 114, 117, 101]) = false := by simpa [wTrue] using h1
  by_cases h2 : s = wFalse
  · rw [if_pos h2]
    have q2 : (s == [102, 97, 108, 115, 101]) = true := by simp [h2, wFalse]
    go_enter Tryz.func92, Tryz.ntmps92
    go_wp2_with (go_at_call 79; refine (truth_any' false _).mono ?_; rintro e w' ⟨rfl, rfl⟩; simp only [Val.box, Val.v, Val.truth])
    refine ret_read (x := Val.truth false) rfl rfl rfl rfl (((val_new w (Val.truth false)).keep (keep_alloc _ _)).keep (keep_alloc _ _)) ⟨_, rfl, fun y hy => by cases hy; rfl, ?_⟩
    exact (((Below.refl _ w).alloc (Nat.le_refl _) _).alloc (by simp) _).alloc (by simp; omega) _
  rw [if_neg h2]
  have q2 : (s == [102, 97, 108, 115, 101]) = false := by simpa [wFalse] using h2
  have hP : ∀ W, Calls Tryz.prog 101 #[.string ⟨s.toArray⟩, .string ⟨#[120, 39]⟩] W fun e w' => e = .returned (.bool (Lib.hasPrefix s [120, 39])) ∧ w' = W := fun W => Tryz.strings_HasPrefix ⟨s.toArray⟩ ⟨#[120, 39]⟩ W
  clear h1 h2
  cases h3 : Lib.hasPrefix s [120, 39] with
  | true =>
    rw [h3] at hP
    simp only [if_true]
    have hlen : 2 ≤ s.length := by
      have := Lib.hasPrefix_of_take s [120, 39]
      rw [h3] at this
      simp at this
      omega
    have hR := fun W => readBytes_any (s.drop 2) (by simp; omega) W
    generalize readB (s.drop 2) = r at hR ⊢
    have hcut : (⟨s.toArray⟩ : ByteArray).extract 2 s.length = ⟨(s.drop 2).toArray⟩ := cut_back s 2
    go_enter Tryz.func92, Tryz.ntmps92
    generalize hx : r.getD ⟨0, 0, []⟩ = x at hR
    go_wp2_with (first | (go_at_call 101; refine (hP _).mono ?_; rintro e w' ⟨rfl, rfl⟩) | (go_at_call 102; refine (hR _).mono ?_; rintro e w1 ⟨rfl, hb1⟩; have hB := boxed_new hb1; obtain ⟨⟨c0, c1, c2⟩, hf⟩ := hB.facts; have f0 := hf 0; have f1 := hf 1; have f2 := hf 2; simp only [Val.v]))
    refine ret_read rfl rfl rfl rfl (set_box hB x) ⟨x, rfl, fun y hy => by rw [hy] at hx; exact hx.symm, ?_⟩
    exact below_set3 (((Below.refl _ w).alloc (Nat.le_refl _) _).trans (hb1.mono (by simp))) (Nat.le_refl _)
  | false =>
    rw [h3] at hP
    simp only [Bool.false_eq_true, if_false]
    obtain ⟨tp1, p1, hv1⟩ := hL.syn
    obtain ⟨tp2, p2, hv2⟩ := hL.ran
    have hA : ∀ W, Laid W → Calls Tryz.prog 103 #[.string ⟨s.toArray⟩] W fun e w' => ∃ (n : Int) (ev : Value), e = .returned (.tuple #[.int .i64 n, ev]) ∧ (∀ v, Lib.atoiAll s = .ok v → n = v ∧ ev = .nilIface) ∧ ((∀ v, Lib.atoiAll s ≠ .ok v) → ∃ t p, ev = .iface t p) ∧ Below W.heap.size W w' := by
      intro W hW
      cases hat : Lib.atoiAll s with
      | ok v =>
        refine (Tryz.strconv_Atoi_ok ⟨s.toArray⟩ (by show s.toArray.size ≤ _; simp; omega) v hat W).mono ?_
        rintro e w' ⟨rfl, hw⟩
        refine ⟨v, .nilIface, rfl, fun u hu => by cases hu; exact ⟨rfl, rfl⟩, fun h => absurd rfl (h v), ?_⟩
        rcases hw with rfl | ⟨t, rfl⟩
        · exact Below.refl _ _
        · exact Lib.bytesWorld_below _ _ _
      | «syntax» =>
        obtain ⟨tp, p, hv⟩ := hW.syn
        refine (Tryz.strconv_Atoi_syntax_var ⟨s.toArray⟩ (by show s.toArray.size ≤ _; simp; omega) hat tp p W hv).mono ?_
        rintro e w' ⟨N, rfl, _, _, hb⟩
        exact ⟨_, _, rfl, fun u hu => by (cases hu), fun _ => ⟨_, _, rfl⟩, hb⟩
      | range =>
        obtain ⟨tp, p, hv⟩ := hW.ran
        refine (Tryz.strconv_Atoi_range_var ⟨s.toArray⟩ (by show s.toArray.size ≤ _; simp; omega) hat tp p W hv).mono ?_
        rintro e w' ⟨N, rfl, _, _, hb⟩
        exact ⟨_, _, rfl, fun u hu => by (cases hu), fun _ => ⟨_, _, rfl⟩, hb⟩
    have hL2 : Laid (w.alloc (Val.box ⟨0, 0, []⟩)) := hL.keep ((Below.refl _ w).alloc (Nat.le_refl _) _)
    have fin : ∀ (n : Int) (w1 : World), Below (w.alloc (Val.box ⟨0, 0, []⟩)).heap.size (w.alloc (Val.box ⟨0, 0, []⟩)) w1 → ∀ u v x, Below w.heap.size w ((((w1.setCell ⟨w.heap.size, 0, none⟩ u).setCell ⟨w.heap.size, 1, none⟩ v).setCell ⟨w.heap.size, 2, none⟩ x).alloc (Val.box ⟨1, n, []⟩)) := fun n w1 hb1 u v x => by
      have h := hb1.size
      simp at h
      exact (below_set3 (((Below.refl _ w).alloc (Nat.le_refl _) _).trans (hb1.mono (by simp))) (Nat.le_refl _)).alloc (by simp [World.setCell]; omega) _
    by_cases hex : ∃ v, Lib.atoiAll s = .ok v
    · obtain ⟨v, hv⟩ := hex
      rw [hv]
      have hA' : ∀ W, Laid W → Calls Tryz.prog 103 #[.string ⟨s.toArray⟩] W fun e w' => e = .returned (.tuple #[.int .i64 v, .nilIface]) ∧ Below W.heap.size W w' := fun W hW => (hA W hW).mono fun e w' ⟨n, ev, he, hok, _, hb⟩ => ⟨by rw [he, (hok v hv).1, (hok v hv).2], hb⟩
      clear hv1 hv2 hA
      go_enter Tryz.func92, Tryz.ntmps92
      go_wp2_with (first | (go_at_call 101; refine (hP _).mono ?_; rintro e w' ⟨rfl, rfl⟩) | (go_at_call 103; refine (hA' _ hL2).mono ?_; rintro e w1 ⟨rfl, hb1⟩; have hB := boxed_new hb1; obtain ⟨⟨c0, c1, c2⟩, hf⟩ := hB.facts; have f0 := hf 0; have f1 := hf 1; have f2 := hf 2; have hlt := (Array.getElem?_eq_some_iff.1 hB).1))
      go_region_with (first | (go_at_call 34; refine (number_any' _ _).mono ?_; rintro e w' ⟨rfl, rfl⟩; simp only [Val.box, Val.v]))
      all_goals go_wp2
      all_goals exact ret_read (x := ⟨1, v, []⟩) rfl rfl rfl rfl ((set_box hB ⟨1, v, []⟩).keep (keep_alloc _ _)) ⟨_, rfl, fun y hy => by cases hy; rfl, (fin v w1 hb1 _ _ _).drew⟩
    · have hA' : ∀ W, Laid W → Calls Tryz.prog 103 #[.string ⟨s.toArray⟩] W fun e w' => ∃ n t p, e = .returned (.tuple #[.int .i64 n, .iface t p]) ∧ Below W.heap.size W w' := fun W hW => (hA W hW).mono fun e w' ⟨n, ev, he, _, hbad, hb⟩ => by
        obtain ⟨t, p, rfl⟩ := hbad fun v hv => hex ⟨v, hv⟩
        exact ⟨n, t, p, he, hb⟩
      have hr : (match Lib.atoiAll s with | .ok v => some (Val.mk 1 v []) | _ => none) = none := by
        split
        · rename_i v hv
          exact absurd ⟨v, hv⟩ hex
        · rfl
      rw [hr]
      clear hv1 hv2 hA
      go_enter Tryz.func92, Tryz.ntmps92
      go_wp2_with (first | (go_at_call 101; refine (hP _).mono ?_; rintro e w' ⟨rfl, rfl⟩) | (go_at_call 103; refine (hA' _ hL2).mono ?_; rintro e w1 ⟨n, t, p, rfl, hb1⟩; have hB := boxed_new hb1; obtain ⟨⟨c0, c1, c2⟩, hf⟩ := hB.facts; have f0 := hf 0; have f1 := hf 1; have f2 := hf 2; have hlt := (Array.getElem?_eq_some_iff.1 hB).1))
      go_region_with (first | (go_at_call 34; refine (number_any' _ _).mono ?_; rintro e w' ⟨rfl, rfl⟩; simp only [Val.box, Val.v]))
      all_goals go_wp2
      all_goals exact ret_read (x := ⟨1, n, []⟩) rfl rfl rfl rfl ((set_box hB ⟨1, n, []⟩).keep (keep_alloc _ _)) ⟨_, rfl, (fun y hy => by cases hy), (fin n w1 hb1 _ _ _).drew⟩
end Go.Proofs.YtbjipcpoiiegkaaGreatDoor
namespace Go.Proofs.YtbjipcpoiiegkaaGreatDoor
open Go.RowKit Go.Shelf
attribute [local go_sem high] eq_val eq_val0
/-- What readWord reads. -/
def readOf (s : List UInt8) : Option Val := (guessOf s).bind fun x => if printOf [x] = s then some x else none
theorem unhex_length : ∀ (n : Nat) (s t : List UInt8), s.length ≤ n → unhex s = some t → t.length ≤ s.length
  | _, [], t, _, h => by simp [unhex] at h; subst h; simp
  | _, [_], t, _, h => by simp [unhex] at h
  | 0, _ :: _ :: _, _, hn, _ => by simp at hn
  | n + 1, a :: b :: r, t, hn, h => by
    rw [unhex] at h
    split at h
    · cases h
    · simp only [Option.map_eq_some_iff] at h
      obtain ⟨u, hu, rfl⟩ := h
      have := unhex_length n r u (by simp at hn; omega) hu
      simp
      omega
theorem hex_len (s : List UInt8) : (hexWord s).length = 3 + 2 * s.length := by
  unfold hexWord
  simp only [List.length_append, hex_length, List.length_cons, List.length_nil]
  omega
/-- What guess reads is printable. -/
theorem guess_good {s : List UInt8} (hs : s.length ≤ 1048576) {x : Val} (h : guessOf s = some x) : x.b.length ≤ 1048576 ∧ -9223372036854775808 ≤ x.n ∧ x.n ≤ 9223372036854775807 := by
  unfold guessOf at h
  split at h
  · cases h; decide
  split at h
  · cases h; decide
  split at h
  · unfold readB at h
    split at h
    · simp only [Option.map_eq_some_iff] at h
      obtain ⟨u, hu, rfl⟩ := h
      have h1 := unhex_length _ _ _ (Nat.le_refl _) hu
      have h2 : (Lib.trimSuffix (s.drop 2) [39]).length ≤ (s.drop 2).length := by
        unfold Lib.trimSuffix
        split <;> simp
      simp only [List.length_drop] at h2
      exact ⟨by simp only; omega, by simp, by simp⟩
    · cases h
  · split at h
    · rename_i v hv
      cases h
      have := Lib.atoiAll_bounds hv
      exact ⟨by simp, this.1, this.2⟩
    · cases h
theorem itoa_len (n : Int) (h0 : -9223372036854775808 ≤ n) (h1 : n ≤ 9223372036854775807) : (Lib.itoa n).length ≤ 1048576 := Nat.le_trans (Lib.itoa_length_le n h0 h1) (by decide)
theorem word_len (x : Val) (h0 : -9223372036854775808 ≤ x.n) (h1 : x.n ≤ 9223372036854775807) (hb : x.b.length ≤ 1048576) : (wordOf x).length ≤ 2097155 := by
  unfold wordOf
  split
  · have := itoa_len x.n h0 h1; omega
  split
  · rw [hex_len]; omega
  split <;> simp
set_option maxRecDepth 100000 in
set_option maxHeartbeats 1000000 in
theorem readWord_any (s : List UInt8) (hs : s.length ≤ 1048576) (w : World) (hL : Laid w) : Calls Tryz.prog 74 #[.string ⟨s.toArray⟩] w (ReadEnd (readOf s) w) := by
  have hG := fun W hW => guess_any s hs W hW
  have hgood : ∀ x, guessOf s = some x → x.b.length ≤ 1048576 ∧ -9223372036854775808 ≤ x.n ∧ x.n ≤ 9223372036854775807 := fun x h => guess_good hs h
  unfold readOf
  have hL2 : Laid (w.alloc (Val.box ⟨0, 0, []⟩)) := hL.keep ((Below.refl _ w).alloc (Nat.le_refl _) _)
  generalize guessOf s = g at hG hgood ⊢
  cases g with
  | none =>
    simp only [Option.bind_none]
    go_enter Tryz.func74, Tryz.ntmps74
    go_wp2_with (go_at_call 92; refine (hG _ hL2).mono ?_; rintro e w1 ⟨x, rfl, _, hb1⟩; have hB := boxed_new hb1; obtain ⟨⟨c0, c1, c2⟩, hf⟩ := hB.facts; have f0 := hf 0; have f1 := hf 1; have f2 := hf 2; have hlt := (Array.getElem?_eq_some_iff.1 hB).1; simp only [Val.v])
    have hlt' : w.heap.size < w1.heap.size := hlt
    exact ret_read (x := ⟨0, 0, []⟩) rfl rfl rfl rfl ((set_box hB ⟨0, 0, []⟩).keep (keep_alloc _ _)) ⟨rfl, (below_set3 (((Below.refl _ w).alloc (Nat.le_refl _) _).trans (hb1.mono (by simp))) (Nat.le_refl _)).alloc (by simp [World.setCell]; omega) _⟩
  | some x =>
    simp only [Option.bind_some]
    obtain ⟨g0, g1, g2⟩ := hgood x rfl
    have hP : ∀ W a, Laid W → Vs W a [x] → Calls Tryz.prog 33 #[.slice a 1 1] W fun e w' => e = .returned (.string ⟨(printOf [x]).toArray⟩) ∧ Below W.heap.size W w' := fun W a hW hV => print_any a 1 1 [x] rfl W hW.pow hV (fun y hy => by simp at hy; subst hy; exact ⟨g0, g1, g2⟩) (by decide) (by
      have := word_len x g1 g2 g0
      simp [printList, Lib.join]
      omega)
    generalize hp : printOf [x] = p at hP
    rcases (show (p = s ∧ (p == s) = true) ∨ (¬ p = s ∧ (p == s) = false) by by_cases h : p = s <;> simp [h]) with ⟨hps, hq⟩ | ⟨hps, hq⟩
    all_goals
      go_enter Tryz.func74, Tryz.ntmps74
      go_wp2_with (first | (go_at_call 92; refine (hG _ hL2).mono ?_; rintro e w1 ⟨y, rfl, hy, hb1⟩; obtain rfl := hy x rfl; have hB := boxed_new hb1; have hlt := (Array.getElem?_eq_some_iff.1 hB).1; simp only [Val.v]) | (go_at_call 33; have hb11 := (((Below.refl w1.heap.size w1).alloc (Nat.le_refl _) (Val.box y)).alloc (by simp) (Val.box y)); refine (hP _ _ ((hL2.keep hb1).keep hb11) (vsOne (w1.alloc (Val.box y)) y (w1.heap.size + 1) (by simp))).mono ?_; rintro e w2 ⟨rfl, hb2⟩; have hb12 := hb11.trans (hb2.mono (by simp; omega)); have hB2 : Boxed3 w2 w.heap.size := (hb12.block _ hlt).trans hB; obtain ⟨⟨c0, c1, c2⟩, hf⟩ := hB2.facts; have f0 := hf 0; have f1 := hf 1; have f2 := hf 2; have hv2 : ValAt w2 w1.heap.size y := ((val_new w1 y).keep (keep_alloc _ _)).keep (fun _ _ h => cell_below h hb2); obtain ⟨v0, v1, v2⟩ := hv2; have hlt2 : w1.heap.size < w2.heap.size := World.block_lt_of_cell? _ _ v0))
    all_goals have hbw : Below w.heap.size w w2 := ((Below.refl _ w).alloc (Nat.le_refl _) _).trans ((hb1.mono (by simp)).trans (hb12.mono (Nat.le_of_lt hlt)))
    · exact ret_read (x := y) rfl rfl rfl rfl (set_box hB2 y) ⟨rfl, below_set3 hbw (Nat.le_refl _)⟩
    · exact ret_read (x := ⟨0, 0, []⟩) rfl rfl rfl rfl (set_box hB2 ⟨0, 0, []⟩) ⟨rfl, below_set3 hbw (Nat.le_refl _)⟩
end Go.Proofs.YtbjipcpoiiegkaaGreatDoor
namespace Go.Proofs.YtbjipcpoiiegkaaGreatDoor
open Go.RowKit Go.Shelf
attribute [local go_sem high] eq_val eq_val0
theorem piece_length : ∀ (n : Nat) (s : List UInt8), s.length ≤ n → ∀ x ∈ pieces s, x.length ≤ s.length
  | n, s, hn, x, hx => by
    rcases idx_cases s with h | ⟨o, h⟩
    · rw [pieces_none h] at hx
      simp at hx
      subst hx
      exact Nat.le_refl _
    · rw [pieces_some h] at hx
      have hlt := idx_lt h
      rcases List.mem_cons.1 hx with rfl | hx
      · simp only [List.length_take]; omega
      · cases n with
        | zero => omega
        | succ n =>
          have := piece_length n (s.drop (o + 1)) (by simp; omega) x hx
          simp at this
          omega
/-- How Parse ends, of any text but the empty one. -/
theorem parse_all (s : List UInt8) (w : World) (hL : Laid w) (hs0 : s ≠ []) (hs : s.length ≤ 1048576) : Calls Tryz.prog 53 #[.string ⟨s.toArray⟩] w (ParseEnd s readOf w) :=
  parse_any s w hs0 hs readOf fun x hx W hB => readWord_any x (Nat.le_trans (piece_length _ s (Nat.le_refl _) x hx) hs) W (hL.keep hB)
def three : List Val := [⟨1, -5, []⟩, ⟨2, 0, [97]⟩, ⟨3, 1, []⟩]
def threeText : List UInt8 := [45, 53, 32, 120, 39, 54, 49, 39, 32, 116, 114, 117, 101]
theorem three_print : printOf three = threeText := by decide +kernel
theorem three_pieces : pieces threeText = [[45, 53], [120, 39, 54, 49, 39], [116, 114, 117, 101]] := by
  rw [show threeText = [45, 53, 32, 120, 39, 54, 49, 39, 32, 116, 114, 117, 101] from rfl, pieces_some (o := 2) (by decide +kernel)]
  simp only [List.take, List.drop]
  rw [pieces_some (o := 5) (by decide +kernel)]
  simp only [List.take, List.drop]
  rw [pieces_none (by decide +kernel)]
theorem read_1 : readOf [45, 53] = some ⟨1, -5, []⟩ := by decide +kernel
theorem read_2 : readOf [120, 39, 54, 49, 39] = some ⟨2, 0, [97]⟩ := by decide +kernel
theorem read_3 : readOf [116, 114, 117, 101] = some ⟨3, 1, []⟩ := by decide +kernel
theorem three_parse (w : World) (hL : Laid w) : Calls Tryz.prog 53 #[.string ⟨threeText.toArray⟩] w fun e w' => ∃ a c, e = .returned (.tuple #[.slice (some a) 3 c, .int .i64 0]) ∧ Vs w' (some a) three ∧ Below w.heap.size w w' := by
  refine (parse_all threeText w hL (by decide) (by decide)).mono ?_
  rintro e w' ⟨hb, ⟨_, v, rfl, hrow⟩ | ⟨⟨x, hx, hn⟩, _⟩⟩
  · rw [three_pieces] at hrow
    have hc : cellsOf' (valsOf readOf [[45, 53], [120, 39, 54, 49, 39], [116, 114, 117, 101]]) = [.int .i64 1, .int .i64 (-5), .string ⟨#[]⟩, .int .i64 2, .int .i64 0, .string ⟨#[97]⟩, .int .i64 3, .int .i64 1, .string ⟨#[]⟩] := by
      simp [valsOf, cellsOf', Val.cs, read_1, read_2, read_3]
    rw [hc] at hrow
    rcases hrow.2 with ⟨h, h0⟩ | ⟨g, cap, cur, rfl, hr⟩
    · simp at h0
    · refine ⟨⟨g, 0, none⟩, cap, rfl, .inr ⟨g, 0, rfl, fun j hj => ?_⟩, hb⟩
      have hcell := World.ownsRow.cells hrow (g := g) rfl
      simp only [Addr.add_lit] at hcell
      have : j = 0 ∨ j = 1 ∨ j = 2 := by simp [three] at hj; omega
      rcases this with rfl | rfl | rfl
      · exact ⟨hcell 0 _ rfl, hcell 1 _ rfl, hcell 2 _ rfl⟩
      · exact ⟨hcell 3 _ rfl, hcell 4 _ rfl, hcell 5 _ rfl⟩
      · exact ⟨hcell 6 _ rfl, hcell 7 _ rfl, hcell 8 _ rfl⟩
  · rw [three_pieces] at hx
    simp at hx
    rcases hx with rfl | rfl | rfl
    · rw [read_1] at hn; cases hn
    · rw [read_2] at hn; cases hn
    · rw [read_3] at hn; cases hn
end Go.Proofs.YtbjipcpoiiegkaaGreatDoor
