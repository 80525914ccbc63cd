/- strings.Cut at one byte, asm.single. What the document's tables come to. -/
import Derived.Test.YtbjipcpoiiegkaaGreatDoorVX
import Derived.Test.YtbjipcpoiiegkaaGreatDoorVG
import Derived.Test.YtbjipcpoiiegkaaGreatDoorCR
import Derived.BigQuiet
import Derived.Test.YtbjipcpoiiegkaaGreatDoorOT
import Derived.WalkKit
import Derived.WalkSpells
import Derived.WalkLawsBesides
import Derived.Deep.QuietTactic
import Derived.Deep.RegionWith
import Derived.Maps.AppendAt
import Derived.OwnWalk
namespace Go.Proofs.YtbjipcpoiiegkaaGreatDoor
open Go.RowKit Go.Shelf
/-- A text cut at the first of a byte. -/
def cutAt (s : List UInt8) (c : UInt8) : List UInt8 × List UInt8 × Bool :=
  if Lib.indexByte s c = -1 then (s, [], false) else (s.take (Lib.indexByte s c).toNat, s.drop ((Lib.indexByte s c).toNat + 1), true)
theorem idx_any (s : List UInt8) (c : UInt8) : Lib.indexByte s c = -1 ∨ ∃ o : Nat, Lib.indexByte s c = o := by
  have := Lib.indexByte_ge s c
  by_cases h : Lib.indexByte s c = -1
  · exact .inl h
  · exact .inr ⟨(Lib.indexByte s c).toNat, by omega⟩
theorem litCut_any (s : List UInt8) (c : UInt8) (hs : s.length ≤ 1048576) (w : World) : Calls Tryz.prog 51 #[.string ⟨s.toArray⟩, .string ⟨#[c]⟩] w fun e w' => e = .returned (.tuple #[.string ⟨(cutAt s c).1.toArray⟩, .string ⟨(cutAt s c).2.1.toArray⟩, .bool (cutAt s c).2.2]) ∧ Below w.heap.size w w' := by
  have hx : Calls Tryz.prog 72 #[.string ⟨s.toArray⟩, .string ⟨#[c]⟩] w fun e w' => e = .returned (.int .i64 (Lib.indexByte s c)) ∧ w' = w := Any.stringslite_Index_one { Tryz.lays143 with } ⟨s.toArray⟩ c w
  unfold cutAt
  rcases idx_any s c with hi | ⟨o, hi⟩
  · rw [if_pos hi]
    rw [hi] at hx
    go_enter Tryz.func51, Tryz.ntmps51
    go_wp2_with (go_at_call 72; refine hx.mono ?_; rintro e w1 ⟨rfl, rfl⟩)
    go_ret3
    exact ⟨rfl, Below.refl _ _⟩
  · rw [if_neg (by omega)]
    rw [hi] at hx ⊢
    have ho := idx_lt hi
    simp only [Int.toNat_natCast]
    have hx1 : (⟨s.toArray⟩ : ByteArray).extract 0 o = ⟨(s.take o).toArray⟩ := cut_front s o
    have hx2 : (⟨s.toArray⟩ : ByteArray).extract (o + 1) s.length = ⟨(s.drop (o + 1)).toArray⟩ := cut_back s (o + 1)
    go_enter Tryz.func51, Tryz.ntmps51
    go_wp2_with (first | (go_at_call 72; refine hx.mono ?_; rintro e w1 ⟨rfl, rfl⟩) | fail)
    go_quiet (fail)
    go_wp2_with fail
    go_ret3
    exact ⟨rfl, below_draws (Below.refl _ _) _⟩
theorem cut_any (s : List UInt8) (c : UInt8) (hs : s.length ≤ 1048576) (w : World) : Calls Tryz.prog 24 #[.string ⟨s.toArray⟩, .string ⟨#[c]⟩] w fun e w' => e = .returned (.tuple #[.string ⟨(cutAt s c).1.toArray⟩, .string ⟨(cutAt s c).2.1.toArray⟩, .bool (cutAt s c).2.2]) ∧ Below w.heap.size w w' := by
  have hx := litCut_any s c hs w
  generalize cutAt s c = r at hx ⊢
  go_enter Tryz.func24, Tryz.ntmps24
  go_wp2_with (go_at_call 51; refine hx.mono ?_; rintro e w1 ⟨rfl, hb⟩)
  go_ret3
  exact ⟨rfl, hb⟩
theorem cutAt_len (s : List UInt8) (c : UInt8) : (cutAt s c).1.length ≤ s.length ∧ (cutAt s c).2.1.length ≤ s.length := by
  unfold cutAt
  split
  · simp
  · simp; omega
theorem read_nil : readOf [] = none := by decide +kernel
theorem readOf_good {s : List UInt8} {v : Val} (hs : s.length ≤ 1048576) (h : readOf s = some v) : v.b.length ≤ 1048576 ∧ -9223372036854775808 ≤ v.n ∧ v.n ≤ 9223372036854775807 := by
  unfold readOf at h
  cases hg : guessOf s with
  | none => rw [hg] at h; cases h
  | some x =>
    rw [hg] at h
    simp only [Option.bind_some] at h
    split at h
    · cases h
      exact guess_good hs hg
    · cases h
/-- value.Parse of a text without a blank. -/
theorem parse_one (s : List UInt8) (hs : s.length ≤ 1048576) (hi : Lib.indexByte s 32 = -1) (w : World) (hL : Laid w) : Calls Tryz.prog 53 #[.string ⟨s.toArray⟩] w fun e w' => Below w.heap.size w w' ∧ ∃ ad cap er, ∃ L : List Val, e = .returned (.tuple #[.slice ad L.length cap, .int .i64 er]) ∧ Vs w' ad L ∧ ((er = 0 ∧ ∃ v, readOf s = some v ∧ L = [v]) ∨ (readOf s = none ∧ L = [] ∧ (er = 0 ∨ er = 21))) := by
  by_cases h0 : s = []
  · subst h0
    refine (parse_none w).mono ?_
    rintro e w' ⟨rfl, hb⟩
    exact ⟨hb, none, 0, 0, [], rfl, .inl rfl, .inr ⟨read_nil, rfl, .inl rfl⟩⟩
  · refine (parse_all s w hL h0 hs).mono ?_
    rintro e w' ⟨hb, ⟨hall, v, rfl, hrow⟩ | ⟨⟨x, hx, hn⟩, rfl⟩⟩
    · rw [pieces_none hi] at hrow hall
      have h1 := hall s (by simp)
      cases hr : readOf s with
      | none => rw [hr] at h1; cases h1
      | some v =>
        have hc : cellsOf' (valsOf readOf [s]) = cellsL [v] := by simp [valsOf, cellsOf', hr, cellsL, Val.cs]
        rw [hc] at hrow
        obtain ⟨a, c, rfl, hV⟩ := vs_of_row (L := [v]) hrow rfl
        exact ⟨hb, a, c, 0, [v], rfl, hV, .inl ⟨rfl, v, rfl, rfl⟩⟩
    · rw [pieces_none hi] at hx
      simp only [List.mem_singleton] at hx
      subst hx
      refine ⟨hb, none, 0, 21, [], rfl, .inl rfl, .inr ⟨?_, rfl, .inr rfl⟩⟩
      cases hr : readOf x with
      | none => rfl
      | some v => rw [hr] at hn; cases hn
theorem ints_one (w : World) (k : Int) : IntsAt (w.alloc (.cells #[.int .i64 k] 3)) (some ⟨w.heap.size, 0, none⟩) [k] := by
  refine .inr ⟨_, 0, rfl, fun j hj => ?_⟩
  have hc := heap_alloc_new w (.cells #[.int .i64 k] 3)
  rw [Nat.zero_add, Lib.cell_of_heap hc j]
  rcases j with _ | j
  · rfl
  · simp at hj
/-- The value of a type whose text this is. -/
def oneV (s : List UInt8) (k : Int) : Option Val := if Lib.indexByte s 32 = -1 then (readOf s).bind fun v => if fitsB [v] [k] = true then some v else none else none
set_option maxRecDepth 100000 in
set_option maxHeartbeats 1000000 in
theorem single_any (s : List UInt8) (k : Int) (hs : s.length ≤ 1048576) (w : World) (hL : Laid w) : Calls Tryz.prog 27 #[.string ⟨s.toArray⟩, .int .i64 k] w (ReadEnd (oneV s k) w) := by
  have hC : ∀ W, Calls Tryz.prog 52 #[.string ⟨s.toArray⟩, .string ⟨#[32]⟩] W fun e w' => e = .returned (.bool (decide (0 ≤ Lib.indexByte s 32))) ∧ w' = W := fun W => Tryz.strings_Contains_one ⟨s.toArray⟩ 32 W
  have hL2 : Laid (w.alloc (Val.box ⟨0, 0, []⟩)) := hL.keep ((Below.refl _ w).alloc (Nat.le_refl _) _)
  have hbA : Below w.heap.size w (w.alloc (Val.box ⟨0, 0, []⟩)) := (Below.refl _ w).alloc (Nat.le_refl _) _
  rcases idx_cases s with hi | ⟨o, hi⟩
  · have hP := parse_one s hs hi _ hL2
    have hg : ∀ v, readOf s = some v → v.b.length ≤ 1048576 := fun v h => (readOf_good hs h).1
    have HR : Hid (oneV s k = (readOf s).bind fun v => if fitsB [v] [k] = true then some v else none) := hid (if_pos hi)
    rw [hi, show decide ((0 : Int) ≤ -1) = false by decide] at hC
    go_enter Tryz.func27, Tryz.ntmps27
    go_wp2_with (first | (go_at_call 52; refine (hC _).mono ?_; rintro e w1 ⟨rfl, rfl⟩) | fail)
    refine hP.mono ?_
    rintro e w1 ⟨hb1, ad, cap, er, L, rfl, hV, ⟨rfl, v, hv, rfl⟩ | ⟨hn, rfl, hE⟩⟩
    all_goals
      have hB := boxed_new hb1
      obtain ⟨⟨c0, c1, c2⟩, hf⟩ := hB.facts
      have f0 := hf 0
      have f1 := hf 1
      have f2 := hf 2
      have hlt := (Array.getElem?_eq_some_iff.1 hB).1
      have hbw : Below w.heap.size w w1 := hbA.trans (hb1.mono hbA.size)
    · have hF := fun W => fits_any ad 1 cap [v] rfl (some ⟨w1.heap.size, 0, none⟩) 1 1 [k] rfl W
      have HV : Hid (oneV s k = if fitsB [v] [k] = true then some v else none) := hid (HR.out.trans (by rw [hv]; rfl))
      have hgv := hg v hv
      obtain ⟨W2, hW2⟩ : ∃ W2, W2 = w1.alloc (.cells #[.int .i64 k] 3) := ⟨_, rfl⟩
      have hb12 : Below w1.heap.size w1 W2 := by rw [hW2]; exact (Below.refl _ w1).alloc (Nat.le_refl _) _
      have hI2 : IntsAt W2 (some ⟨w1.heap.size, 0, none⟩) [k] := by rw [hW2]; exact ints_one w1 k
      replace hF := hF W2 (hV.keep hb12) hI2 (fun x hx => by rw [List.mem_singleton] at hx; subst hx; omega) (by omega)
      clear hI2 HR
      obtain ⟨b, off, rfl, hc⟩ := hV.resolve_left (by simp)
      have hcv : ∀ W, Below w1.heap.size w1 W → W.cell? ⟨b, off, none⟩ = some (.int .i64 v.t) ∧ W.cell? ⟨b, off + 1, none⟩ = some (.int .i64 v.n) ∧ W.cell? ⟨b, off + 2, none⟩ = some (.string ⟨v.b.toArray⟩) := fun W hW => by
        obtain ⟨k0, k1, k2⟩ := hc 0 (by simp)
        exact ⟨cell_below k0 hW, cell_below k1 hW, cell_below k2 hW⟩
      clear hc hV
      cases hfb : fitsB [v] [k] with
      | true =>
        rw [hfb] at hF
        have HV' : Hid (oneV s k = some v) := hid (HV.out.trans (if_pos hfb))
        simp only [List.length_cons, List.length_nil]
        go_wp2_with (first | (go_at_call 54; rw [← hW2]; refine hF.mono ?_; rintro e w3 ⟨rfl, hb3⟩; have hb13 := hb12.trans (hb3.mono hb12.size); have hB3 : Boxed3 w3 w.heap.size := (hb13.block _ hlt).trans hB; obtain ⟨⟨d0, d1, d2⟩, hf3⟩ := hB3.facts; have g0 := hf3 0; have g1 := hf3 1; have g2 := hf3 2; obtain ⟨v0, v1, v2⟩ := hcv w3 hb13) | fail)
        exact ret_read (x := v) rfl rfl rfl rfl (set_box hB3 v) ⟨by rw [HV'.out]; rfl, below_set3 (hbw.trans (hb13.mono hbw.size)) (Nat.le_refl _)⟩
      | false =>
        rw [hfb] at hF
        have HV' : Hid (oneV s k = none) := hid (HV.out.trans (if_neg (by rw [hfb]; decide)))
        simp only [List.length_cons, List.length_nil]
        go_wp2_with (first | (go_at_call 54; rw [← hW2]; refine hF.mono ?_; rintro e w3 ⟨rfl, hb3⟩; have hb13 := hb12.trans (hb3.mono hb12.size); have hB3 : Boxed3 w3 w.heap.size := (hb13.block _ hlt).trans hB; obtain ⟨⟨d0, d1, d2⟩, hf3⟩ := hB3.facts; have g0 := hf3 0; have g1 := hf3 1; have g2 := hf3 2; obtain ⟨v0, v1, v2⟩ := hcv w3 hb13) | fail)
        exact ret_read (x := ⟨0, 0, []⟩) rfl rfl rfl rfl (set_box hB3 ⟨0, 0, []⟩) ⟨by rw [HV'.out]; rfl, below_set3 (hbw.trans (hb13.mono hbw.size)) (Nat.le_refl _)⟩
    · have HV' : Hid (oneV s k = none) := hid (HR.out.trans (by rw [hn]; rfl))
      rcases hE with rfl | rfl
      · obtain ⟨W2, hW2⟩ : ∃ W2, W2 = w1.alloc (.cells #[.int .i64 k] 3) := ⟨_, rfl⟩
        have hb12 : Below w1.heap.size w1 W2 := by rw [hW2]; exact (Below.refl _ w1).alloc (Nat.le_refl _) _
        have hI2 : IntsAt W2 (some ⟨w1.heap.size, 0, none⟩) [k] := by rw [hW2]; exact ints_one w1 k
        have hF := fits_any ad 0 cap [] rfl (some ⟨w1.heap.size, 0, none⟩) 1 1 [k] rfl W2 (.inl rfl) hI2 (fun x hx => by cases hx) (by omega)
        rw [show fitsB [] [k] = false by simp [fitsB]] at hF
        clear hI2 HR
        simp only [List.length_nil]
        go_wp2_with (first | (go_at_call 54; rw [← hW2]; refine hF.mono ?_; rintro e w3 ⟨rfl, hb3⟩; have hb13 := hb12.trans (hb3.mono hb12.size); have hB3 : Boxed3 w3 w.heap.size := (hb13.block _ hlt).trans hB; obtain ⟨⟨d0, d1, d2⟩, hf3⟩ := hB3.facts; have g0 := hf3 0; have g1 := hf3 1; have g2 := hf3 2) | fail)
        exact ret_read (x := ⟨0, 0, []⟩) rfl rfl rfl rfl (set_box hB3 ⟨0, 0, []⟩) ⟨by rw [HV'.out]; rfl, below_set3 (hbw.trans (hb13.mono hbw.size)) (Nat.le_refl _)⟩
      · go_wp2_with fail
        exact ret_read (x := ⟨0, 0, []⟩) rfl rfl rfl rfl (set_box hB ⟨0, 0, []⟩) ⟨by rw [HV'.out]; rfl, below_set3 hbw (Nat.le_refl _)⟩
  · have HV' : Hid (oneV s k = none) := hid (if_neg (by omega))
    rw [hi, show decide ((0 : Int) ≤ (o : Int)) = true by simp] at hC
    have hB := boxed_new (Below.refl _ (w.alloc (Val.box ⟨0, 0, []⟩)))
    go_enter Tryz.func27, Tryz.ntmps27
    go_wp2_with (first | (go_at_call 52; refine (hC _).mono ?_; rintro e w1 ⟨rfl, rfl⟩) | fail)
    exact ret_read (x := ⟨0, 0, []⟩) rfl rfl rfl rfl (val_new w ⟨0, 0, []⟩) ⟨by rw [HV'.out]; rfl, hbA⟩
end Go.Proofs.YtbjipcpoiiegkaaGreatDoor
namespace Go.Proofs.YtbjipcpoiiegkaaGreatDoor
open Go.RowKit

def inS : List (List UInt8) := [[], [], [], [], [], [48], [48], [48, 48], [48, 48], [], [48], [49, 49], [49, 49], [49, 49], [49, 49], [49, 49], [49], [49, 49], [49, 49], [49, 49], [49], [49, 49], [49, 49], [49, 49], [49, 49], [49, 49], [49, 49], [49, 49], [49, 49], [51, 51], [51, 51], [51], [50], [50, 50], [50, 49, 49], [50, 49], [50, 50], [50, 50], [49], [50], [49], [50], [50], [50, 50], [50], [50], [50], [], [51], [], [], [], [51], []]
def outS : List (List UInt8) := [[], [49], [50], [51], [51], [], [48, 48], [48, 48], [48, 48, 48], [48], [], [49], [49], [49], [49], [49], [49], [49], [49], [49], [49], [49], [49], [51], [51], [51], [51], [51], [51], [51], [51], [51], [49], [50], [50], [49], [51], [51], [50], [49], [50], [50, 51], [51], [], [], [50, 51], [], [], [], [], [], [], [], []]
theorem cell_name (w : World) (k : Nat) (hk : k < 54) : (w.alloc (.cells #[.string ⟨#[]⟩, .string ⟨#[105, 110, 116]⟩, .string ⟨#[99, 111, 110, 115, 116]⟩, .string ⟨#[116, 114, 117, 101]⟩, .string ⟨#[102, 97, 108, 115, 101]⟩, .string ⟨#[100, 114, 111, 112]⟩, .string ⟨#[100, 117, 112]⟩, .string ⟨#[115, 119, 97, 112]⟩, .string ⟨#[111, 118, 101, 114]⟩, .string ⟨#[103, 101, 116]⟩, .string ⟨#[115, 101, 116]⟩, .string ⟨#[97, 100, 100]⟩, .string ⟨#[115, 117, 98]⟩, .string ⟨#[109, 117, 108]⟩, .string ⟨#[100, 105, 118]⟩, .string ⟨#[114, 101, 109]⟩, .string ⟨#[110, 101, 103]⟩, .string ⟨#[97, 110, 100]⟩, .string ⟨#[111, 114]⟩, .string ⟨#[120, 111, 114]⟩, .string ⟨#[105, 110, 118]⟩, .string ⟨#[115, 104, 108]⟩, .string ⟨#[115, 104, 114]⟩, .string ⟨#[101, 113]⟩, .string ⟨#[110, 101]⟩, .string ⟨#[108, 116]⟩, .string ⟨#[108, 101]⟩, .string ⟨#[103, 116]⟩, .string ⟨#[103, 101]⟩, .string ⟨#[98, 111, 116, 104]⟩, .string ⟨#[101, 105, 116, 104, 101, 114]⟩, .string ⟨#[110, 111, 116]⟩, .string ⟨#[108, 101, 110]⟩, .string ⟨#[106, 111, 105, 110]⟩, .string ⟨#[99, 117, 116]⟩, .string ⟨#[97, 116]⟩, .string ⟨#[115, 97, 109, 101]⟩, .string ⟨#[108, 101, 115, 115]⟩, .string ⟨#[112, 97, 99, 107]⟩, .string ⟨#[117, 110, 112, 97, 99, 107]⟩, .string ⟨#[111, 110, 101]⟩, .string ⟨#[108, 111, 97, 100]⟩, .string ⟨#[104, 97, 115]⟩, .string ⟨#[115, 97, 118, 101]⟩, .string ⟨#[119, 105, 112, 101]⟩, .string ⟨#[110, 101, 120, 116]⟩, .string ⟨#[101, 109, 105, 116]⟩, .string ⟨#[97, 98, 111, 114, 116]⟩, .string ⟨#[105, 102]⟩, .string ⟨#[101, 108, 115, 101]⟩, .string ⟨#[101, 110, 100]⟩, .string ⟨#[108, 111, 111, 112]⟩, .string ⟨#[108, 101, 97, 118, 101]⟩, .string ⟨#[99, 97, 108, 108]⟩] 9)).cell? ⟨w.heap.size, k, none⟩ = some (.string ⟨(nameTab.getD k []).toArray⟩) := by
  rw [cell_of_row _ _ k _ _ (0, 0) (heap_alloc_new w _)]
  have e : (#[.string ⟨#[]⟩, .string ⟨#[105, 110, 116]⟩, .string ⟨#[99, 111, 110, 115, 116]⟩, .string ⟨#[116, 114, 117, 101]⟩, .string ⟨#[102, 97, 108, 115, 101]⟩, .string ⟨#[100, 114, 111, 112]⟩, .string ⟨#[100, 117, 112]⟩, .string ⟨#[115, 119, 97, 112]⟩, .string ⟨#[111, 118, 101, 114]⟩, .string ⟨#[103, 101, 116]⟩, .string ⟨#[115, 101, 116]⟩, .string ⟨#[97, 100, 100]⟩, .string ⟨#[115, 117, 98]⟩, .string ⟨#[109, 117, 108]⟩, .string ⟨#[100, 105, 118]⟩, .string ⟨#[114, 101, 109]⟩, .string ⟨#[110, 101, 103]⟩, .string ⟨#[97, 110, 100]⟩, .string ⟨#[111, 114]⟩, .string ⟨#[120, 111, 114]⟩, .string ⟨#[105, 110, 118]⟩, .string ⟨#[115, 104, 108]⟩, .string ⟨#[115, 104, 114]⟩, .string ⟨#[101, 113]⟩, .string ⟨#[110, 101]⟩, .string ⟨#[108, 116]⟩, .string ⟨#[108, 101]⟩, .string ⟨#[103, 116]⟩, .string ⟨#[103, 101]⟩, .string ⟨#[98, 111, 116, 104]⟩, .string ⟨#[101, 105, 116, 104, 101, 114]⟩, .string ⟨#[110, 111, 116]⟩, .string ⟨#[108, 101, 110]⟩, .string ⟨#[106, 111, 105, 110]⟩, .string ⟨#[99, 117, 116]⟩, .string ⟨#[97, 116]⟩, .string ⟨#[115, 97, 109, 101]⟩, .string ⟨#[108, 101, 115, 115]⟩, .string ⟨#[112, 97, 99, 107]⟩, .string ⟨#[117, 110, 112, 97, 99, 107]⟩, .string ⟨#[111, 110, 101]⟩, .string ⟨#[108, 111, 97, 100]⟩, .string ⟨#[104, 97, 115]⟩, .string ⟨#[115, 97, 118, 101]⟩, .string ⟨#[119, 105, 112, 101]⟩, .string ⟨#[110, 101, 120, 116]⟩, .string ⟨#[101, 109, 105, 116]⟩, .string ⟨#[97, 98, 111, 114, 116]⟩, .string ⟨#[105, 102]⟩, .string ⟨#[101, 108, 115, 101]⟩, .string ⟨#[101, 110, 100]⟩, .string ⟨#[108, 111, 111, 112]⟩, .string ⟨#[108, 101, 97, 118, 101]⟩, .string ⟨#[99, 97, 108, 108]⟩] : Array Value) = (nameTab.map fun x => .string ⟨x.toArray⟩).toArray := rfl
  rw [e]
  have hl : k < nameTab.length := hk
  simp [List.getD, hl]
theorem cell_cost (w : World) (k : Nat) (hk : k < 54) : (w.alloc (.cells #[.int .i64 0, .int .i64 1, .int .i64 1, .int .i64 1, .int .i64 1, .int .i64 1, .int .i64 1, .int .i64 1, .int .i64 1, .int .i64 1, .int .i64 1, .int .i64 1, .int .i64 1, .int .i64 2, .int .i64 4, .int .i64 4, .int .i64 1, .int .i64 1, .int .i64 1, .int .i64 1, .int .i64 1, .int .i64 1, .int .i64 1, .int .i64 1, .int .i64 1, .int .i64 1, .int .i64 1, .int .i64 1, .int .i64 1, .int .i64 1, .int .i64 1, .int .i64 1, .int .i64 1, .int .i64 6, .int .i64 6, .int .i64 2, .int .i64 4, .int .i64 4, .int .i64 3, .int .i64 3, .int .i64 2, .int .i64 20, .int .i64 15, .int .i64 30, .int .i64 25, .int .i64 20, .int .i64 10, .int .i64 1, .int .i64 1, .int .i64 1, .int .i64 1, .int .i64 2, .int .i64 1, .int .i64 5] 3)).cell? ⟨w.heap.size, k, none⟩ = some (.int .i64 (costTab.getD k 0)) := by
  rw [cell_of_row _ _ k _ _ (0, 0) (heap_alloc_new w _)]
  have e : (#[.int .i64 0, .int .i64 1, .int .i64 1, .int .i64 1, .int .i64 1, .int .i64 1, .int .i64 1, .int .i64 1, .int .i64 1, .int .i64 1, .int .i64 1, .int .i64 1, .int .i64 1, .int .i64 2, .int .i64 4, .int .i64 4, .int .i64 1, .int .i64 1, .int .i64 1, .int .i64 1, .int .i64 1, .int .i64 1, .int .i64 1, .int .i64 1, .int .i64 1, .int .i64 1, .int .i64 1, .int .i64 1, .int .i64 1, .int .i64 1, .int .i64 1, .int .i64 1, .int .i64 1, .int .i64 6, .int .i64 6, .int .i64 2, .int .i64 4, .int .i64 4, .int .i64 3, .int .i64 3, .int .i64 2, .int .i64 20, .int .i64 15, .int .i64 30, .int .i64 25, .int .i64 20, .int .i64 10, .int .i64 1, .int .i64 1, .int .i64 1, .int .i64 1, .int .i64 2, .int .i64 1, .int .i64 5] : Array Value) = (costTab.map fun x => .int .i64 x).toArray := rfl
  rw [e]
  have hl : k < costTab.length := hk
  simp [List.getD, hl]
theorem cell_in (w : World) (k : Nat) (hk : k < 54) : (w.alloc (.cells #[.string ⟨#[]⟩, .string ⟨#[]⟩, .string ⟨#[]⟩, .string ⟨#[]⟩, .string ⟨#[]⟩, .string ⟨#[48]⟩, .string ⟨#[48]⟩, .string ⟨#[48, 48]⟩, .string ⟨#[48, 48]⟩, .string ⟨#[]⟩, .string ⟨#[48]⟩, .string ⟨#[49, 49]⟩, .string ⟨#[49, 49]⟩, .string ⟨#[49, 49]⟩, .string ⟨#[49, 49]⟩, .string ⟨#[49, 49]⟩, .string ⟨#[49]⟩, .string ⟨#[49, 49]⟩, .string ⟨#[49, 49]⟩, .string ⟨#[49, 49]⟩, .string ⟨#[49]⟩, .string ⟨#[49, 49]⟩, .string ⟨#[49, 49]⟩, .string ⟨#[49, 49]⟩, .string ⟨#[49, 49]⟩, .string ⟨#[49, 49]⟩, .string ⟨#[49, 49]⟩, .string ⟨#[49, 49]⟩, .string ⟨#[49, 49]⟩, .string ⟨#[51, 51]⟩, .string ⟨#[51, 51]⟩, .string ⟨#[51]⟩, .string ⟨#[50]⟩, .string ⟨#[50, 50]⟩, .string ⟨#[50, 49, 49]⟩, .string ⟨#[50, 49]⟩, .string ⟨#[50, 50]⟩, .string ⟨#[50, 50]⟩, .string ⟨#[49]⟩, .string ⟨#[50]⟩, .string ⟨#[49]⟩, .string ⟨#[50]⟩, .string ⟨#[50]⟩, .string ⟨#[50, 50]⟩, .string ⟨#[50]⟩, .string ⟨#[50]⟩, .string ⟨#[50]⟩, .string ⟨#[]⟩, .string ⟨#[51]⟩, .string ⟨#[]⟩, .string ⟨#[]⟩, .string ⟨#[]⟩, .string ⟨#[51]⟩, .string ⟨#[]⟩] 9)).cell? ⟨w.heap.size, k, none⟩ = some (.string ⟨(inS.getD k []).toArray⟩) := by
  rw [cell_of_row _ _ k _ _ (0, 0) (heap_alloc_new w _)]
  have e : (#[.string ⟨#[]⟩, .string ⟨#[]⟩, .string ⟨#[]⟩, .string ⟨#[]⟩, .string ⟨#[]⟩, .string ⟨#[48]⟩, .string ⟨#[48]⟩, .string ⟨#[48, 48]⟩, .string ⟨#[48, 48]⟩, .string ⟨#[]⟩, .string ⟨#[48]⟩, .string ⟨#[49, 49]⟩, .string ⟨#[49, 49]⟩, .string ⟨#[49, 49]⟩, .string ⟨#[49, 49]⟩, .string ⟨#[49, 49]⟩, .string ⟨#[49]⟩, .string ⟨#[49, 49]⟩, .string ⟨#[49, 49]⟩, .string ⟨#[49, 49]⟩, .string ⟨#[49]⟩, .string ⟨#[49, 49]⟩, .string ⟨#[49, 49]⟩, .string ⟨#[49, 49]⟩, .string ⟨#[49, 49]⟩, .string ⟨#[49, 49]⟩, .string ⟨#[49, 49]⟩, .string ⟨#[49, 49]⟩, .string ⟨#[49, 49]⟩, .string ⟨#[51, 51]⟩, .string ⟨#[51, 51]⟩, .string ⟨#[51]⟩, .string ⟨#[50]⟩, .string ⟨#[50, 50]⟩, .string ⟨#[50, 49, 49]⟩, .string ⟨#[50, 49]⟩, .string ⟨#[50, 50]⟩, .string ⟨#[50, 50]⟩, .string ⟨#[49]⟩, .string ⟨#[50]⟩, .string ⟨#[49]⟩, .string ⟨#[50]⟩, .string ⟨#[50]⟩, .string ⟨#[50, 50]⟩, .string ⟨#[50]⟩, .string ⟨#[50]⟩, .string ⟨#[50]⟩, .string ⟨#[]⟩, .string ⟨#[51]⟩, .string ⟨#[]⟩, .string ⟨#[]⟩, .string ⟨#[]⟩, .string ⟨#[51]⟩, .string ⟨#[]⟩] : Array Value) = (inS.map fun x => .string ⟨x.toArray⟩).toArray := rfl
  rw [e]
  have hl : k < inS.length := hk
  simp [List.getD, hl]
theorem cell_out (w : World) (k : Nat) (hk : k < 54) : (w.alloc (.cells #[.string ⟨#[]⟩, .string ⟨#[49]⟩, .string ⟨#[50]⟩, .string ⟨#[51]⟩, .string ⟨#[51]⟩, .string ⟨#[]⟩, .string ⟨#[48, 48]⟩, .string ⟨#[48, 48]⟩, .string ⟨#[48, 48, 48]⟩, .string ⟨#[48]⟩, .string ⟨#[]⟩, .string ⟨#[49]⟩, .string ⟨#[49]⟩, .string ⟨#[49]⟩, .string ⟨#[49]⟩, .string ⟨#[49]⟩, .string ⟨#[49]⟩, .string ⟨#[49]⟩, .string ⟨#[49]⟩, .string ⟨#[49]⟩, .string ⟨#[49]⟩, .string ⟨#[49]⟩, .string ⟨#[49]⟩, .string ⟨#[51]⟩, .string ⟨#[51]⟩, .string ⟨#[51]⟩, .string ⟨#[51]⟩, .string ⟨#[51]⟩, .string ⟨#[51]⟩, .string ⟨#[51]⟩, .string ⟨#[51]⟩, .string ⟨#[51]⟩, .string ⟨#[49]⟩, .string ⟨#[50]⟩, .string ⟨#[50]⟩, .string ⟨#[49]⟩, .string ⟨#[51]⟩, .string ⟨#[51]⟩, .string ⟨#[50]⟩, .string ⟨#[49]⟩, .string ⟨#[50]⟩, .string ⟨#[50, 51]⟩, .string ⟨#[51]⟩, .string ⟨#[]⟩, .string ⟨#[]⟩, .string ⟨#[50, 51]⟩, .string ⟨#[]⟩, .string ⟨#[]⟩, .string ⟨#[]⟩, .string ⟨#[]⟩, .string ⟨#[]⟩, .string ⟨#[]⟩, .string ⟨#[]⟩, .string ⟨#[]⟩] 9)).cell? ⟨w.heap.size, k, none⟩ = some (.string ⟨(outS.getD k []).toArray⟩) := by
  rw [cell_of_row _ _ k _ _ (0, 0) (heap_alloc_new w _)]
  have e : (#[.string ⟨#[]⟩, .string ⟨#[49]⟩, .string ⟨#[50]⟩, .string ⟨#[51]⟩, .string ⟨#[51]⟩, .string ⟨#[]⟩, .string ⟨#[48, 48]⟩, .string ⟨#[48, 48]⟩, .string ⟨#[48, 48, 48]⟩, .string ⟨#[48]⟩, .string ⟨#[]⟩, .string ⟨#[49]⟩, .string ⟨#[49]⟩, .string ⟨#[49]⟩, .string ⟨#[49]⟩, .string ⟨#[49]⟩, .string ⟨#[49]⟩, .string ⟨#[49]⟩, .string ⟨#[49]⟩, .string ⟨#[49]⟩, .string ⟨#[49]⟩, .string ⟨#[49]⟩, .string ⟨#[49]⟩, .string ⟨#[51]⟩, .string ⟨#[51]⟩, .string ⟨#[51]⟩, .string ⟨#[51]⟩, .string ⟨#[51]⟩, .string ⟨#[51]⟩, .string ⟨#[51]⟩, .string ⟨#[51]⟩, .string ⟨#[51]⟩, .string ⟨#[49]⟩, .string ⟨#[50]⟩, .string ⟨#[50]⟩, .string ⟨#[49]⟩, .string ⟨#[51]⟩, .string ⟨#[51]⟩, .string ⟨#[50]⟩, .string ⟨#[49]⟩, .string ⟨#[50]⟩, .string ⟨#[50, 51]⟩, .string ⟨#[51]⟩, .string ⟨#[]⟩, .string ⟨#[]⟩, .string ⟨#[50, 51]⟩, .string ⟨#[]⟩, .string ⟨#[]⟩, .string ⟨#[]⟩, .string ⟨#[]⟩, .string ⟨#[]⟩, .string ⟨#[]⟩, .string ⟨#[]⟩, .string ⟨#[]⟩] : Array Value) = (outS.map fun x => .string ⟨x.toArray⟩).toArray := rfl
  rw [e]
  have hl : k < outS.length := hk
  simp [List.getD, hl]
set_option maxHeartbeats 1000000 in
theorem rname_any (n : Int) (w : World) : Calls Tryz.prog 35 #[.int .i64 n] w fun e w' => e = .returned (.string ⟨(nameT n).toArray⟩) ∧ Below w.heap.size w w' := by
  by_cases h1 : n < 1
  · rw [show nameT n = [] from rowOf_none _ _ n (.inl h1)]
    go_enter Tryz.func35, Tryz.ntmps35
    go_wp2
    go_ret
    exact ⟨rfl, (Below.refl _ w).alloc (Nat.le_refl _) _⟩
  by_cases h2 : 53 < n
  · rw [show nameT n = [] from rowOf_none _ _ n (.inr h2)]
    go_enter Tryz.func35, Tryz.ntmps35
    go_wp2
    go_ret
    exact ⟨rfl, (Below.refl _ w).alloc (Nat.le_refl _) _⟩
  obtain ⟨k, rfl⟩ : ∃ k : Nat, n = k := ⟨n.toNat, by omega⟩
  have hk : k < 54 := by omega
  have hc := cell_name w k hk
  rw [show nameT k = nameTab.getD k [] from by unfold nameT rowOf; rw [if_pos (by omega)]; simp]
  generalize nameTab.getD k [] = r at *
  go_enter Tryz.func35, Tryz.ntmps35
  go_wp2
  go_ret
  exact ⟨rfl, (Below.refl _ w).alloc (Nat.le_refl _) _⟩
end Go.Proofs.YtbjipcpoiiegkaaGreatDoor
