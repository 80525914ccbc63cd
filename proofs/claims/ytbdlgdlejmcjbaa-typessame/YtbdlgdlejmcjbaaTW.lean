/- law07: square, knows. The document's Name, Takes. -/
import Derived.Test.YtbdlgdlejmcjbaaTY
import Derived.Test.YtbdlgdlejmcjbaaCB
import Derived.Test.YtbdlgdlejmcjbaaON
import Derived.Deep.RegionWith
namespace Go.Proofs.Ytbdlgdlejmcjbaa
open Go.RowKit Go.Shelf
def sqS : Scr := ⟨[], [⟨[1], [1], [], [(9, 0), (6, 0), (13, 0)]⟩]⟩
theorem sq_check : checkS sqS 0 = (0, [[], [1], [1, 1], [1]]) := by decide
theorem sq_all : allS sqS = (0, [2]) := by decide
theorem sq_fits : sqS.fits := by
  refine ⟨by decide, by decide, fun f hf => ?_, fun x hx => by cases hx⟩
  rw [sqS, List.mem_singleton] at hf
  subst hf
  exact ⟨by decide, by decide, by decide, by decide⟩
/-- Five blocks in a row. -/
theorem five_new (w : World) (o0 o1 o2 o3 o4 : Obj) : ∃ W, W = ((((w.alloc o0).alloc o1).alloc o2).alloc o3).alloc o4 ∧ W.heap[w.heap.size]? = (w.alloc o0).heap[w.heap.size]? ∧ W.heap[w.heap.size + 1]? = ((w.alloc o0).alloc o1).heap[(w.alloc o0).heap.size]? ∧ W.heap[w.heap.size + 1 + 1]? = (((w.alloc o0).alloc o1).alloc o2).heap[((w.alloc o0).alloc o1).heap.size]? ∧ W.heap[w.heap.size + 1 + 1 + 1]? = ((((w.alloc o0).alloc o1).alloc o2).alloc o3).heap[(((w.alloc o0).alloc o1).alloc o2).heap.size]? ∧ W.heap[w.heap.size + 1 + 1 + 1 + 1]? = (((((w.alloc o0).alloc o1).alloc o2).alloc o3).alloc o4).heap[((((w.alloc o0).alloc o1).alloc o2).alloc o3).heap.size]? ∧ Below w.heap.size w W := by
  have s1 := World.size_alloc w o0
  have s2 := World.size_alloc (w.alloc o0) o1
  have s3 := World.size_alloc ((w.alloc o0).alloc o1) o2
  have s4 := World.size_alloc (((w.alloc o0).alloc o1).alloc o2) o3
  refine ⟨_, rfl, ?_, ?_, ?_, ?_, ?_, ?_⟩
  · rw [Below.heap_alloc _ _ _ (by omega), Below.heap_alloc _ _ _ (by omega), Below.heap_alloc _ _ _ (by omega), Below.heap_alloc _ _ _ (by omega)]
  · rw [s1, Below.heap_alloc _ _ _ (by omega), Below.heap_alloc _ _ _ (by omega), Below.heap_alloc _ _ _ (by omega)]
  · rw [s2, s1, Below.heap_alloc _ _ _ (by omega), Below.heap_alloc _ _ _ (by omega)]
  · rw [s3, s2, s1, Below.heap_alloc _ _ _ (by omega)]
  · rw [s4, s3, s2, s1]
  · exact (((((Below.refl _ w).alloc (Nat.le_refl _) _).alloc (by omega) _).alloc (by omega) _).alloc (by omega) _).alloc (by omega) _
set_option maxRecDepth 100000 in
set_option maxHeartbeats 1000000 in
theorem square_any (w : World) : Calls Try.prog 30 #[] w fun e w' => ∃ v0 v1, e = .returned (.agg #[v0, v1]) ∧ Hid (ScIs w'.cell? sqS v0 v1 ∧ Below w.heap.size w w') := by
  obtain ⟨W, hW, e0, e1, e2, e3, e4, hB⟩ := five_new w (.cells #[.slice none 0 0, .slice (some ⟨w.heap.size + 1 + 1 + 1 + 1, 0, none⟩) 1 1] 25) (.cells #[.int .i64 1] 3) (.cells #[.int .i64 1] 3) (.cells #[.int .i64 9, .int .i64 0, .int .i64 6, .int .i64 0, .int .i64 13, .int .i64 0] 53) (.cells #[.slice (some ⟨w.heap.size + 1, 0, none⟩) 1 1, .slice (some ⟨w.heap.size + 1 + 1, 0, none⟩) 1 1, .slice none 0 0, .slice (some ⟨w.heap.size + 1 + 1 + 1, 0, none⟩) 3 3] 50)
  rw [heap_alloc_new] at e0 e1 e2 e3 e4
  have hs : ScIs W.cell? sqS (.slice none 0 0) (.slice (some ⟨w.heap.size + 1 + 1 + 1 + 1, 0, none⟩) 1 1) := by
    refine ⟨⟨none, 0, rfl, .inl rfl⟩, ⟨_, 1, rfl, .inr ⟨_, 0, rfl, fun j hj => ?_⟩⟩⟩
    have hj0 : j = 0 := by simp [sqS] at hj; omega
    subst hj0
    refine ⟨_, _, _, _, Lib.cell_of_heap e4 _, Lib.cell_of_heap e4 _, Lib.cell_of_heap e4 _, Lib.cell_of_heap e4 _, ⟨_, 1, rfl, .inr ⟨_, 0, rfl, fun i hi => ?_⟩⟩, ⟨_, 1, rfl, .inr ⟨_, 0, rfl, fun i hi => ?_⟩⟩, ⟨none, 0, rfl, .inl rfl⟩, ⟨_, 3, rfl, .inr ⟨_, 0, rfl, fun i hi => ?_⟩⟩⟩
    · have hi0 : i = 0 := by simp [sqS] at hi; omega
      subst hi0
      rw [Lib.cell_of_heap e1]; rfl
    · have hi0 : i = 0 := by simp [sqS] at hi; omega
      subst hi0
      rw [Lib.cell_of_heap e2]; rfl
    · have hi3 : i = 0 ∨ i = 1 ∨ i = 2 := by simp [sqS] at hi; omega
      rcases hi3 with rfl | rfl | rfl
      · rw [Lib.cell_of_heap e3, Lib.cell_of_heap e3]; exact ⟨rfl, rfl⟩
      · rw [Lib.cell_of_heap e3, Lib.cell_of_heap e3]; exact ⟨rfl, rfl⟩
      · rw [Lib.cell_of_heap e3, Lib.cell_of_heap e3]; exact ⟨rfl, rfl⟩
  have HW := hid7 (And.intro hs hB)
  have HV := hid7 hW
  have H0 := hid7 e0
  clear hs hB hW e0 e1 e2 e3 e4
  go_enter Try.func30, Try.ntmps30
  go_wp2
  rw [← HV.out]
  exact ret_scr rfl rfl rfl (Lib.cell_of_heap H0.out 0) (Lib.cell_of_heap H0.out 1) ⟨_, _, rfl, hid7 HW.out⟩
/-- Four blocks in a row. -/
theorem four_new (w : World) (o0 o1 o2 o3 : Obj) : ∃ W, W = (((w.alloc o0).alloc o1).alloc o2).alloc o3 ∧ W.heap[w.heap.size]? = (w.alloc o0).heap[w.heap.size]? ∧ W.heap[w.heap.size + 1]? = ((w.alloc o0).alloc o1).heap[(w.alloc o0).heap.size]? ∧ W.heap[w.heap.size + 1 + 1]? = (((w.alloc o0).alloc o1).alloc o2).heap[((w.alloc o0).alloc o1).heap.size]? ∧ W.heap[w.heap.size + 1 + 1 + 1]? = ((((w.alloc o0).alloc o1).alloc o2).alloc o3).heap[(((w.alloc o0).alloc o1).alloc o2).heap.size]? ∧ Below w.heap.size w W := by
  have s1 := World.size_alloc w o0
  have s2 := World.size_alloc (w.alloc o0) o1
  have s3 := World.size_alloc ((w.alloc o0).alloc o1) o2
  refine ⟨_, rfl, ?_, ?_, ?_, ?_, ?_⟩
  · rw [Below.heap_alloc _ _ _ (by omega), Below.heap_alloc _ _ _ (by omega), Below.heap_alloc _ _ _ (by omega)]
  · rw [s1, Below.heap_alloc _ _ _ (by omega), Below.heap_alloc _ _ _ (by omega)]
  · rw [s2, s1, Below.heap_alloc _ _ _ (by omega)]
  · rw [s3, s2, s1]
  · exact ((((Below.refl _ w).alloc (Nat.le_refl _) _).alloc (by omega) _).alloc (by omega) _).alloc (by omega) _
theorem SlAt.below {W W' : World} {a : Option Addr} {R : List (List Int)} (h : SlAt W a R) (hb : Below W.heap.size W W') : SlAt W' a R := by
  rcases h with h | ⟨b, e, h⟩
  · exact .inl h
  · refine .inr ⟨b, e, fun j hj => ?_⟩
    obtain ⟨aj, cj, h1, h2⟩ := h j hj
    exact ⟨aj, cj, (hb.cell (World.block_lt_of_cell? W _ h1)).trans h1, h2.below hb⟩
def sqR : List (List Int) := [[], [1], [1, 1], [1]]
set_option maxRecDepth 100000 in
theorem stacks_lit (W : World) (a : Option Addr) (c : Nat) (h : SlAt W a sqR) :
    Calls Try.prog 11 #[.slice a 4 c, .slice (some ⟨W.heap.size + 1 + 1 + 1, 0, none⟩) 4 4] ((((W.alloc (.cells #[.int .i64 1] 3)).alloc (.cells #[.int .i64 1, .int .i64 1] 3)).alloc (.cells #[.int .i64 1] 3)).alloc (.cells #[.slice none 0 0, .slice (some ⟨W.heap.size, 0, none⟩) 1 1, .slice (some ⟨W.heap.size + 1, 0, none⟩) 2 2, .slice (some ⟨W.heap.size + 1 + 1, 0, none⟩) 1 1] 35)) fun e w' => e = .returned (.bool true) ∧ Below W.heap.size W w' := by
  obtain ⟨V, hV, e0, e1, e2, e3, hB⟩ := four_new W (.cells #[.int .i64 1] 3) (.cells #[.int .i64 1, .int .i64 1] 3) (.cells #[.int .i64 1] 3) (.cells #[.slice none 0 0, .slice (some ⟨W.heap.size, 0, none⟩) 1 1, .slice (some ⟨W.heap.size + 1, 0, none⟩) 2 2, .slice (some ⟨W.heap.size + 1 + 1, 0, none⟩) 1 1] 35)
  rw [heap_alloc_new] at e0 e1 e2 e3
  rw [← hV]
  have hlit : RsAt V.cell? (some ⟨W.heap.size + 1 + 1 + 1, 0, none⟩) sqR := by
    refine .inr ⟨_, 0, rfl, fun j hj => ?_⟩
    have hj4 : j = 0 ∨ j = 1 ∨ j = 2 ∨ j = 3 := by simp [sqR] at hj; omega
    rcases hj4 with rfl | rfl | rfl | rfl
    · exact ⟨none, 0, by rw [Lib.cell_of_heap e3]; rfl, .inl rfl⟩
    · refine ⟨_, 1, by rw [Lib.cell_of_heap e3]; rfl, .inr ⟨_, 0, rfl, fun i hi => ?_⟩⟩
      have hi0 : i = 0 := by simp [sqR] at hi; omega
      subst hi0
      rw [Lib.cell_of_heap e0]; rfl
    · refine ⟨_, 2, by rw [Lib.cell_of_heap e3]; rfl, .inr ⟨_, 0, rfl, fun i hi => ?_⟩⟩
      have hi0 : i = 0 ∨ i = 1 := by simp [sqR] at hi; omega
      rcases hi0 with rfl | rfl
      · rw [Lib.cell_of_heap e1]; rfl
      · rw [Lib.cell_of_heap e1]; rfl
    · refine ⟨_, 1, by rw [Lib.cell_of_heap e3]; rfl, .inr ⟨_, 0, rfl, fun i hi => ?_⟩⟩
      have hi0 : i = 0 := by simp [sqR] at hi; omega
      subst hi0
      rw [Lib.cell_of_heap e2]; rfl
  have hb : ∀ r ∈ sqR, r.length ≤ 100000 := by decide
  refine (lstacks_any sqR sqR a _ c 4 4 4 rfl rfl (by omega) (by omega) hb hb V (h.rs.keep fun x v hh => (hB.cell (World.block_lt_of_cell? W x hh)).trans hh) hlit).mono fun e w' ⟨h1, k, h2⟩ => ?_
  rw [h2]
  exact ⟨by rw [h1]; simp, below_draws2 hB k⟩
theorem ints_lit (W : World) (a : Option Addr) (c : Nat) (h : NsAt W.cell? a [2]) :
    Calls Try.prog 17 #[.slice a 1 c, .slice (some ⟨W.heap.size, 0, none⟩) 1 1] (W.alloc (.cells #[.int .i64 2] 3)) fun e w' => e = .returned (.bool true) ∧ Below W.heap.size W w' := by
  have b1 := (Below.refl _ W).alloc (Nat.le_refl _) (.cells #[.int .i64 2] 3)
  refine (lints_any a _ c 1 1 1 [2] [2] rfl rfl _ (h.keep fun x v hh => (b1.cell (World.block_lt_of_cell? W x hh)).trans hh) (ns_one_new W 2) (by omega) (by omega)).mono fun e w' ⟨h1, k, h2⟩ => ?_
  rw [h2]
  exact ⟨by rw [h1]; simp, below_draws2 b1 k⟩
set_option maxRecDepth 100000 in
set_option maxHeartbeats 1000000 in
theorem knows7_any (w : World) : Calls Try.prog 14 #[] w fun e w' => e = .returned (.bool true) ∧ Below w.heap.size w w' := by
  have hC : ∀ W v0 v1, ScIs W.cell? sqS v0 v1 → Calls Try.prog 9 #[.agg #[v0, v1], .int .i64 0] W fun e w' => ∃ a c, e = .returned (.tuple #[.slice a 4 c, .int .i64 0]) ∧ Hid (SlAt w' a sqR) ∧ Hid (Below W.heap.size W w') := fun W v0 v1 h => (check7_any sqS v0 v1 0 W h sq_fits).mono fun e w' ⟨a, c, h1, h2, h3⟩ => by
    rw [sq_check] at h1 h2
    exact ⟨a, c, h1, hid7 h2, hid7 h3⟩
  have hA : ∀ W v0 v1, ScIs W.cell? sqS v0 v1 → Calls Try.prog 15 #[.agg #[v0, v1]] W fun e w' => ∃ a c, e = .returned (.tuple #[.slice a 1 c, .int .i64 0]) ∧ Hid (NsAt w'.cell? a [2]) ∧ Hid (Below W.heap.size W w') := fun W v0 v1 h => (all7_any sqS v0 v1 W h sq_fits).mono fun e w' ⟨a, c, h1, h2, h3⟩ => by
    rw [sq_all] at h1 h2
    exact ⟨a, c, h1, hid7 h2, hid7 h3⟩
  have HC := hid7 hC
  have HA := hid7 hA
  have HQ := hid7 fun W => square_any W
  clear hC hA
  have HQ1 := hid7 (HQ.out w)
  go_enter Try.func14, Try.ntmps14
  go_wp2_with (first
    | (go_at_call 30; first
      | (refine HQ1.out.mono ?_; clear HQ1; rintro e w1 ⟨v0, v1, rfl, K1⟩; have X1 := hid7 (HC.out w1 v0 v1 K1.out.1); clear HC)
      | (refine HQ2.out.mono ?_; clear HQ2; rintro e w3 ⟨u0, u1, rfl, K3⟩; have X3 := hid7 (HA.out w3 u0 u1 K3.out.1); clear HA))
    | (go_at_call 9; refine X1.out.mono ?_; clear X1; rintro e w2 ⟨a2, c2, rfl, S2, B2⟩; have HQ2 := hid7 (HQ.out w2); clear HQ)
    | (go_at_call 15; refine X3.out.mono ?_; clear X3; rintro e w4 ⟨a4, c4, rfl, S4, B4⟩; have BB := hid7 ((B2.out.trans (K3.out.2.mono B2.out.size)).trans (B4.out.mono (Nat.le_trans B2.out.size K3.out.2.size))); have XS := hid7 (stacks_lit w4 a2 c2 ((S2.out.below K3.out.2).below B4.out)))
    | (go_at_call 12; refine (num7_any _ _).mono ?_; rintro e w9 ⟨rfl, w9e⟩; rw [w9e]; clear w9e)
    | (go_at_call 11; refine XS.out.mono ?_; clear XS; rintro e w5 ⟨rfl, b5⟩; have B5 := hid7 b5; have XI := hid7 (ints_lit w5 a4 c4 (S4.out.keep fun x v hh => (b5.cell (World.block_lt_of_cell? w4 x hh)).trans hh)); clear b5)
    | (go_at_call 17; refine XI.out.mono ?_; clear XI; rintro e w6 ⟨rfl, b6⟩)
    | fail)
  go_ret
  have q1 := K1.out.2.trans (BB.out.mono K1.out.2.size)
  have q2 := q1.trans (B5.out.mono q1.size)
  exact ⟨rfl, q2.trans (b6.mono q2.size)⟩
end Go.Proofs.Ytbdlgdlejmcjbaa
namespace Go.Proofs.Ytbdlgdlejmcjbaa
open Go.RowKit
theorem cell_name4 (w : World) (k : Nat) (hk : k < 54) : (w.alloc (.cells #[.string ⟨#[]⟩, .string ⟨#[105, 110, 116]⟩, .string ⟨#[99, 111, 110, 115, 116]⟩, .string ⟨#[116, 114, 117, 101]⟩, .string ⟨#[102, 97, 108, 115, 101]⟩, .string ⟨#[100, 114, 111, 112]⟩, .string ⟨#[100, 117, 112]⟩, .string ⟨#[115, 119, 97, 112]⟩, .string ⟨#[111, 118, 101, 114]⟩, .string ⟨#[103, 101, 116]⟩, .string ⟨#[115, 101, 116]⟩, .string ⟨#[97, 100, 100]⟩, .string ⟨#[115, 117, 98]⟩, .string ⟨#[109, 117, 108]⟩, .string ⟨#[100, 105, 118]⟩, .string ⟨#[114, 101, 109]⟩, .string ⟨#[110, 101, 103]⟩, .string ⟨#[97, 110, 100]⟩, .string ⟨#[111, 114]⟩, .string ⟨#[120, 111, 114]⟩, .string ⟨#[105, 110, 118]⟩, .string ⟨#[115, 104, 108]⟩, .string ⟨#[115, 104, 114]⟩, .string ⟨#[101, 113]⟩, .string ⟨#[110, 101]⟩, .string ⟨#[108, 116]⟩, .string ⟨#[108, 101]⟩, .string ⟨#[103, 116]⟩, .string ⟨#[103, 101]⟩, .string ⟨#[98, 111, 116, 104]⟩, .string ⟨#[101, 105, 116, 104, 101, 114]⟩, .string ⟨#[110, 111, 116]⟩, .string ⟨#[108, 101, 110]⟩, .string ⟨#[106, 111, 105, 110]⟩, .string ⟨#[99, 117, 116]⟩, .string ⟨#[97, 116]⟩, .string ⟨#[115, 97, 109, 101]⟩, .string ⟨#[108, 101, 115, 115]⟩, .string ⟨#[112, 97, 99, 107]⟩, .string ⟨#[117, 110, 112, 97, 99, 107]⟩, .string ⟨#[111, 110, 101]⟩, .string ⟨#[108, 111, 97, 100]⟩, .string ⟨#[104, 97, 115]⟩, .string ⟨#[115, 97, 118, 101]⟩, .string ⟨#[119, 105, 112, 101]⟩, .string ⟨#[110, 101, 120, 116]⟩, .string ⟨#[101, 109, 105, 116]⟩, .string ⟨#[97, 98, 111, 114, 116]⟩, .string ⟨#[105, 102]⟩, .string ⟨#[101, 108, 115, 101]⟩, .string ⟨#[101, 110, 100]⟩, .string ⟨#[108, 111, 111, 112]⟩, .string ⟨#[108, 101, 97, 118, 101]⟩, .string ⟨#[99, 97, 108, 108]⟩] 9)).cell? ⟨w.heap.size, k, none⟩ = some (.string ⟨(nameTab.getD k []).toArray⟩) := by
  rw [cell_of_row _ _ k _ _ (0, 0) (heap_alloc_new w _)]
  have e : (#[.string ⟨#[]⟩, .string ⟨#[105, 110, 116]⟩, .string ⟨#[99, 111, 110, 115, 116]⟩, .string ⟨#[116, 114, 117, 101]⟩, .string ⟨#[102, 97, 108, 115, 101]⟩, .string ⟨#[100, 114, 111, 112]⟩, .string ⟨#[100, 117, 112]⟩, .string ⟨#[115, 119, 97, 112]⟩, .string ⟨#[111, 118, 101, 114]⟩, .string ⟨#[103, 101, 116]⟩, .string ⟨#[115, 101, 116]⟩, .string ⟨#[97, 100, 100]⟩, .string ⟨#[115, 117, 98]⟩, .string ⟨#[109, 117, 108]⟩, .string ⟨#[100, 105, 118]⟩, .string ⟨#[114, 101, 109]⟩, .string ⟨#[110, 101, 103]⟩, .string ⟨#[97, 110, 100]⟩, .string ⟨#[111, 114]⟩, .string ⟨#[120, 111, 114]⟩, .string ⟨#[105, 110, 118]⟩, .string ⟨#[115, 104, 108]⟩, .string ⟨#[115, 104, 114]⟩, .string ⟨#[101, 113]⟩, .string ⟨#[110, 101]⟩, .string ⟨#[108, 116]⟩, .string ⟨#[108, 101]⟩, .string ⟨#[103, 116]⟩, .string ⟨#[103, 101]⟩, .string ⟨#[98, 111, 116, 104]⟩, .string ⟨#[101, 105, 116, 104, 101, 114]⟩, .string ⟨#[110, 111, 116]⟩, .string ⟨#[108, 101, 110]⟩, .string ⟨#[106, 111, 105, 110]⟩, .string ⟨#[99, 117, 116]⟩, .string ⟨#[97, 116]⟩, .string ⟨#[115, 97, 109, 101]⟩, .string ⟨#[108, 101, 115, 115]⟩, .string ⟨#[112, 97, 99, 107]⟩, .string ⟨#[117, 110, 112, 97, 99, 107]⟩, .string ⟨#[111, 110, 101]⟩, .string ⟨#[108, 111, 97, 100]⟩, .string ⟨#[104, 97, 115]⟩, .string ⟨#[115, 97, 118, 101]⟩, .string ⟨#[119, 105, 112, 101]⟩, .string ⟨#[110, 101, 120, 116]⟩, .string ⟨#[101, 109, 105, 116]⟩, .string ⟨#[97, 98, 111, 114, 116]⟩, .string ⟨#[105, 102]⟩, .string ⟨#[101, 108, 115, 101]⟩, .string ⟨#[101, 110, 100]⟩, .string ⟨#[108, 111, 111, 112]⟩, .string ⟨#[108, 101, 97, 118, 101]⟩, .string ⟨#[99, 97, 108, 108]⟩] : Array Value) = (nameTab.map fun x => .string ⟨x.toArray⟩).toArray := rfl
  rw [e]
  have hl : k < nameTab.length := hk
  simp [List.getD, hl]
set_option maxHeartbeats 1000000 in
theorem rname4 (n : Int) (w : World) : Calls Try.prog 51 #[.int .i64 n] w fun e w' => e = .returned (.string ⟨(nameT n).toArray⟩) ∧ Below w.heap.size w w' := by
  by_cases h1 : n < 1
  · rw [show nameT n = [] from rowOf_none _ _ n (.inl h1)]
    go_enter Try.func51, Try.ntmps51
    go_wp2
    go_ret
    exact ⟨rfl, (Below.refl _ w).alloc (Nat.le_refl _) _⟩
  by_cases h2 : 53 < n
  · rw [show nameT n = [] from rowOf_none _ _ n (.inr h2)]
    go_enter Try.func51, Try.ntmps51
    go_wp2
    go_ret
    exact ⟨rfl, (Below.refl _ w).alloc (Nat.le_refl _) _⟩
  obtain ⟨k, rfl⟩ : ∃ k : Nat, n = k := ⟨n.toNat, by omega⟩
  have hk : k < 54 := by omega
  have hc := cell_name4 w k hk
  rw [show nameT k = nameTab.getD k [] from by unfold nameT rowOf; rw [if_pos (by omega)]; simp]
  generalize nameTab.getD k [] = r at *
  go_enter Try.func51, Try.ntmps51
  go_wp2
  go_ret
  exact ⟨rfl, (Below.refl _ w).alloc (Nat.le_refl _) _⟩
set_option maxHeartbeats 1000000 in
theorem rtakes_of4 (n t : Int) (r : List UInt8) (w : World) (hN : Calls Try.prog 51 #[.int .i64 n] w fun e w' => e = .returned (.string ⟨r.toArray⟩) ∧ Below w.heap.size w w') (hr : (r = [105, 110, 116] ∧ t = 1) ∨ (r = [99, 111, 110, 115, 116] ∧ t = 2) ∨ (r = [103, 101, 116] ∧ t = 3) ∨ (r = [115, 101, 116] ∧ t = 3) ∨ (r = [108, 111, 111, 112] ∧ t = 4) ∨ (r = [99, 97, 108, 108] ∧ t = 5) ∨ (t = 0 ∧ r ≠ [105, 110, 116] ∧ r ≠ [99, 111, 110, 115, 116] ∧ r ≠ [103, 101, 116] ∧ r ≠ [115, 101, 116] ∧ r ≠ [108, 111, 111, 112] ∧ r ≠ [99, 97, 108, 108])) : Calls Try.prog 75 #[.int .i64 n] w fun e w' => e = .returned (.int .i64 t) ∧ Below w.heap.size w w' := by
  rcases hr with ⟨rfl, rfl⟩ | ⟨rfl, rfl⟩ | ⟨rfl, rfl⟩ | ⟨rfl, rfl⟩ | ⟨rfl, rfl⟩ | ⟨rfl, rfl⟩ | ⟨rfl, h1, h2, h3, h4, h5, h6⟩
  iterate 6
    · as_aux_lemma =>
      go_enter Try.func75, Try.ntmps75
      go_wp2_with (go_at_call 51; refine hN.mono ?_; rintro e w2 ⟨rfl, hb2⟩)
      go_ret
      exact ⟨rfl, hb2⟩
  · rw [← beq_eq_false_iff_ne] at h1 h2 h3 h4 h5 h6
    go_enter Try.func75, Try.ntmps75
    go_wp2_with (go_at_call 51; refine hN.mono ?_; rintro e w2 ⟨rfl, hb2⟩)
    go_ret
    exact ⟨rfl, hb2⟩
theorem rtakes4 (n : Int) (w : World) : Calls Try.prog 75 #[.int .i64 n] w fun e w' => e = .returned (.int .i64 (takesT n)) ∧ Below w.heap.size w w' := by
  refine rtakes_of4 n _ _ w (rname4 n w) ?_
  by_cases h : n < 1 ∨ 53 < n
  · rw [show takesT n = 0 from rowOf_none _ _ n h, show nameT n = [] from rowOf_none _ _ n h]
    simp
  · obtain ⟨k, rfl⟩ : ∃ k : Nat, n = k := ⟨n.toNat, by omega⟩
    have hk : k < 54 := by omega
    have ht : takesT k = takesTab.getD k 0 := by unfold takesT rowOf; rw [if_pos (by omega)]; simp
    have hm : nameT k = nameTab.getD k [] := by unfold nameT rowOf; rw [if_pos (by omega)]; simp
    rw [ht, hm]
    have H : ∀ k : Fin 54, k.1 = 0 ∨ ((nameTab.getD k.1 [] = [105, 110, 116] ∧ takesTab.getD k.1 0 = 1) ∨ (nameTab.getD k.1 [] = [99, 111, 110, 115, 116] ∧ takesTab.getD k.1 0 = 2) ∨ (nameTab.getD k.1 [] = [103, 101, 116] ∧ takesTab.getD k.1 0 = 3) ∨ (nameTab.getD k.1 [] = [115, 101, 116] ∧ takesTab.getD k.1 0 = 3) ∨ (nameTab.getD k.1 [] = [108, 111, 111, 112] ∧ takesTab.getD k.1 0 = 4) ∨ (nameTab.getD k.1 [] = [99, 97, 108, 108] ∧ takesTab.getD k.1 0 = 5) ∨ (takesTab.getD k.1 0 = 0 ∧ nameTab.getD k.1 [] ≠ [105, 110, 116] ∧ nameTab.getD k.1 [] ≠ [99, 111, 110, 115, 116] ∧ nameTab.getD k.1 [] ≠ [103, 101, 116] ∧ nameTab.getD k.1 [] ≠ [115, 101, 116] ∧ nameTab.getD k.1 [] ≠ [108, 111, 111, 112] ∧ nameTab.getD k.1 [] ≠ [99, 97, 108, 108])) := by decide +kernel
    rcases H ⟨k, hk⟩ with h0 | h0
    · simp only at h0; omega
    · exact h0
theorem takes_same (n : Int) : takesT n = takesN n := by
  unfold takesT rowOf
  by_cases h : 1 ≤ n ∧ n ≤ 53
  · rw [if_pos h]
    have H : ∀ k : Fin 54, takesTab.getD k.1 0 = takesN (k.1 : Int) := by decide +kernel
    have := H ⟨n.toNat, by omega⟩
    simp only at this
    rw [this, show ((n.toNat : Nat) : Int) = n by omega]
  · rw [if_neg h]
    unfold takesN
    rw [if_neg (by omega), if_neg (by omega), if_neg (by omega), if_neg (by omega), if_neg (by omega), if_neg (by omega)]
end Go.Proofs.Ytbdlgdlejmcjbaa
