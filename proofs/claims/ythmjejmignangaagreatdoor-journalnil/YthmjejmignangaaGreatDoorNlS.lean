/- Layer 16: the document's disk of layer 15: one Write on an empty one, at a name that may be. -/
import Derived.Test.YthmjejmignangaaGreatDoorNlR
import Derived.Test.YthmjejmignangaaGreatDoorES
import Derived.Deep.Cut
import Derived.Deep.RegionHeld
import Derived.BigRegion
namespace Go.Proofs.YthmjejmignangaaGreatDoor
open Go.RowKit
/-- Behind the cell's making: the file's cells are one, at B. -/
def Mc17 (Q B c : Nat) (W : World) : Prop := W.cell? ⟨Q, 1, none⟩ = some (.slice (some ⟨B, 0, none⟩) 1 c) ∧ W.cell? ⟨B, 2, none⟩ = some (sv []) ∧ W.cell? ⟨B, 3, none⟩ = some (.bool false) ∧ W.cell? ⟨B, 5, none⟩ = some (.bool false) ∧ (∀ k, W.frozen? ⟨B, k, none⟩ = false) ∧ Q < W.heap.size ∧ B < W.heap.size
def Mid17 (g Q B c : Nat) (V X : World) : Prop := Mc17 Q B c X ∧ Q ≠ B ∧ g < Q ∧ g < B ∧ Below g V X
theorem Mc17.below {Q B c : Nat} {W W' : World} (h : Mc17 Q B c W) (k : Below W.heap.size W W') : Mc17 Q B c W' := by
  obtain ⟨h1, h2, h3, h4, h5, h6, h7⟩ := h
  exact ⟨(k.cell (p := ⟨Q, 1, none⟩) h6).trans h1, (k.cell (p := ⟨B, 2, none⟩) h7).trans h2, (k.cell (p := ⟨B, 3, none⟩) h7).trans h3, (k.cell (p := ⟨B, 5, none⟩) h7).trans h4, fun j => by rw [← h5 j]; unfold World.frozen?; rw [k.block B h7], Nat.lt_of_lt_of_le h6 k.size, Nat.lt_of_lt_of_le h7 k.size⟩
theorem mid17 {g Q c c2 : Nat} {V U X : World} (h : Mid16 g Q c V U) (hX : X = (((U.setCell ⟨Q, 1, none⟩ (.slice (some ⟨U.heap.size + 1, 0, none⟩) 1 c2)).alloc (.cells #[.string ⟨#[]⟩, .bool false, .string ⟨#[]⟩, .bool false, .bool false, .bool false] 105)).alloc (.cells (#[sv [], .bool false, sv [], .bool false, .bool false, .bool false] ++ Builtin.zeroCells #[.string ⟨#[]⟩, .bool false, .string ⟨#[]⟩, .bool false, .bool false, .bool false] (c2 - 1)) 105)).drew) : Mid17 g Q (U.heap.size + 1) c2 V X := by
  obtain ⟨h1, h2, h3, h4, h5, h6, h7⟩ := h
  subst hX
  obtain ⟨U2, hU2⟩ : ∃ U2, U2 = U.setCell ⟨Q, 1, none⟩ (.slice (some ⟨U.heap.size + 1, 0, none⟩) 1 c2) := ⟨_, rfl⟩
  have hs2 : U2.heap.size = U.heap.size := by rw [hU2]; exact World.size_setCell _ _ _
  have q1 : U2.cell? ⟨Q, 1, none⟩ = some (.slice (some ⟨U.heap.size + 1, 0, none⟩) 1 c2) := by rw [hU2]; exact World.cell?_setCell_same _ _ _ h2
  rw [← hU2]
  have hn := heap_alloc_new (U2.alloc (.cells #[.string ⟨#[]⟩, .bool false, .string ⟨#[]⟩, .bool false, .bool false, .bool false] 105)) (.cells (#[sv [], .bool false, sv [], .bool false, .bool false, .bool false] ++ Builtin.zeroCells #[.string ⟨#[]⟩, .bool false, .string ⟨#[]⟩, .bool false, .bool false, .bool false] (c2 - 1)) 105)
  simp only [World.size_alloc, hs2] at hn
  have hb : Below U2.heap.size U2 ((U2.alloc (.cells #[.string ⟨#[]⟩, .bool false, .string ⟨#[]⟩, .bool false, .bool false, .bool false] 105)).alloc (.cells (#[sv [], .bool false, sv [], .bool false, .bool false, .bool false] ++ Builtin.zeroCells #[.string ⟨#[]⟩, .bool false, .string ⟨#[]⟩, .bool false, .bool false, .bool false] (c2 - 1)) 105)).drew := (((Below.refl _ U2).alloc (Nat.le_refl _) _).alloc (by simp) _).drew
  have hcell : ∀ (k : Nat) (v : Value), (#[sv [], .bool false, sv [], .bool false, .bool false, .bool false] : Array Value)[k]? = some v → (((U2.alloc (.cells #[.string ⟨#[]⟩, .bool false, .string ⟨#[]⟩, .bool false, .bool false, .bool false] 105)).alloc (.cells (#[sv [], .bool false, sv [], .bool false, .bool false, .bool false] ++ Builtin.zeroCells #[.string ⟨#[]⟩, .bool false, .string ⟨#[]⟩, .bool false, .bool false, .bool false] (c2 - 1)) 105)).drew).cell? ⟨U.heap.size + 1, k, none⟩ = some v := fun k v hk => by
    have hk2 : k < 6 := (Array.getElem?_eq_some_iff.1 hk).1
    exact (Lib.cell_of_heap hn k).trans (by rw [Array.getElem?_append_left (by simpa using hk2)]; exact hk)
  refine ⟨⟨(hb.cell (p := ⟨Q, 1, none⟩) (by rw [hs2]; exact h4)).trans q1, hcell 2 _ rfl, hcell 3 _ rfl, hcell 5 _ rfl, fun k => Lib.frozen_of_heap hn k, by have := hb.size; omega, lt_of_block hn⟩, by omega, h6, by omega, ?_⟩
  refine h7.trans ?_
  have hset : Below g U U2 := by rw [hU2]; exact (Below.refl g U).setCell (Nat.le_of_lt h6) _
  exact hset.trans (hb.mono (by omega))
theorem Mid17.drew {g Q B c : Nat} {V X : World} (h : Mid17 g Q B c V X) : Mc17 Q B c X.drew ∧ Mid17 g Q B c V X.drew := by
  obtain ⟨h1, h2, h3, h4, h5⟩ := h
  have h6 := h1.below ((Below.refl _ X).drew)
  exact ⟨h6, h6, h2, h3, h4, h5.drew⟩
theorem mid17_pad {g Q B c : Nat} {V X : World} (h : Mid17 g Q B c V X) : Calls Tryz.prog 41 #[.string ⟨#[]⟩] X.drew fun e W => e = .returned (sv (padB [])) ∧ Mc17 Q B c W ∧ Hid (Mid17 g Q B c V W) :=
  (pad15_any [] X.drew (by simp)).mono fun e W ⟨h1, h2⟩ => by
    obtain ⟨q1, q2, q3, q4, q5⟩ := h.drew.2
    have q6 := q1.below h2
    exact ⟨h1, q6, hidb ⟨q6, q2, q3, q4, q5.trans (h2.mono (by have := q1.2.2.2.2.2.1; omega))⟩⟩
set_option maxHeartbeats 4000000 in
set_option maxRecDepth 100000 in
theorem rwrite_yes16 (g : Nat) (s : Bt) (w : World) (hs : s.length ≤ 9223372036854775807) (hn : nameB s = true) (h : D0 g w) : Calls Tryz.prog 20 #[.pointer (some ⟨g, 0, none⟩), sv s, .int .i64 0, .string ⟨#[]⟩] w fun e w' => e = .returned (.int .i64 0) ∧ Below g w w' := by
  have HD := hidb h
  obtain ⟨h0, h1, h2, h3, h4, h5⟩ := h
  have HF := hidb (rfind16 g s w h4 h3)
  have HR := hidb (right_any16 s w hs)
  rw [hn] at HR
  go_enter Tryz.func20, Tryz.ntmps20
  go_upto_region 9 with (first
    | (go_at_call 37; refine HF.out.mono ?_; clear HF; rintro e w1 ⟨rfl, e1⟩; obtain rfl := e1.symm)
    | (go_at_call 38; refine HR.out.mono ?_; clear HR; rintro e w2 ⟨rfl, e2⟩; obtain rfl := e2.symm)
    | fail)
  have HU : Hid (∀ W, W = w.drew → _) := hidb fun W e => rused16 g W (by rw [e]; exact h4) (by rw [e]; exact h3)
  have HO : Hid (∀ W, W = w.drew → _) := hidb fun W e => roperate16 g W (by rw [e]; exact h1)
  have hz : Below w.heap.size w w.drew := (Below.refl _ w).drew
  have HDd := hidb (d0_below HD.out hz)
  go_region_held (fun W => W.cell? ⟨g, 0, none⟩ = some (.int .i64 10) ∧ W.cell? ⟨g, 3, none⟩ = some (.slice none 0 0) ∧ g < W.heap.size) (first | exact ⟨HDd.out.1, HDd.out.2.2.2.1, HDd.out.2.2.2.2.1⟩ | go_keep) (first | (go_at_call 39; refine (HU.out _ rfl).mono ?_; rintro e w3 ⟨rfl, e3⟩; obtain rfl := e3.symm) | fail)
  go_upto_region 14 with (first
    | (go_at_call 40; refine (HO.out _ rfl).mono ?_; rintro e w4 ⟨rfl, e4⟩; obtain rfl := e4.symm)
    | fail)
  obtain ⟨V, hV⟩ : ∃ V, V = w.drew := ⟨_, rfl⟩
  rw [← hV] at hz HDd ⊢
  obtain ⟨v0, v1, v2, v3, v4, v5⟩ := HDd.out
  clear HO HU HDd hV h0 h1 h2 h3 h4 h5
  have hnc : (281474976710656 < Builtin.nextslicecap 1 0 * Tryz.t102.bytes) = False := by
    simp only [eq_iff_iff, iff_false]
    decide +kernel
  have b1 : (((V.alloc (.cells #[sv s, .slice none 0 0] 102)).alloc (.cells #[] 102)).drew).cell? ⟨V.heap.size, 0, none⟩ = some (sv s) ∧ (((V.alloc (.cells #[sv s, .slice none 0 0] 102)).alloc (.cells #[] 102)).drew).cell? ⟨V.heap.size, 1, none⟩ = some (.slice none 0 0) := by
    have h := (Below.heap_alloc (V.alloc (.cells #[sv s, .slice none 0 0] 102)) (.cells #[] 102) V.heap.size (by simp)).trans (heap_alloc_new V _)
    exact ⟨Lib.cell_of_heap h 0, Lib.cell_of_heap h 1⟩
  have b2 : (((V.alloc (.cells #[] 102)).alloc (.cells #[sv s, .slice none 0 0] 102)).drew).cell? ⟨V.heap.size + 1, 0, none⟩ = some (sv s) ∧ (((V.alloc (.cells #[] 102)).alloc (.cells #[sv s, .slice none 0 0] 102)).drew).cell? ⟨V.heap.size + 1, 1, none⟩ = some (.slice none 0 0) := by
    have h := heap_alloc_new (V.alloc (.cells #[] 102)) (.cells #[sv s, .slice none 0 0] 102)
    rw [World.size_alloc] at h
    exact ⟨Lib.cell_of_heap h 0, Lib.cell_of_heap h 1⟩
  obtain ⟨b10, b11⟩ := b1
  obtain ⟨b20, b21⟩ := b2
  have hq1 : 1 ≤ (Question.appendCap 1 0 102).cut (V.tape (V.drawn + 1) (Question.appendCap 1 0 102)) := Nat.le_add_right _ _
  have hq2 : 1 + 0 ≤ (Question.appendCap 1 0 102).cut (V.tape (V.drawn + 1) (Question.appendCap 1 0 102)) := Nat.le_add_right _ _
  have hq3 : (1 : Int) ≤ ((Question.appendCap 1 0 102).cut (V.tape (V.drawn + 1) (Question.appendCap 1 0 102)) : Nat) := by omega
  have hY : ∀ A B C : Obj, D0 g (((V.alloc A).alloc B).alloc C).drew.drew := fun A B C => d0_below ⟨v0, v1, v2, v3, v4, v5⟩ ((((Below.refl _ V).alloc (Nat.le_refl _) A).alloc (by simp) B).alloc (by simp; omega) C).drew.drew
  have hYf : ∀ A B C : Obj, (((V.alloc A).alloc B).alloc C).drew.drew.frozen? ⟨g, 3, none⟩ = false := fun A B C => (hY A B C).2.2.2.2.2 3
  have hYc : ∀ A B C : Obj, (((V.alloc A).alloc B).alloc C).drew.drew.cell? ⟨g, 3, none⟩ = some (.slice none 0 0) := fun A B C => (hY A B C).2.2.2.1
  have hYd : ∀ A B C : Obj, (((V.alloc A).alloc B).alloc C).cell? ⟨g, 3, none⟩ = some (.slice none 0 0) := fun A B C => (hY A B C).2.2.2.1
  have hYe : ∀ A B C : Obj, (((V.alloc A).alloc B).alloc C).frozen? ⟨g, 3, none⟩ = false := fun A B C => (hY A B C).2.2.2.2.2 3
  clear hY
  go_region
  all_goals generalize (Question.appendCap 1 0 102).cut (V.tape (V.drawn + 1) (Question.appendCap 1 0 102)) = c at *
  · have HM := mid16 s ⟨v0, v1, v2, v3, v4, v5⟩ (.cells #[] 102) (.cells #[sv s, .slice none 0 0] 102) c (Builtin.zeroCells #[.string ⟨#[]⟩, .slice none 0 0] (c - 1))
    generalize ((((V.alloc (.cells #[] 102)).alloc (.cells #[sv s, .slice none 0 0] 102)).alloc (.cells (#[sv s, .slice none 0 0] ++ Builtin.zeroCells #[.string ⟨#[]⟩, .slice none 0 0] (c - 1)) 102)).setCell ⟨g, 3, none⟩ (.slice (some ⟨V.heap.size + 1 + 1, 0, none⟩) 1 c)).drew.drew = U at HM ⊢
    generalize V.heap.size + 1 + 1 = Q at HM ⊢
    have HMh := hidb HM
    obtain ⟨m1, m2, m3, m4, m5, m6, m7⟩ := HM
    clear b10 b11 b20 b21 hq1 hq2 hq3 hYf hYc hYd hYe v0 v1 v2 v3 v4 v5
    go_upto_region 17 with fail
    have hnc2 : (281474976710656 < Builtin.nextslicecap 1 0 * Tryz.t105.bytes) = False := by
      simp only [eq_iff_iff, iff_false]
      decide +kernel
    have l0 := heap_alloc_new U (.cells #[sv [], .bool false, sv [], .bool false, .bool false, .bool false] 105)
    have l1 := fun k => Lib.cell_of_heap l0 k
    have lc0 : (U.alloc (.cells #[sv [], .bool false, sv [], .bool false, .bool false, .bool false] 105)).cell? ⟨U.heap.size, 0, none⟩ = some (sv []) := l1 0
    have lc1 : (U.alloc (.cells #[sv [], .bool false, sv [], .bool false, .bool false, .bool false] 105)).cell? ⟨U.heap.size, 1, none⟩ = some (.bool false) := l1 1
    have lc2 : (U.alloc (.cells #[sv [], .bool false, sv [], .bool false, .bool false, .bool false] 105)).cell? ⟨U.heap.size, 2, none⟩ = some (sv []) := l1 2
    have lc3 : (U.alloc (.cells #[sv [], .bool false, sv [], .bool false, .bool false, .bool false] 105)).cell? ⟨U.heap.size, 3, none⟩ = some (.bool false) := l1 3
    have lc4 : (U.alloc (.cells #[sv [], .bool false, sv [], .bool false, .bool false, .bool false] 105)).cell? ⟨U.heap.size, 4, none⟩ = some (.bool false) := l1 4
    have lc5 : (U.alloc (.cells #[sv [], .bool false, sv [], .bool false, .bool false, .bool false] 105)).cell? ⟨U.heap.size, 5, none⟩ = some (.bool false) := l1 5
    have hqa : 1 ≤ (Question.appendCap 1 0 105).cut (U.tape U.drawn (Question.appendCap 1 0 105)) := Nat.le_add_right _ _
    have hqb : 1 + 0 ≤ (Question.appendCap 1 0 105).cut (U.tape U.drawn (Question.appendCap 1 0 105)) := Nat.le_add_right _ _
    have hqc : (1 : Int) ≤ ((Question.appendCap 1 0 105).cut (U.tape U.drawn (Question.appendCap 1 0 105)) : Nat) := by omega
    have hBf : ∀ (A B : Obj) (W : World), Below U.heap.size U W → W.frozen? ⟨Q, 1, none⟩ = false := fun A B W h => by
      rw [← m5 1]; unfold World.frozen?; rw [h.block Q m4]
    have hB2 : ∀ A B : Obj, Below U.heap.size U (((U.alloc A).alloc B)) := fun A B => ((Below.refl _ U).alloc (Nat.le_refl _) A).alloc (by simp) B
    have hc2 : ∀ A B : Obj, ((U.alloc A).alloc B).cell? ⟨Q, 1, none⟩ = some (.slice none 0 0) ∧ ((U.alloc A).alloc B).frozen? ⟨Q, 1, none⟩ = false ∧ ((U.alloc A).alloc B).drew.cell? ⟨Q, 1, none⟩ = some (.slice none 0 0) ∧ ((U.alloc A).alloc B).drew.frozen? ⟨Q, 1, none⟩ = false := fun A B => ⟨((hB2 A B).cell (p := ⟨Q, 1, none⟩) m4).trans m2, hBf A B _ (hB2 A B), ((hB2 A B).drew.cell (p := ⟨Q, 1, none⟩) m4).trans m2, hBf A B _ (hB2 A B).drew⟩
    have g1 := fun A B => (hc2 A B).1
    have g2 := fun A B => (hc2 A B).2.1
    have g3 := fun A B => (hc2 A B).2.2.1
    have g4 := fun A B => (hc2 A B).2.2.2
    clear hc2 hB2 hBf l1 l0
    go_upto_region 18 with fail
    obtain ⟨X, hX⟩ : ∃ X, X = (((U.setCell ⟨Q, 1, none⟩ (.slice (some ⟨U.heap.size + 1, 0, none⟩) 1 ((Question.appendCap 1 0 105).cut (U.tape U.drawn (Question.appendCap 1 0 105))))).alloc (.cells #[.string ⟨#[]⟩, .bool false, .string ⟨#[]⟩, .bool false, .bool false, .bool false] 105)).alloc (.cells (#[sv [], .bool false, sv [], .bool false, .bool false, .bool false] ++ Builtin.zeroCells #[.string ⟨#[]⟩, .bool false, .string ⟨#[]⟩, .bool false, .bool false, .bool false] ((Question.appendCap 1 0 105).cut (U.tape U.drawn (Question.appendCap 1 0 105)) - 1)) 105)).drew := ⟨_, rfl⟩
    have HN := hidb (mid17 HMh.out hX)
    rw [← hX]
    generalize (Question.appendCap 1 0 105).cut (U.tape U.drawn (Question.appendCap 1 0 105)) = c2 at *
    generalize U.heap.size + 1 = B at HN
    clear hX lc0 lc1 lc2 lc3 lc4 lc5 hqa hqb hqc g1 g2 g3 g4 m1 m2 m3 m4 m5 m6 m7 HMh hnc2 hnc
    have HP := hidb (mid17_pad HN.out)
    obtain ⟨n1, n2⟩ := HN.out.drew
    clear HN
    have HSt : Hid (∀ W : World, Mc17 Q B c2 W → ((W.setCell ⟨B, 2, none⟩ (sv (padB []))).setCell ⟨B, 3, none⟩ (.bool false)).cell? ⟨Q, 1, none⟩ = some (.slice (some ⟨B, 0, none⟩) 1 c2) ∧ Q < ((W.setCell ⟨B, 2, none⟩ (sv (padB []))).setCell ⟨B, 3, none⟩ (.bool false)).heap.size) := hidb fun W h => ⟨((World.cell?_setCell_other _ _ _ _ (by simp)).trans (World.cell?_setCell_other _ _ _ _ (by simp))).trans h.1, by rw [World.size_setCell, World.size_setCell]; exact h.2.2.2.2.2.1⟩
    go_region_held (fun W => W.cell? ⟨Q, 1, none⟩ = some (.slice (some ⟨B, 0, none⟩) 1 c2) ∧ Q < W.heap.size) (first | exact ⟨n1.1, n1.2.2.2.2.2.1⟩ | exact hS1 | exact hS2 | go_keep) (first | (go_at_call 41; refine HP.out.mono ?_; clear HP; rintro e W ⟨rfl, hW, hBW⟩; obtain ⟨w1, w2, w3, w5, w6, w7, w8⟩ := hW; have hS1 := And.intro w1 w7; have hS2 := HSt.out W ⟨w1, w2, w3, w5, w6, w7, w8⟩) | fail)
    obtain ⟨u1, u2⟩ := hS2
    have u3 : ((W.setCell ⟨B, 2, none⟩ (.string ⟨List.toArray (padB [])⟩)).setCell ⟨B, 3, none⟩ (.bool false)).cell? ⟨B, 5, none⟩ = some (.bool false) := ((World.cell?_setCell_other _ _ _ _ (by simp)).trans (World.cell?_setCell_other _ _ _ _ (by simp))).trans w5
    have u4 : ((W.setCell ⟨B, 2, none⟩ (.string ⟨List.toArray (padB [])⟩)).setCell ⟨B, 3, none⟩ (.bool false)).frozen? ⟨B, 5, none⟩ = false := by rw [World.frozen?_setCell, World.frozen?_setCell]; exact w6 5
    have HZ : Hid (∀ v1 v2 v3, Below g w (((W.setCell ⟨B, 2, none⟩ v1).setCell ⟨B, 3, none⟩ v2).setCell ⟨B, 5, none⟩ v3)) := hidb fun v1 v2 v3 => by
      obtain ⟨_, _, _, q4, q5⟩ := hBW.out
      have hg := HD.out.2.2.2.2.1
      exact (((((hz.mono (Nat.le_of_lt hg)).trans q5).setCell (Nat.le_of_lt q4) _).setCell (Nat.le_of_lt q4) _).setCell (Nat.le_of_lt q4) _)
    clear n1 n2 w1 w2 w3 w5 w6 hBW HD hz HSt hS1
    go_wp2_with fail
    go_ret
    exact ⟨rfl, HZ.out _ _ _⟩
  · have HM := mid16 s ⟨v0, v1, v2, v3, v4, v5⟩ (.cells #[sv s, .slice none 0 0] 102) (.cells #[] 102) c (Builtin.zeroCells #[.string ⟨#[]⟩, .slice none 0 0] (c - 1))
    generalize ((((V.alloc (.cells #[sv s, .slice none 0 0] 102)).alloc (.cells #[] 102)).alloc (.cells (#[sv s, .slice none 0 0] ++ Builtin.zeroCells #[.string ⟨#[]⟩, .slice none 0 0] (c - 1)) 102)).setCell ⟨g, 3, none⟩ (.slice (some ⟨V.heap.size + 1 + 1, 0, none⟩) 1 c)).drew.drew = U at HM ⊢
    generalize V.heap.size + 1 + 1 = Q at HM ⊢
    have HMh := hidb HM
    obtain ⟨m1, m2, m3, m4, m5, m6, m7⟩ := HM
    clear b10 b11 b20 b21 hq1 hq2 hq3 hYf hYc hYd hYe v0 v1 v2 v3 v4 v5
    go_upto_region 17 with fail
    have hnc2 : (281474976710656 < Builtin.nextslicecap 1 0 * Tryz.t105.bytes) = False := by
      simp only [eq_iff_iff, iff_false]
      decide +kernel
    have l0 := heap_alloc_new U (.cells #[sv [], .bool false, sv [], .bool false, .bool false, .bool false] 105)
    have l1 := fun k => Lib.cell_of_heap l0 k
    have lc0 : (U.alloc (.cells #[sv [], .bool false, sv [], .bool false, .bool false, .bool false] 105)).cell? ⟨U.heap.size, 0, none⟩ = some (sv []) := l1 0
    have lc1 : (U.alloc (.cells #[sv [], .bool false, sv [], .bool false, .bool false, .bool false] 105)).cell? ⟨U.heap.size, 1, none⟩ = some (.bool false) := l1 1
    have lc2 : (U.alloc (.cells #[sv [], .bool false, sv [], .bool false, .bool false, .bool false] 105)).cell? ⟨U.heap.size, 2, none⟩ = some (sv []) := l1 2
    have lc3 : (U.alloc (.cells #[sv [], .bool false, sv [], .bool false, .bool false, .bool false] 105)).cell? ⟨U.heap.size, 3, none⟩ = some (.bool false) := l1 3
    have lc4 : (U.alloc (.cells #[sv [], .bool false, sv [], .bool false, .bool false, .bool false] 105)).cell? ⟨U.heap.size, 4, none⟩ = some (.bool false) := l1 4
    have lc5 : (U.alloc (.cells #[sv [], .bool false, sv [], .bool false, .bool false, .bool false] 105)).cell? ⟨U.heap.size, 5, none⟩ = some (.bool false) := l1 5
    have hqa : 1 ≤ (Question.appendCap 1 0 105).cut (U.tape U.drawn (Question.appendCap 1 0 105)) := Nat.le_add_right _ _
    have hqb : 1 + 0 ≤ (Question.appendCap 1 0 105).cut (U.tape U.drawn (Question.appendCap 1 0 105)) := Nat.le_add_right _ _
    have hqc : (1 : Int) ≤ ((Question.appendCap 1 0 105).cut (U.tape U.drawn (Question.appendCap 1 0 105)) : Nat) := by omega
    have hBf : ∀ (A B : Obj) (W : World), Below U.heap.size U W → W.frozen? ⟨Q, 1, none⟩ = false := fun A B W h => by
      rw [← m5 1]; unfold World.frozen?; rw [h.block Q m4]
    have hB2 : ∀ A B : Obj, Below U.heap.size U (((U.alloc A).alloc B)) := fun A B => ((Below.refl _ U).alloc (Nat.le_refl _) A).alloc (by simp) B
    have hc2 : ∀ A B : Obj, ((U.alloc A).alloc B).cell? ⟨Q, 1, none⟩ = some (.slice none 0 0) ∧ ((U.alloc A).alloc B).frozen? ⟨Q, 1, none⟩ = false ∧ ((U.alloc A).alloc B).drew.cell? ⟨Q, 1, none⟩ = some (.slice none 0 0) ∧ ((U.alloc A).alloc B).drew.frozen? ⟨Q, 1, none⟩ = false := fun A B => ⟨((hB2 A B).cell (p := ⟨Q, 1, none⟩) m4).trans m2, hBf A B _ (hB2 A B), ((hB2 A B).drew.cell (p := ⟨Q, 1, none⟩) m4).trans m2, hBf A B _ (hB2 A B).drew⟩
    have g1 := fun A B => (hc2 A B).1
    have g2 := fun A B => (hc2 A B).2.1
    have g3 := fun A B => (hc2 A B).2.2.1
    have g4 := fun A B => (hc2 A B).2.2.2
    clear hc2 hB2 hBf l1 l0
    go_upto_region 18 with fail
    obtain ⟨X, hX⟩ : ∃ X, X = (((U.setCell ⟨Q, 1, none⟩ (.slice (some ⟨U.heap.size + 1, 0, none⟩) 1 ((Question.appendCap 1 0 105).cut (U.tape U.drawn (Question.appendCap 1 0 105))))).alloc (.cells #[.string ⟨#[]⟩, .bool false, .string ⟨#[]⟩, .bool false, .bool false, .bool false] 105)).alloc (.cells (#[sv [], .bool false, sv [], .bool false, .bool false, .bool false] ++ Builtin.zeroCells #[.string ⟨#[]⟩, .bool false, .string ⟨#[]⟩, .bool false, .bool false, .bool false] ((Question.appendCap 1 0 105).cut (U.tape U.drawn (Question.appendCap 1 0 105)) - 1)) 105)).drew := ⟨_, rfl⟩
    have HN := hidb (mid17 HMh.out hX)
    rw [← hX]
    generalize (Question.appendCap 1 0 105).cut (U.tape U.drawn (Question.appendCap 1 0 105)) = c2 at *
    generalize U.heap.size + 1 = B at HN
    clear hX lc0 lc1 lc2 lc3 lc4 lc5 hqa hqb hqc g1 g2 g3 g4 m1 m2 m3 m4 m5 m6 m7 HMh hnc2 hnc
    have HP := hidb (mid17_pad HN.out)
    obtain ⟨n1, n2⟩ := HN.out.drew
    clear HN
    have HSt : Hid (∀ W : World, Mc17 Q B c2 W → ((W.setCell ⟨B, 2, none⟩ (sv (padB []))).setCell ⟨B, 3, none⟩ (.bool false)).cell? ⟨Q, 1, none⟩ = some (.slice (some ⟨B, 0, none⟩) 1 c2) ∧ Q < ((W.setCell ⟨B, 2, none⟩ (sv (padB []))).setCell ⟨B, 3, none⟩ (.bool false)).heap.size) := hidb fun W h => ⟨((World.cell?_setCell_other _ _ _ _ (by simp)).trans (World.cell?_setCell_other _ _ _ _ (by simp))).trans h.1, by rw [World.size_setCell, World.size_setCell]; exact h.2.2.2.2.2.1⟩
    go_region_held (fun W => W.cell? ⟨Q, 1, none⟩ = some (.slice (some ⟨B, 0, none⟩) 1 c2) ∧ Q < W.heap.size) (first | exact ⟨n1.1, n1.2.2.2.2.2.1⟩ | exact hS1 | exact hS2 | go_keep) (first | (go_at_call 41; refine HP.out.mono ?_; clear HP; rintro e W ⟨rfl, hW, hBW⟩; obtain ⟨w1, w2, w3, w5, w6, w7, w8⟩ := hW; have hS1 := And.intro w1 w7; have hS2 := HSt.out W ⟨w1, w2, w3, w5, w6, w7, w8⟩) | fail)
    obtain ⟨u1, u2⟩ := hS2
    have u3 : ((W.setCell ⟨B, 2, none⟩ (.string ⟨List.toArray (padB [])⟩)).setCell ⟨B, 3, none⟩ (.bool false)).cell? ⟨B, 5, none⟩ = some (.bool false) := ((World.cell?_setCell_other _ _ _ _ (by simp)).trans (World.cell?_setCell_other _ _ _ _ (by simp))).trans w5
    have u4 : ((W.setCell ⟨B, 2, none⟩ (.string ⟨List.toArray (padB [])⟩)).setCell ⟨B, 3, none⟩ (.bool false)).frozen? ⟨B, 5, none⟩ = false := by rw [World.frozen?_setCell, World.frozen?_setCell]; exact w6 5
    have HZ : Hid (∀ v1 v2 v3, Below g w (((W.setCell ⟨B, 2, none⟩ v1).setCell ⟨B, 3, none⟩ v2).setCell ⟨B, 5, none⟩ v3)) := hidb fun v1 v2 v3 => by
      obtain ⟨_, _, _, q4, q5⟩ := hBW.out
      have hg := HD.out.2.2.2.2.1
      exact (((((hz.mono (Nat.le_of_lt hg)).trans q5).setCell (Nat.le_of_lt q4) _).setCell (Nat.le_of_lt q4) _).setCell (Nat.le_of_lt q4) _)
    clear n1 n2 w1 w2 w3 w5 w6 hBW HD hz HSt hS1
    go_wp2_with fail
    go_ret
    exact ⟨rfl, HZ.out _ _ _⟩
end Go.Proofs.YthmjejmignangaaGreatDoor
