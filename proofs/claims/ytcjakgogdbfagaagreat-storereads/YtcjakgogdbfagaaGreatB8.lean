/- A block that holds bytes, whichever. What the document's own Reader does: NewReader, Left, has, Byte, Int, Text and Done. -/
import Derived.Test.YtcjakgogdbfagaaGreatWF
import Derived.Test.YtcjakgogdbfagaaGreatRD
import Derived.Test.YtcjakgogdbfagaaGreatWH
namespace Go.Proofs.YtcjakgogdbfagaaGreat
open Go.RowKit

theorem Chg.drewN (w : World) (n : Nat) (S : Nat → Prop) : Chg w (w.drewN n) S := ⟨rfl, rfl, rfl, Nat.le_refl _, fun _ _ _ => rfl⟩
/-- Block g begins with len bytes, whichever. -/
def Bytes8 (w : World) (g len : Nat) : Prop := ∃ cur : Array Value, w.heap[g]? = some (.cells cur 5 (0, 0)) ∧ ∀ j, j < len → ∃ y : Nat, y < 256 ∧ cur[j]? = some (.int .u8 (y : Int))
theorem Bytes8.cell {w : World} {g len : Nat} (H : Bytes8 w g len) (j : Nat) (hj : j < len) : ∃ y : Nat, y < 256 ∧ w.cell? ⟨g, j, none⟩ = some (.int .u8 (y : Int)) ∧ w.frozen? ⟨g, j, none⟩ = false := by
  obtain ⟨cur, hc, h⟩ := H
  obtain ⟨y, hy, e⟩ := h j hj
  exact ⟨y, hy, by simp [World.cell?, hc, e], by simp [World.frozen?, hc]⟩
theorem Bytes8.set {w : World} {g len : Nat} (H : Bytes8 w g len) (k y : Nat) (v : Int) (hv : v = (y : Int)) (hy : y < 256) : Bytes8 (w.setCell ⟨g, k, none⟩ (.int .u8 v)) g len := by
  subst hv
  obtain ⟨cur, hc, h⟩ := H
  have hlt := lt_of_block hc
  have h' : w.heap[g] = .cells cur 5 (0, 0) := by simpa [Array.getElem?_eq_getElem hlt] using hc
  refine ⟨cur.setIfInBounds k (.int .u8 (y : Int)), ?_, fun j hj => ?_⟩
  · show (w.heap.modify g _)[g]? = _
    rw [Array.getElem?_eq_getElem (by simpa using hlt), Array.getElem_modify_self, h']
    rfl
  · obtain ⟨z, hz, e⟩ := h j hj
    by_cases hjk : k = j
    · subst hjk
      have : k < cur.size := by
        by_cases hs : k < cur.size
        · exact hs
        · rw [Array.getElem?_eq_none (by omega)] at e; cases e
      exact ⟨y, hy, by rw [Array.getElem?_setIfInBounds_self_of_lt this]⟩
    · exact ⟨z, hz, by rw [Array.getElem?_setIfInBounds_ne hjk]; exact e⟩
theorem Bytes8.chg {w w' : World} {g len : Nat} {S : Nat → Prop} (H : Bytes8 w g len) (c : Chg w w' S) (h : ¬ S g) : Bytes8 w' g len := by
  obtain ⟨cur, hc, hh⟩ := H
  exact ⟨cur, by rw [c.block g (lt_of_block hc) h]; exact hc, hh⟩
theorem Bytes8.of_own {w : World} {base g len c : Nat} {bs : List UInt8} (hl : bs.length = len) (hO : OwnB w base (.slice (some ⟨g, 0, none⟩) (len + 2) c) (bs ++ [77, 78])) : Bytes8 w g len := by
  rcases hO.2 with ⟨h, _⟩ | ⟨g', cap', cur, h, _, hg, _, _, _, ht⟩
  · cases h
  · injection h with h1 h2 h3
    injection h1 with h1
    injection h1 with h1
    subst h1
    refine ⟨cur, hg, fun j hj => ?_⟩
    have hj' : j < (bs ++ [77, 78]).length := by simp; omega
    refine ⟨((bs ++ [77, 78])[j]'hj').toNat, ((bs ++ [77, 78])[j]'hj').toNat_lt, ?_⟩
    have : (cur.toList.take (len + 2))[j]? = some (bv ((bs ++ [77, 78])[j]'hj')) := by
      have h2 : ((bs ++ [77, 78]).map bv)[j]? = some (bv ((bs ++ [77, 78])[j]'hj')) := by rw [List.getElem?_map, List.getElem?_eq_getElem hj']; rfl
      rw [← h2, ← ht]
      congr 1
      simp [hl]
    rw [List.getElem?_take_of_lt (by omega)] at this
    simpa using this
theorem Bytes8.of_bytes {w : World} {base g n c : Nat} {bs : List UInt8} (hl : bs.length = n) (hO : OwnB w base (.slice (some ⟨g, 0, none⟩) n c) bs) : Bytes8 w g n := by
  rcases hO.2 with ⟨h, _⟩ | ⟨g', cap', cur, h, _, hg, _, _, _, ht⟩
  · cases h
  · injection h with h1 h2 h3
    injection h1 with h1
    injection h1 with h1
    subst h1
    refine ⟨cur, hg, fun j hj => ?_⟩
    have hj' : j < bs.length := by omega
    refine ⟨bs[j].toNat, bs[j].toNat_lt, ?_⟩
    have h2 : (bs.map bv)[j]? = some (bv bs[j]) := by rw [List.getElem?_map, List.getElem?_eq_getElem hj']; rfl
    rw [← ht, List.getElem?_take_of_lt (by simp only [List.length_map]; omega)] at h2
    simpa using h2
end Go.Proofs.YtcjakgogdbfagaaGreat
namespace Go.Proofs.YtcjakgogdbfagaaGreat
open Go.RowKit

/-- A block of three cells. -/
theorem cells3 {w : World} {b : Nat} {x y z : Value} {t : TypeId} (h : w.heap[b]? = some (.cells #[x, y, z] t (0, 0))) : (w.cell? ⟨b, 0, none⟩ = some x ∧ w.cell? ⟨b, 1, none⟩ = some y ∧ w.cell? ⟨b, 2, none⟩ = some z) ∧ w.frozen? ⟨b, 0, none⟩ = false ∧ w.frozen? ⟨b, 1, none⟩ = false ∧ w.frozen? ⟨b, 2, none⟩ = false := by
  simp [World.cell?, World.frozen?, h]
theorem set3_1 {w : World} {b : Nat} {x y z u : Value} {t : TypeId} (h : w.heap[b]? = some (.cells #[x, y, z] t (0, 0))) : (w.setCell ⟨b, 1, none⟩ u).heap[b]? = some (.cells #[x, u, z] t (0, 0)) := by
  have hlt := lt_of_block h
  have h' : w.heap[b] = .cells #[x, y, z] t (0, 0) := by simpa [Array.getElem?_eq_getElem hlt] using h
  show (w.heap.modify b _)[b]? = _
  rw [Array.getElem?_eq_getElem (by simpa using hlt), Array.getElem_modify_self, h']
  rfl
theorem set3_2 {w : World} {b : Nat} {x y z u : Value} {t : TypeId} (h : w.heap[b]? = some (.cells #[x, y, z] t (0, 0))) : (w.setCell ⟨b, 2, none⟩ u).heap[b]? = some (.cells #[x, y, u] t (0, 0)) := by
  have hlt := lt_of_block h
  have h' : w.heap[b] = .cells #[x, y, z] t (0, 0) := by simpa [Array.getElem?_eq_getElem hlt] using h
  show (w.heap.modify b _)[b]? = _
  rw [Array.getElem?_eq_getElem (by simpa using hlt), Array.getElem_modify_self, h']
  rfl

/-- The document's Reader at block q: its bytes are the slice v, its place at k, its error err. -/
def RfE (w : World) (q : Nat) (v : Value) (k : Nat) (err : Int) : Prop := w.heap[q]? = some (.cells #[v, .int .i64 (k : Int), .int .i64 err] 53 (0, 0))
/-- The document's Reader of the bytes bs, which lie in block g, at the place k. -/
structure RfS (w : World) (q g : Nat) (bs : List UInt8) (k : Nat) (err : Int) : Prop where
  st : ∃ ao cap, RfE w q (.slice ao bs.length cap) k err ∧ BsAt w g ao bs ∧ bs.length ≤ cap ∧ cap ≤ maxLen
  gq : g ≠ q
  le : k ≤ bs.length
  mx : bs.length ≤ 140737488355328
theorem RfS.chg {w w' : World} {q g : Nat} {bs : List UInt8} {k : Nat} {err : Int} {S : Nat → Prop} (H : RfS w q g bs k err) (c : Chg w w' S) (h1 : ¬ S q) (h2 : ¬ S g) : RfS w' q g bs k err := by
  obtain ⟨⟨ao, cap, hE, hB, hc, hm⟩, hg, hk, hx⟩ := H
  exact ⟨⟨ao, cap, by unfold RfE at hE ⊢; rw [c.block q (lt_of_block hE) h1]; exact hE, hB.chg c h2, hc, hm⟩, hg, hk, hx⟩
theorem RfS.setAt {w : World} {q g : Nat} {bs : List UInt8} {k k' : Nat} {err : Int} {N : Int} (H : RfS w q g bs k err) (hN : N = (k' : Nat)) (hk : k' ≤ bs.length) : RfS (w.setCell ⟨q, 1, none⟩ (.int .i64 N)) q g bs k' err := by
  obtain ⟨⟨ao, cap, hE, hB, hc, hm⟩, hg, _, hx⟩ := H
  subst hN
  exact ⟨⟨ao, cap, set3_1 hE, hB.chg (Chg.setCell w ⟨q, 1, none⟩ _) hg, hc, hm⟩, hg, hk, hx⟩
theorem RfS.setErr {w : World} {q g : Nat} {bs : List UInt8} {k : Nat} {err e : Int} (H : RfS w q g bs k err) : RfS (w.setCell ⟨q, 2, none⟩ (.int .i64 e)) q g bs k e := by
  obtain ⟨⟨ao, cap, hE, hB, hc, hm⟩, hg, hk, hx⟩ := H
  exact ⟨⟨ao, cap, set3_2 hE, hB.chg (Chg.setCell w ⟨q, 2, none⟩ _) hg, hc, hm⟩, hg, hk, hx⟩

theorem RfS.failed {w : World} {q g : Nat} {bs : List UInt8} {k : Nat} (H : RfS w q g bs k 0) : RfS (w.setCell ⟨q, 2, none⟩ (.int .i64 20)) q g bs k 20 ∧ Chg w (w.setCell ⟨q, 2, none⟩ (.int .i64 20)) (fun i => i = q) :=
  ⟨H.setErr, Chg.setCell w ⟨q, 2, none⟩ _⟩
set_option maxHeartbeats 400000 in
theorem fnew_new (ao : Option Addr) (len cap : Nat) (bs : List UInt8) (w : World) (hl : bs.length = len) (hm : len ≤ 140737488351232) (hb : Bs w ao bs) :
    Calls Tryz.prog 20 #[.slice ao len cap] w fun e w' => ∃ q g, e = .returned (.pointer (some ⟨q, 0, none⟩)) ∧ w.heap.size < q ∧ w.heap.size ≤ g ∧ RfS w' q g bs 0 0 ∧ Below w.heap.size w w' := by
  have hb1 : Below w.heap.size w (w.alloc (.cells #[] 5)) := (Below.refl _ _).alloc (Nat.le_refl _) _
  have hO1 : OwnB (w.alloc (.cells #[] 5)) w.heap.size (.slice (some ⟨w.heap.size, 0, none⟩) 0 0) [] := World.ownsRow_lit w #[] 0 (Nat.le_refl _) (Nat.zero_le _) rfl
  have hS := src_bs (P := Tryz.prog) _ Tryz.underlying22 (hb.keep (below_keep hb1)) cap
  rw [hl] at hS
  go_enter Tryz.func20, Tryz.ntmps20
  go_wp2_with (at_builtin; go_loud (refine wpList_app _ rfl (.tmp 3) (.tmp 4) _ _ rfl elem_u8 w.heap.size _ _ rfl hO1 _ rfl (bs.map bv) hS (by simp only [List.length_map, hl]; unfold maxLen; simp; omega) (by simp only [List.length_map, hl]; simp; omega) (by simp) ?_))
  intro v2 w2 ho2 hs2
  have hO2 : OwnB w2 w.heap.size v2 bs := by simpa [OwnB] using ho2
  have hb2 : Below w.heap.size w w2 := hb1.trans (hs2.below (by simp) (fun k h => (hO1.lt k h).1))
  have hsz : w.heap.size < w2.heap.size := by
    have := hs2.1.size
    simp at this
    omega
  clear ho2 hs2 hO1 hb1 hS
  obtain ⟨ao2, cap2, rfl, hlc, hcm, hB2, hob, _⟩ := Own.bs hO2
  have hbz : Below w.heap.size w (w2.alloc (.cells #[.slice ao2 bs.length cap2, .int .i64 0, .int .i64 0] 53)) := hb2.alloc hb2.size _
  have hR : ∃ g, w.heap.size ≤ g ∧ RfS (w2.alloc (.cells #[.slice ao2 bs.length cap2, .int .i64 0, .int .i64 0] 53)) w2.heap.size g bs 0 0 := by
    rcases hB2 with h0 | ⟨b, off, rfl, hcell⟩
    · exact ⟨w2.heap.size + 1, by have := hb2.size; omega, ⟨ao2, cap2, heap_alloc_new w2 _, .inl h0, hlc, hcm⟩, by omega, Nat.zero_le _, by omega⟩
    · have hlt := hO2.lt b (by rw [hob]; rfl)
      exact ⟨b, hlt.1, ⟨_, cap2, heap_alloc_new w2 _, .inr ⟨off, rfl, fun j hj => alloc_keep _ _ _ _ (hcell j hj)⟩, hlc, hcm⟩, by omega, Nat.zero_le _, by omega⟩
  obtain ⟨g, hg1, hg2⟩ := hR
  clear hB2 hO2 hob
  go_wp2
  go_ret
  exact ⟨_, g, rfl, hsz, hg1, by rw [← hl]; exact hg2, by rw [← hl]; exact hbz⟩
theorem fnew_any (ao : Option Addr) (len cap : Nat) (bs : List UInt8) (w : World) (hl : bs.length = len) (hm : len ≤ 140737488351232) (hb : Bs w ao bs) :
    Calls Tryz.prog 20 #[.slice ao len cap] w fun e w' => ∃ q g, e = .returned (.pointer (some ⟨q, 0, none⟩)) ∧ w.heap.size ≤ q ∧ w.heap.size ≤ g ∧ RfS w' q g bs 0 0 ∧ Below w.heap.size w w' :=
  (fnew_new ao len cap bs w hl hm hb).mono fun _ _ ⟨q, g, h1, h2, h3⟩ => ⟨q, g, h1, Nat.le_of_lt h2, h3⟩

set_option maxHeartbeats 400000 in
theorem fleft_q (q g : Nat) (bs : List UInt8) (k : Nat) (err : Int) (w : World) (H : RfS w q g bs k err) :
    Calls Tryz.prog 52 #[.pointer (some ⟨q, 0, none⟩)] w fun e w' => e = .returned (.int .i64 (bs.length - k : Nat)) ∧ ∃ m, w' = w.drewN m := by
  obtain ⟨⟨ao, cap, hE, hB, hc, hm⟩, hg, hk, hx⟩ := H
  obtain ⟨⟨c0, c1, c2⟩, f0, f1, f2⟩ := cells3 hE
  clear hE hB
  go_enter Tryz.func52, Tryz.ntmps52
  go_wp2
  go_quiet (fail)
  go_wp2
  go_ret
  exact ⟨ret_int (by omega), _, rfl⟩
theorem fleft_any (q g : Nat) (bs : List UInt8) (k : Nat) (err : Int) (w : World) (H : RfS w q g bs k err) :
    Calls Tryz.prog 52 #[.pointer (some ⟨q, 0, none⟩)] w fun e w' => e = .returned (.int .i64 (bs.length - k : Nat)) ∧ Chg w w' (fun _ => False) := by
  refine (fleft_q q g bs k err w H).mono ?_
  rintro e w' ⟨rfl, m, rfl⟩
  exact ⟨rfl, Chg.drewN _ _ _⟩
set_option maxHeartbeats 400000 in
theorem fdone_q (q g : Nat) (bs : List UInt8) (k : Nat) (err : Int) (w : World) (H : RfS w q g bs k err) :
    Calls Tryz.prog 24 #[.pointer (some ⟨q, 0, none⟩)] w fun e w' => e = .returned (.int .i64 (doneOf (bs.drop k) err)) ∧ ∃ m, w' = w.drewN m := by
  have H0 := H
  obtain ⟨⟨ao, cap, hE, hB, hc, hm⟩, hg, hk, hx⟩ := H
  obtain ⟨⟨c0, c1, c2⟩, f0, f1, f2⟩ := cells3 hE
  clear hE hB
  by_cases he : err = 0
  · by_cases hl : 0 < bs.length - k
    · have HD : Hid (doneOf (bs.drop k) err = 21) := hid (by unfold doneOf; rw [if_neg (by simp [he]), if_pos (by rw [List.length_drop]; exact hl)])
      have hb : (err == 0) = true := by simp [he]
      go_enter Tryz.func24, Tryz.ntmps24
      go_wp2_with (go_at_call 52; refine (fleft_q q g bs k err _ H0).mono ?_; rintro e w1 ⟨rfl, m, rfl⟩)
      go_ret
      exact ⟨ret_int (by rw [HD.out]), m, rfl⟩
    · have HD : Hid (doneOf (bs.drop k) err = err) := hid (by unfold doneOf; rw [if_neg (by simp [he]), if_neg (by rw [List.length_drop]; exact hl), he])
      have hb : (err == 0) = true := by simp [he]
      go_enter Tryz.func24, Tryz.ntmps24
      go_wp2_with (go_at_call 52; refine (fleft_q q g bs k err _ H0).mono ?_; rintro e w1 ⟨rfl, m, rfl⟩)
      go_ret
      exact ⟨ret_int (by rw [HD.out]; first | rfl | exact he.symm), m, rfl⟩
  · have HD : Hid (doneOf (bs.drop k) err = err) := hid (by unfold doneOf; rw [if_pos he])
    have hb : (err == 0) = false := by simp [he]
    go_enter Tryz.func24, Tryz.ntmps24
    go_wp2
    go_ret
    exact ⟨ret_int (by rw [HD.out]), 0, rfl⟩

set_option maxHeartbeats 400000 in
theorem has_bad (q g : Nat) (bs : List UInt8) (k : Nat) (err n : Int) (w : World) (H : RfS w q g bs k err) (he : err ≠ 0) :
    Calls Tryz.prog 50 #[.pointer (some ⟨q, 0, none⟩), .int .i64 n] w fun e w' => e = .returned (.bool false) ∧ w' = w := by
  obtain ⟨⟨ao, cap, hE, hB, hc, hm⟩, hg, hk, hx⟩ := H
  obtain ⟨⟨c0, c1, c2⟩, f0, f1, f2⟩ := cells3 hE
  clear hE hB
  have hb : (err != 0) = true := by simp [he]
  go_enter Tryz.func50, Tryz.ntmps50
  go_wp2
  go_ret
  exact ⟨rfl, rfl⟩
set_option maxHeartbeats 400000 in
theorem has_end (q g : Nat) (bs : List UInt8) (k : Nat) (n : Int) (w : World) (H : RfS w q g bs k 0) (hn : ((bs.length - k : Nat) : Int) < n) :
    Calls Tryz.prog 50 #[.pointer (some ⟨q, 0, none⟩), .int .i64 n] w fun e w' => e = .returned (.bool false) ∧ RfS w' q g bs k 20 ∧ Chg w w' (fun i => i = q) := by
  have H0 := H
  obtain ⟨⟨ao, cap, hE, hB, hc, hm⟩, hg, hk, hx⟩ := H
  obtain ⟨⟨c0, c1, c2⟩, f0, f1, f2⟩ := cells3 hE
  clear hE hB
  go_enter Tryz.func50, Tryz.ntmps50
  go_wp2_with (go_at_call 52; refine (fleft_any q g bs k 0 _ H0).mono ?_; rintro e w1 ⟨rfl, hc1⟩; have H1 := H0.chg hc1 id id; have HE1 := H1.failed; obtain ⟨⟨ao1, cap1, hE1, _, _, _⟩, _, _, _⟩ := H1; obtain ⟨⟨d0, d1, d2⟩, g0, g1, g2⟩ := cells3 hE1; clear hE1)
  go_ret
  exact ⟨rfl, HE1.1, (hc1.mono (fun _ _ e => e.elim)).trans HE1.2 (fun _ _ e => e)⟩
set_option maxHeartbeats 400000 in
theorem has_ok (q g : Nat) (bs : List UInt8) (k : Nat) (n : Int) (w : World) (H : RfS w q g bs k 0) (hn : ¬ ((bs.length - k : Nat) : Int) < n) :
    Calls Tryz.prog 50 #[.pointer (some ⟨q, 0, none⟩), .int .i64 n] w fun e w' => e = .returned (.bool true) ∧ Chg w w' (fun _ => False) := by
  have H0 := H
  obtain ⟨⟨ao, cap, hE, hB, hc, hm⟩, hg, hk, hx⟩ := H
  obtain ⟨⟨c0, c1, c2⟩, f0, f1, f2⟩ := cells3 hE
  clear hE hB
  go_enter Tryz.func50, Tryz.ntmps50
  go_wp2_with (go_at_call 52; refine (fleft_any q g bs k 0 _ H0).mono ?_; rintro e w1 ⟨rfl, hc1⟩; have H1 := H0.chg hc1 id id; have HE1 := H1.failed; obtain ⟨⟨ao1, cap1, hE1, _, _, _⟩, _, _, _⟩ := H1; obtain ⟨⟨d0, d1, d2⟩, g0, g1, g2⟩ := cells3 hE1; clear hE1)
  go_ret
  exact ⟨rfl, hc1⟩

set_option maxHeartbeats 400000 in
theorem fint_bad (q g : Nat) (bs : List UInt8) (k : Nat) (err : Int) (w : World) (H : RfS w q g bs k err) (he : err ≠ 0) :
    Calls Tryz.prog 21 #[.pointer (some ⟨q, 0, none⟩)] w fun e w' => e = .returned (.int .i64 0) ∧ w' = w := by
  go_enter Tryz.func21, Tryz.ntmps21
  go_wp2_with (go_at_call 50; refine (has_bad q g bs k err _ _ H he).mono ?_; rintro e w' ⟨rfl, hw⟩; subst hw)
  go_ret
  exact ⟨rfl, rfl⟩
set_option maxHeartbeats 400000 in
theorem ftext_bad (q g : Nat) (bs : List UInt8) (k : Nat) (err : Int) (w : World) (H : RfS w q g bs k err) (he : err ≠ 0) :
    Calls Tryz.prog 22 #[.pointer (some ⟨q, 0, none⟩)] w fun e w' => e = .returned (.string ⟨#[]⟩) ∧ w' = w := by
  go_enter Tryz.func22, Tryz.ntmps22
  go_wp2_with (go_at_call 50; refine (has_bad q g bs k err _ _ H he).mono ?_; rintro e w' ⟨rfl, hw⟩; subst hw)
  go_ret
  exact ⟨rfl, rfl⟩

set_option maxHeartbeats 400000 in
theorem fint_end (q g : Nat) (bs : List UInt8) (k : Nat) (w : World) (H : RfS w q g bs k 0) (hl : bs.length - k < 8) :
    Calls Tryz.prog 21 #[.pointer (some ⟨q, 0, none⟩)] w fun e w' => e = .returned (.int .i64 0) ∧ RfS w' q g bs k 20 ∧ Chg w w' (fun i => i = q) := by
  go_enter Tryz.func21, Tryz.ntmps21
  go_wp2_with (go_at_call 50; refine (has_end q g bs k _ _ H (by omega)).mono ?_; rintro e w1 ⟨rfl, hR1, hc1⟩)
  go_ret
  exact ⟨rfl, hR1, hc1⟩
end Go.Proofs.YtcjakgogdbfagaaGreat
