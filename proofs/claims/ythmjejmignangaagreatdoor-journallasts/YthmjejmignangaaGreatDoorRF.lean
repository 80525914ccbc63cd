/- What the document's own Reader does: NewReader, Left, has, Byte, Int, Text and Done. What the document's own Reader does where it reads: Byte, Int and Text. -/
import Derived.Test.YthmjejmignangaaGreatDoorRE
import Derived.Test.YthmjejmignangaaGreatDoorWE
import Derived.Test.YthmjejmignangaaGreatDoorJZ
namespace Go.Proofs.YthmjejmignangaaGreatDoor
open Go.RowKit

/-- A block of three cells. -/
theorem cells3 {w : World} {b : Nat} {x y z : Value} {t : TypeId} (h : w.heap[b]? = some (.cells #[x, y, z] t (0, 0))) : (w.cell? ⟨b, 0, none⟩ = some x ∧ w.cell? ⟨b, 1, none⟩ = some y ∧ w.cell? ⟨b, 2, none⟩ = some z) ∧ w.frozen? ⟨b, 0, none⟩ = false ∧ w.frozen? ⟨b, 1, none⟩ = false ∧ w.frozen? ⟨b, 2, none⟩ = false := by
  simp [World.cell?, World.frozen?, h]
theorem set3_1 {w : World} {b : Nat} {x y z u : Value} {t : TypeId} (h : w.heap[b]? = some (.cells #[x, y, z] t (0, 0))) : (w.setCell ⟨b, 1, none⟩ u).heap[b]? = some (.cells #[x, u, z] t (0, 0)) := by
  have hlt := lt_of_block h
  have h' : w.heap[b] = .cells #[x, y, z] t (0, 0) := by simpa [Array.getElem?_eq_getElem hlt] using h
  show (w.heap.modify b _)[b]? = _
  rw [Array.getElem?_eq_getElem (by simpa using hlt), Array.getElem_modify_self, h']
  rfl
theorem set3_2 {w : World} {b : Nat} {x y z u : Value} {t : TypeId} (h : w.heap[b]? = some (.cells #[x, y, z] t (0, 0))) : (w.setCell ⟨b, 2, none⟩ u).heap[b]? = some (.cells #[x, y, u] t (0, 0)) := by
  have hlt := lt_of_block h
  have h' : w.heap[b] = .cells #[x, y, z] t (0, 0) := by simpa [Array.getElem?_eq_getElem hlt] using h
  show (w.heap.modify b _)[b]? = _
  rw [Array.getElem?_eq_getElem (by simpa using hlt), Array.getElem_modify_self, h']
  rfl

/-- The document's Reader at block q: its bytes are the slice v, its place at k, its error err. -/
def RfE (w : World) (q : Nat) (v : Value) (k : Nat) (err : Int) : Prop := w.heap[q]? = some (.cells #[v, .int .i64 (k : Int), .int .i64 err] 140 (0, 0))
/-- The document's Reader of the bytes bs, which lie in block g, at the place k. -/
structure RfS (w : World) (q g : Nat) (bs : List UInt8) (k : Nat) (err : Int) : Prop where
  st : ∃ ao cap, RfE w q (.slice ao bs.length cap) k err ∧ BsAt w g ao bs ∧ bs.length ≤ cap ∧ cap ≤ maxLen
  gq : g ≠ q
  le : k ≤ bs.length
  mx : bs.length ≤ 140737488355328
theorem RfS.chg {w w' : World} {q g : Nat} {bs : List UInt8} {k : Nat} {err : Int} {S : Nat → Prop} (H : RfS w q g bs k err) (c : Chg w w' S) (h1 : ¬ S q) (h2 : ¬ S g) : RfS w' q g bs k err := by
  obtain ⟨⟨ao, cap, hE, hB, hc, hm⟩, hg, hk, hx⟩ := H
  exact ⟨⟨ao, cap, by unfold RfE at hE ⊢; rw [c.block q (lt_of_block hE) h1]; exact hE, hB.chg c h2, hc, hm⟩, hg, hk, hx⟩
theorem RfS.setAt {w : World} {q g : Nat} {bs : List UInt8} {k k' : Nat} {err : Int} {N : Int} (H : RfS w q g bs k err) (hN : N = (k' : Nat)) (hk : k' ≤ bs.length) : RfS (w.setCell ⟨q, 1, none⟩ (.int .i64 N)) q g bs k' err := by
  obtain ⟨⟨ao, cap, hE, hB, hc, hm⟩, hg, _, hx⟩ := H
  subst hN
  exact ⟨⟨ao, cap, set3_1 hE, hB.chg (Chg.setCell w ⟨q, 1, none⟩ _) hg, hc, hm⟩, hg, hk, hx⟩
theorem RfS.setErr {w : World} {q g : Nat} {bs : List UInt8} {k : Nat} {err e : Int} (H : RfS w q g bs k err) : RfS (w.setCell ⟨q, 2, none⟩ (.int .i64 e)) q g bs k e := by
  obtain ⟨⟨ao, cap, hE, hB, hc, hm⟩, hg, hk, hx⟩ := H
  exact ⟨⟨ao, cap, set3_2 hE, hB.chg (Chg.setCell w ⟨q, 2, none⟩ _) hg, hc, hm⟩, hg, hk, hx⟩

theorem RfS.failed {w : World} {q g : Nat} {bs : List UInt8} {k : Nat} (H : RfS w q g bs k 0) : RfS (w.setCell ⟨q, 2, none⟩ (.int .i64 20)) q g bs k 20 ∧ Chg w (w.setCell ⟨q, 2, none⟩ (.int .i64 20)) (fun i => i = q) :=
  ⟨H.setErr, Chg.setCell w ⟨q, 2, none⟩ _⟩
set_option maxHeartbeats 400000 in
theorem fnew_new (ao : Option Addr) (len cap : Nat) (bs : List UInt8) (w : World) (hl : bs.length = len) (hm : len ≤ 140737488351232) (hb : Bs w ao bs) :
    Calls Tryz.prog 52 #[.slice ao len cap] w fun e w' => ∃ q g, e = .returned (.pointer (some ⟨q, 0, none⟩)) ∧ w.heap.size < q ∧ w.heap.size ≤ g ∧ RfS w' q g bs 0 0 ∧ Below w.heap.size w w' := by
  have hb1 : Below w.heap.size w (w.alloc (.cells #[] 5)) := (Below.refl _ _).alloc (Nat.le_refl _) _
  have hO1 : OwnB (w.alloc (.cells #[] 5)) w.heap.size (.slice (some ⟨w.heap.size, 0, none⟩) 0 0) [] := World.ownsRow_lit w #[] 0 (Nat.le_refl _) (Nat.zero_le _) rfl
  have hS := src_bs (P := Tryz.prog) _ Tryz.underlying29 (hb.keep (below_keep hb1)) cap
  rw [hl] at hS
  go_enter Tryz.func52, Tryz.ntmps52
  go_wp2_with (at_builtin; go_loud (refine wpList_app _ rfl (.tmp 3) (.tmp 4) _ _ rfl elem_u8 w.heap.size _ _ rfl hO1 _ rfl (bs.map bv) hS (by simp only [List.length_map, hl]; unfold maxLen; simp; omega) (by simp only [List.length_map, hl]; simp; omega) (by simp) ?_))
  intro v2 w2 ho2 hs2
  have hO2 : OwnB w2 w.heap.size v2 bs := by simpa [OwnB] using ho2
  have hb2 : Below w.heap.size w w2 := hb1.trans (hs2.below (by simp) (fun k h => (hO1.lt k h).1))
  have hsz : w.heap.size < w2.heap.size := by
    have := hs2.1.size
    simp at this
    omega
  clear ho2 hs2 hO1 hb1 hS
  obtain ⟨ao2, cap2, rfl, hlc, hcm, hB2, hob, _⟩ := Own.bs hO2
  have hbz : Below w.heap.size w (w2.alloc (.cells #[.slice ao2 bs.length cap2, .int .i64 0, .int .i64 0] 140)) := hb2.alloc hb2.size _
  have hR : ∃ g, w.heap.size ≤ g ∧ RfS (w2.alloc (.cells #[.slice ao2 bs.length cap2, .int .i64 0, .int .i64 0] 140)) w2.heap.size g bs 0 0 := by
    rcases hB2 with h0 | ⟨b, off, rfl, hcell⟩
    · exact ⟨w2.heap.size + 1, by have := hb2.size; omega, ⟨ao2, cap2, heap_alloc_new w2 _, .inl h0, hlc, hcm⟩, by omega, Nat.zero_le _, by omega⟩
    · have hlt := hO2.lt b (by rw [hob]; rfl)
      exact ⟨b, hlt.1, ⟨_, cap2, heap_alloc_new w2 _, .inr ⟨off, rfl, fun j hj => alloc_keep _ _ _ _ (hcell j hj)⟩, hlc, hcm⟩, by omega, Nat.zero_le _, by omega⟩
  obtain ⟨g, hg1, hg2⟩ := hR
  clear hB2 hO2 hob
  go_wp2
  go_ret
  exact ⟨_, g, rfl, hsz, hg1, by rw [← hl]; exact hg2, by rw [← hl]; exact hbz⟩
theorem fnew_any (ao : Option Addr) (len cap : Nat) (bs : List UInt8) (w : World) (hl : bs.length = len) (hm : len ≤ 140737488351232) (hb : Bs w ao bs) :
    Calls Tryz.prog 52 #[.slice ao len cap] w fun e w' => ∃ q g, e = .returned (.pointer (some ⟨q, 0, none⟩)) ∧ w.heap.size ≤ q ∧ w.heap.size ≤ g ∧ RfS w' q g bs 0 0 ∧ Below w.heap.size w w' :=
  (fnew_new ao len cap bs w hl hm hb).mono fun _ _ ⟨q, g, h1, h2, h3⟩ => ⟨q, g, h1, Nat.le_of_lt h2, h3⟩

set_option maxHeartbeats 400000 in
theorem fleft_q (q g : Nat) (bs : List UInt8) (k : Nat) (err : Int) (w : World) (H : RfS w q g bs k err) :
    Calls Tryz.prog 102 #[.pointer (some ⟨q, 0, none⟩)] w fun e w' => e = .returned (.int .i64 (bs.length - k : Nat)) ∧ ∃ m, w' = w.drewN m := by
  obtain ⟨⟨ao, cap, hE, hB, hc, hm⟩, hg, hk, hx⟩ := H
  obtain ⟨⟨c0, c1, c2⟩, f0, f1, f2⟩ := cells3 hE
  clear hE hB
  go_enter Tryz.func102, Tryz.ntmps102
  go_wp2
  go_quiet (fail)
  go_wp2
  go_ret
  exact ⟨ret_int (by omega), _, rfl⟩
theorem fleft_any (q g : Nat) (bs : List UInt8) (k : Nat) (err : Int) (w : World) (H : RfS w q g bs k err) :
    Calls Tryz.prog 102 #[.pointer (some ⟨q, 0, none⟩)] w fun e w' => e = .returned (.int .i64 (bs.length - k : Nat)) ∧ Chg w w' (fun _ => False) := by
  refine (fleft_q q g bs k err w H).mono ?_
  rintro e w' ⟨rfl, m, rfl⟩
  exact ⟨rfl, Chg.drewN _ _ _⟩
set_option maxHeartbeats 400000 in
theorem has_bad (q g : Nat) (bs : List UInt8) (k : Nat) (err n : Int) (w : World) (H : RfS w q g bs k err) (he : err ≠ 0) :
    Calls Tryz.prog 75 #[.pointer (some ⟨q, 0, none⟩), .int .i64 n] w fun e w' => e = .returned (.bool false) ∧ w' = w := by
  obtain ⟨⟨ao, cap, hE, hB, hc, hm⟩, hg, hk, hx⟩ := H
  obtain ⟨⟨c0, c1, c2⟩, f0, f1, f2⟩ := cells3 hE
  clear hE hB
  have hb : (err != 0) = true := by simp [he]
  go_enter Tryz.func75, Tryz.ntmps75
  go_wp2
  go_ret
  exact ⟨rfl, rfl⟩
set_option maxHeartbeats 400000 in
theorem has_end (q g : Nat) (bs : List UInt8) (k : Nat) (n : Int) (w : World) (H : RfS w q g bs k 0) (hn : ((bs.length - k : Nat) : Int) < n) :
    Calls Tryz.prog 75 #[.pointer (some ⟨q, 0, none⟩), .int .i64 n] w fun e w' => e = .returned (.bool false) ∧ RfS w' q g bs k 20 ∧ Chg w w' (fun i => i = q) := by
  have H0 := H
  obtain ⟨⟨ao, cap, hE, hB, hc, hm⟩, hg, hk, hx⟩ := H
  obtain ⟨⟨c0, c1, c2⟩, f0, f1, f2⟩ := cells3 hE
  clear hE hB
  go_enter Tryz.func75, Tryz.ntmps75
  go_wp2_with (go_at_call 102; refine (fleft_any q g bs k 0 _ H0).mono ?_; rintro e w1 ⟨rfl, hc1⟩; have H1 := H0.chg hc1 id id; have HE1 := H1.failed; obtain ⟨⟨ao1, cap1, hE1, _, _, _⟩, _, _, _⟩ := H1; obtain ⟨⟨d0, d1, d2⟩, g0, g1, g2⟩ := cells3 hE1; clear hE1)
  go_ret
  exact ⟨rfl, HE1.1, (hc1.mono (fun _ _ e => e.elim)).trans HE1.2 (fun _ _ e => e)⟩
set_option maxHeartbeats 400000 in
theorem has_ok (q g : Nat) (bs : List UInt8) (k : Nat) (n : Int) (w : World) (H : RfS w q g bs k 0) (hn : ¬ ((bs.length - k : Nat) : Int) < n) :
    Calls Tryz.prog 75 #[.pointer (some ⟨q, 0, none⟩), .int .i64 n] w fun e w' => e = .returned (.bool true) ∧ Chg w w' (fun _ => False) := by
  have H0 := H
  obtain ⟨⟨ao, cap, hE, hB, hc, hm⟩, hg, hk, hx⟩ := H
  obtain ⟨⟨c0, c1, c2⟩, f0, f1, f2⟩ := cells3 hE
  clear hE hB
  go_enter Tryz.func75, Tryz.ntmps75
  go_wp2_with (go_at_call 102; refine (fleft_any q g bs k 0 _ H0).mono ?_; rintro e w1 ⟨rfl, hc1⟩; have H1 := H0.chg hc1 id id; have HE1 := H1.failed; obtain ⟨⟨ao1, cap1, hE1, _, _, _⟩, _, _, _⟩ := H1; obtain ⟨⟨d0, d1, d2⟩, g0, g1, g2⟩ := cells3 hE1; clear hE1)
  go_ret
  exact ⟨rfl, hc1⟩

set_option maxHeartbeats 400000 in
theorem fbyte_bad (q g : Nat) (bs : List UInt8) (k : Nat) (err : Int) (w : World) (H : RfS w q g bs k err) (he : err ≠ 0) :
    Calls Tryz.prog 54 #[.pointer (some ⟨q, 0, none⟩)] w fun e w' => e = .returned (.int .i64 0) ∧ w' = w := by
  go_enter Tryz.func54, Tryz.ntmps54
  go_wp2_with (go_at_call 75; refine (has_bad q g bs k err _ _ H he).mono ?_; rintro e w' ⟨rfl, hw⟩; subst hw)
  go_ret
  exact ⟨rfl, rfl⟩
set_option maxHeartbeats 400000 in
theorem fint_bad (q g : Nat) (bs : List UInt8) (k : Nat) (err : Int) (w : World) (H : RfS w q g bs k err) (he : err ≠ 0) :
    Calls Tryz.prog 53 #[.pointer (some ⟨q, 0, none⟩)] w fun e w' => e = .returned (.int .i64 0) ∧ w' = w := by
  go_enter Tryz.func53, Tryz.ntmps53
  go_wp2_with (go_at_call 75; refine (has_bad q g bs k err _ _ H he).mono ?_; rintro e w' ⟨rfl, hw⟩; subst hw)
  go_ret
  exact ⟨rfl, rfl⟩
set_option maxHeartbeats 400000 in
theorem fbyte_end (q g : Nat) (bs : List UInt8) (k : Nat) (w : World) (H : RfS w q g bs k 0) (hl : bs.length - k < 1) :
    Calls Tryz.prog 54 #[.pointer (some ⟨q, 0, none⟩)] w fun e w' => e = .returned (.int .i64 0) ∧ RfS w' q g bs k 20 ∧ Chg w w' (fun i => i = q) := by
  go_enter Tryz.func54, Tryz.ntmps54
  go_wp2_with (go_at_call 75; refine (has_end q g bs k _ _ H (by omega)).mono ?_; rintro e w1 ⟨rfl, hR1, hc1⟩)
  go_ret
  exact ⟨rfl, hR1, hc1⟩
set_option maxHeartbeats 400000 in
theorem fint_end (q g : Nat) (bs : List UInt8) (k : Nat) (w : World) (H : RfS w q g bs k 0) (hl : bs.length - k < 8) :
    Calls Tryz.prog 53 #[.pointer (some ⟨q, 0, none⟩)] w fun e w' => e = .returned (.int .i64 0) ∧ RfS w' q g bs k 20 ∧ Chg w w' (fun i => i = q) := by
  go_enter Tryz.func53, Tryz.ntmps53
  go_wp2_with (go_at_call 75; refine (has_end q g bs k _ _ H (by omega)).mono ?_; rintro e w1 ⟨rfl, hR1, hc1⟩)
  go_ret
  exact ⟨rfl, hR1, hc1⟩
end Go.Proofs.YthmjejmignangaaGreatDoor
namespace Go.Proofs.YthmjejmignangaaGreatDoor
open Go.RowKit

theorem RfS.cellAt {w : World} {q g : Nat} {bs : List UInt8} {k : Nat} {err : Int} (H : RfS w q g bs k err) (h0 : 0 < bs.length) : ∃ off cap, (w.cell? ⟨q, 0, none⟩ = some (.slice (some ⟨g, off, none⟩) bs.length cap) ∧ bs.length ≤ cap ∧ cap ≤ maxLen) ∧ ∀ j (h : j < bs.length), w.cell? ⟨g, off + j, none⟩ = some (.int .u8 (bs[j].toNat : Int)) := by
  obtain ⟨⟨ao, cap, hE, hB, hc, hm⟩, hg, hk, hx⟩ := H
  rcases hB with hB | ⟨off, rfl, hB⟩
  · subst hB; simp at h0
  · exact ⟨off, cap, ⟨(cells3 hE).1.1, hc, hm⟩, hB⟩
theorem RfS.at1 {w : World} {q g : Nat} {bs : List UInt8} {k : Nat} {err : Int} (H : RfS w q g bs k err) : w.cell? ⟨q, 1, none⟩ = some (.int .i64 (k : Int)) ∧ w.frozen? ⟨q, 1, none⟩ = false ∧ w.cell? ⟨q, 2, none⟩ = some (.int .i64 err) := by
  obtain ⟨⟨ao, cap, hE, hB, hc, hm⟩, hg, hk, hx⟩ := H
  exact ⟨(cells3 hE).1.2.1, (cells3 hE).2.2.1, (cells3 hE).1.2.2⟩

set_option maxHeartbeats 400000 in
theorem fbyte_ok (q g : Nat) (bs : List UInt8) (k : Nat) (w : World) (H : RfS w q g bs k 0) (hl : k < bs.length) :
    Calls Tryz.prog 54 #[.pointer (some ⟨q, 0, none⟩)] w fun e w' => e = .returned (.int .i64 ((bs[k]'hl).toNat : Nat)) ∧ RfS w' q g bs (k + 1) 0 ∧ Chg w w' (fun i => i = q) := by
  go_enter Tryz.func54, Tryz.ntmps54
  go_wp2_with fail
  refine (has_ok q g bs k _ w H (by omega)).mono ?_
  rintro e w1 ⟨rfl, hc1⟩
  have H1 := H.chg hc1 id id
  have hx := H1.mx
  obtain ⟨c1, f1, c2⟩ := H1.at1
  have HR := H1.setAt (k' := k + 1) (N := (k : Int) + 1) (by omega) (by omega)
  have hc2 : Chg w (w1.setCell ⟨q, 1, none⟩ (.int .i64 ((k : Int) + 1))) (fun i => i = q) := (hc1.mono (fun _ _ e => e.elim)).trans (Chg.setCell w1 ⟨q, 1, none⟩ _) (fun _ _ e => e)
  have hb := (bs[k]'hl).toNat_lt
  clear H1 H
  go_wp2
  generalize w1.setCell ⟨q, 1, none⟩ (.int .i64 ((k : Int) + 1)) = w2 at HR hc2
  clear c1 f1 c2 hc1
  obtain ⟨off, cap, ⟨c0, hlc, hcm⟩, hcell⟩ := HR.cellAt (by omega)
  obtain ⟨c1, f1, c2⟩ := HR.at1
  rw [show (((k + 1 : Nat) : Int)) = (k : Int) + 1 by omega] at c1
  have ck := hcell k hl
  generalize hxx : (bs[k]'hl).toNat = x at ck hb
  have HX : Hid ((bs[k]'hl).toNat = x) := hxx
  clear hcell hxx
  go_quiet (fail)
  go_wp2
  go_ret
  exact ⟨ret_int (by rw [HX.out]), HR.chg (Chg.drewN _ _ (fun _ => False)) id id, hc2.trans (Chg.drewN _ _ _) (fun _ _ e => e)⟩
set_option maxHeartbeats 1000000 in
theorem fint_ok (q g : Nat) (bs : List UInt8) (k : Nat) (w : World) (H : RfS w q g bs k 0) (hl : k + 8 ≤ bs.length) :
    Calls Tryz.prog 53 #[.pointer (some ⟨q, 0, none⟩)] w fun e w' => e = .returned (.int .i64 (toInt (num ((bs.drop k).take 8)))) ∧ RfS w' q g bs (k + 8) 0 ∧ Chg w w' (fun i => i = q) := by
  go_enter Tryz.func53, Tryz.ntmps53
  go_wp2_with fail
  refine (has_ok q g bs k _ w H (by omega)).mono ?_
  rintro e w1 ⟨rfl, hc1⟩
  have H1 := H.chg hc1 id id
  have hx := H1.mx
  clear H
  go_wp2
  go_loopw [3, 4] (fun n i wr => ∃ j : Nat, j ≤ 8 ∧ i = .int .i64 j ∧ n = .int .u64 (num ((bs.drop k).take j) : Nat) ∧ RfS wr q g bs k 0 ∧ Chg w wr (fun _ => False)) (fun _ i _ => 8 - (intOf i).toNat)
  case atStart => exact ⟨0, Nat.zero_le _, rfl, rfl, H1, hc1⟩
  case round =>
    clear H1 hc1
    obtain ⟨j, hj, rfl, rfl, H1, hc1⟩ := hrel
    by_cases hlt : j < 8
    · obtain ⟨off, cap, ⟨c0, hlc, hcm⟩, hcell⟩ := H1.cellAt (by omega)
      obtain ⟨c1, f1, c2⟩ := H1.at1
      have ck := hcell (k + j) (by omega)
      have hS := num_snoc (bs.drop k) j (by rw [List.length_drop]; omega)
      rw [List.getElem_drop] at hS
      have hN := num_lt ((bs.drop k).take j)
      generalize num ((bs.drop k).take j) = n at hS hN
      unfold numStep at hS
      have hb := (bs[k + j]'(by omega)).toNat_lt
      generalize (bs[k + j]'(by omega)).toNat = x at ck hb hS
      have HS : Hid (num ((bs.drop k).take (j + 1)) = (n * 256 + x) % 18446744073709551616) := hS
      clear hcell hS
      go_wp2
      go_quiet (fail)
      go_wp2
      go_roundw
      case rel => exact ⟨j + 1, by omega, by go_num, by rw [HS.out, IntKind.wrap_u64, IntKind.wrap_u64]; congr 1; omega, H1.chg (Chg.drewN _ _ (fun _ => False)) id id, hc1.trans (Chg.drewN _ _ _) (fun _ _ e => e)⟩
      case measure => simp [intOf]; omega
    · obtain rfl : j = 8 := by omega
      have HR := H1.setAt (k' := k + 8) (N := (k : Int) + 8) (by omega) (by omega)
      obtain ⟨c1, f1, c2⟩ := H1.at1
      have hN := num_lt ((bs.drop k).take 8)
      have HN : Hid (wrap64 ((num ((bs.drop k).take 8) : Nat) : Int) = toInt (num ((bs.drop k).take 8))) := hid (wrap_toInt _ (num_lt _))
      have hc2 : ∀ v, Chg w (wr.setCell ⟨q, 1, none⟩ v) (fun i => i = q) := fun v => (hc1.mono (fun _ _ e => e.elim)).trans (Chg.setCell wr ⟨q, 1, none⟩ _) (fun _ _ e => e)
      go_wp2
      go_ret
      exact ⟨ret_int HN.out, HR, hc2 _⟩

theorem tl_at (bs : List UInt8) (k : Nat) (h : k + 2 ≤ bs.length) : tlOf (bs.drop k) = 256 * (bs[k]'(by omega)).toNat + (bs[k + 1]'(by omega)).toNat := by
  unfold tlOf
  rw [if_neg (by rw [List.length_drop]; omega), List.drop_eq_getElem_cons (by omega), List.drop_eq_getElem_cons (by omega), List.take_succ_cons, List.take_succ_cons, List.take_zero, num_two]
  omega
end Go.Proofs.YthmjejmignangaaGreatDoor
