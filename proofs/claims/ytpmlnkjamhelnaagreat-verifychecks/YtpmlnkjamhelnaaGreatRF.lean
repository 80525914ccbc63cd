/- What the document's own Reader does: NewReader, Left, has, Byte, Int, Text and Done. What the document's own Reader does where it reads: Byte, Int and Text. Both Readers, each call in one sentence: what it answers, how far it goes, what error it leaves. Plain facts: numbers and texts are read as they were written. Plain facts: scripts out of bytes. -/
import Derived.Test.YtpmlnkjamhelnaaGreatCPp
import Derived.Test.YtpmlnkjamhelnaaGreatWC
import Derived.Test.YtpmlnkjamhelnaaGreatWI
namespace Go.Proofs.YtpmlnkjamhelnaaGreat
open Go.RowKit

/-- A block of three cells. -/
theorem cells3 {w : World} {b : Nat} {x y z : Value} {t : TypeId} (h : w.heap[b]? = some (.cells #[x, y, z] t (0, 0))) : (w.cell? ⟨b, 0, none⟩ = some x ∧ w.cell? ⟨b, 1, none⟩ = some y ∧ w.cell? ⟨b, 2, none⟩ = some z) ∧ w.frozen? ⟨b, 0, none⟩ = false ∧ w.frozen? ⟨b, 1, none⟩ = false ∧ w.frozen? ⟨b, 2, none⟩ = false := by
  simp [World.cell?, World.frozen?, h]
theorem set3_1 {w : World} {b : Nat} {x y z u : Value} {t : TypeId} (h : w.heap[b]? = some (.cells #[x, y, z] t (0, 0))) : (w.setCell ⟨b, 1, none⟩ u).heap[b]? = some (.cells #[x, u, z] t (0, 0)) := by
  have hlt := lt_of_block h
  have h' : w.heap[b] = .cells #[x, y, z] t (0, 0) := by simpa [Array.getElem?_eq_getElem hlt] using h
  show (w.heap.modify b _)[b]? = _
  rw [Array.getElem?_eq_getElem (by simpa using hlt), Array.getElem_modify_self, h']
  rfl
theorem set3_2 {w : World} {b : Nat} {x y z u : Value} {t : TypeId} (h : w.heap[b]? = some (.cells #[x, y, z] t (0, 0))) : (w.setCell ⟨b, 2, none⟩ u).heap[b]? = some (.cells #[x, y, u] t (0, 0)) := by
  have hlt := lt_of_block h
  have h' : w.heap[b] = .cells #[x, y, z] t (0, 0) := by simpa [Array.getElem?_eq_getElem hlt] using h
  show (w.heap.modify b _)[b]? = _
  rw [Array.getElem?_eq_getElem (by simpa using hlt), Array.getElem_modify_self, h']
  rfl

/-- The document's Reader at block q: its bytes are the slice v, its place at k, its error err. -/
def RfE (w : World) (q : Nat) (v : Value) (k : Nat) (err : Int) : Prop := w.heap[q]? = some (.cells #[v, .int .i64 (k : Int), .int .i64 err] 86 (0, 0))
/-- The document's Reader of the bytes bs, which lie in block g, at the place k. -/
structure RfS (w : World) (q g : Nat) (bs : List UInt8) (k : Nat) (err : Int) : Prop where
  st : ∃ ao cap, RfE w q (.slice ao bs.length cap) k err ∧ BsAt w g ao bs ∧ bs.length ≤ cap ∧ cap ≤ maxLen
  gq : g ≠ q
  le : k ≤ bs.length
  mx : bs.length ≤ 140737488355328
theorem RfS.chg {w w' : World} {q g : Nat} {bs : List UInt8} {k : Nat} {err : Int} {S : Nat → Prop} (H : RfS w q g bs k err) (c : Chg w w' S) (h1 : ¬ S q) (h2 : ¬ S g) : RfS w' q g bs k err := by
  obtain ⟨⟨ao, cap, hE, hB, hc, hm⟩, hg, hk, hx⟩ := H
  exact ⟨⟨ao, cap, by unfold RfE at hE ⊢; rw [c.block q (lt_of_block hE) h1]; exact hE, hB.chg c h2, hc, hm⟩, hg, hk, hx⟩
theorem RfS.setAt {w : World} {q g : Nat} {bs : List UInt8} {k k' : Nat} {err : Int} {N : Int} (H : RfS w q g bs k err) (hN : N = (k' : Nat)) (hk : k' ≤ bs.length) : RfS (w.setCell ⟨q, 1, none⟩ (.int .i64 N)) q g bs k' err := by
  obtain ⟨⟨ao, cap, hE, hB, hc, hm⟩, hg, _, hx⟩ := H
  subst hN
  exact ⟨⟨ao, cap, set3_1 hE, hB.chg (Chg.setCell w ⟨q, 1, none⟩ _) hg, hc, hm⟩, hg, hk, hx⟩
theorem RfS.setErr {w : World} {q g : Nat} {bs : List UInt8} {k : Nat} {err e : Int} (H : RfS w q g bs k err) : RfS (w.setCell ⟨q, 2, none⟩ (.int .i64 e)) q g bs k e := by
  obtain ⟨⟨ao, cap, hE, hB, hc, hm⟩, hg, hk, hx⟩ := H
  exact ⟨⟨ao, cap, set3_2 hE, hB.chg (Chg.setCell w ⟨q, 2, none⟩ _) hg, hc, hm⟩, hg, hk, hx⟩

theorem RfS.failed {w : World} {q g : Nat} {bs : List UInt8} {k : Nat} (H : RfS w q g bs k 0) : RfS (w.setCell ⟨q, 2, none⟩ (.int .i64 20)) q g bs k 20 ∧ Chg w (w.setCell ⟨q, 2, none⟩ (.int .i64 20)) (fun i => i = q) :=
  ⟨H.setErr, Chg.setCell w ⟨q, 2, none⟩ _⟩
set_option maxHeartbeats 400000 in
theorem fnew_any (ao : Option Addr) (len cap : Nat) (bs : List UInt8) (w : World) (hl : bs.length = len) (hm : len ≤ 140737488351232) (hb : Bs w ao bs) :
    Calls Tryz.prog 37 #[.slice ao len cap] w fun e w' => ∃ q g, e = .returned (.pointer (some ⟨q, 0, none⟩)) ∧ w.heap.size ≤ q ∧ w.heap.size ≤ g ∧ RfS w' q g bs 0 0 ∧ Below w.heap.size w w' := by
  have hb1 : Below w.heap.size w (w.alloc (.cells #[] 5)) := (Below.refl _ _).alloc (Nat.le_refl _) _
  have hO1 : OwnB (w.alloc (.cells #[] 5)) w.heap.size (.slice (some ⟨w.heap.size, 0, none⟩) 0 0) [] := World.ownsRow_lit w #[] 0 (Nat.le_refl _) (Nat.zero_le _) rfl
  have hS := src_bs (P := Tryz.prog) _ Tryz.underlying22 (hb.keep (below_keep hb1)) cap
  rw [hl] at hS
  go_enter Tryz.func37, Tryz.ntmps37
  go_wp2_with (at_builtin; go_loud (refine wpList_app _ rfl (.tmp 3) (.tmp 4) _ _ rfl elem_u8 w.heap.size _ _ rfl hO1 _ rfl (bs.map bv) hS (by simp only [List.length_map, hl]; unfold maxLen; simp; omega) (by simp only [List.length_map, hl]; simp; omega) (by simp) ?_))
  intro v2 w2 ho2 hs2
  have hO2 : OwnB w2 w.heap.size v2 bs := by simpa [OwnB] using ho2
  have hb2 : Below w.heap.size w w2 := hb1.trans (hs2.below (by simp) (fun k h => (hO1.lt k h).1))
  clear ho2 hs2 hO1 hb1 hS
  obtain ⟨ao2, cap2, rfl, hlc, hcm, hB2, hob, _⟩ := Own.bs hO2
  have hbz : Below w.heap.size w (w2.alloc (.cells #[.slice ao2 bs.length cap2, .int .i64 0, .int .i64 0] 86)) := hb2.alloc hb2.size _
  have hR : ∃ g, w.heap.size ≤ g ∧ RfS (w2.alloc (.cells #[.slice ao2 bs.length cap2, .int .i64 0, .int .i64 0] 86)) w2.heap.size g bs 0 0 := by
    rcases hB2 with h0 | ⟨b, off, rfl, hcell⟩
    · exact ⟨w2.heap.size + 1, by have := hb2.size; omega, ⟨ao2, cap2, heap_alloc_new w2 _, .inl h0, hlc, hcm⟩, by omega, Nat.zero_le _, by omega⟩
    · have hlt := hO2.lt b (by rw [hob]; rfl)
      exact ⟨b, hlt.1, ⟨_, cap2, heap_alloc_new w2 _, .inr ⟨off, rfl, fun j hj => alloc_keep _ _ _ _ (hcell j hj)⟩, hlc, hcm⟩, by omega, Nat.zero_le _, by omega⟩
  obtain ⟨g, hg1, hg2⟩ := hR
  have hsz := hb2.size
  clear hB2 hO2 hob
  go_wp2
  go_ret
  exact ⟨_, g, rfl, hsz, hg1, by rw [← hl]; exact hg2, by rw [← hl]; exact hbz⟩

set_option maxHeartbeats 400000 in
theorem fleft_q (q g : Nat) (bs : List UInt8) (k : Nat) (err : Int) (w : World) (H : RfS w q g bs k err) :
    Calls Tryz.prog 76 #[.pointer (some ⟨q, 0, none⟩)] w fun e w' => e = .returned (.int .i64 (bs.length - k : Nat)) ∧ ∃ m, w' = w.drewN m := by
  obtain ⟨⟨ao, cap, hE, hB, hc, hm⟩, hg, hk, hx⟩ := H
  obtain ⟨⟨c0, c1, c2⟩, f0, f1, f2⟩ := cells3 hE
  clear hE hB
  go_enter Tryz.func76, Tryz.ntmps76
  go_wp2
  go_quiet (fail)
  go_wp2
  go_ret
  exact ⟨ret_int (by omega), _, rfl⟩
theorem fleft_any (q g : Nat) (bs : List UInt8) (k : Nat) (err : Int) (w : World) (H : RfS w q g bs k err) :
    Calls Tryz.prog 76 #[.pointer (some ⟨q, 0, none⟩)] w fun e w' => e = .returned (.int .i64 (bs.length - k : Nat)) ∧ Chg w w' (fun _ => False) := by
  refine (fleft_q q g bs k err w H).mono ?_
  rintro e w' ⟨rfl, m, rfl⟩
  exact ⟨rfl, Chg.drewN _ _ _⟩
set_option maxHeartbeats 400000 in
theorem fdone_q (q g : Nat) (bs : List UInt8) (k : Nat) (err : Int) (w : World) (H : RfS w q g bs k err) :
    Calls Tryz.prog 41 #[.pointer (some ⟨q, 0, none⟩)] w fun e w' => e = .returned (.int .i64 (doneOf (bs.drop k) err)) ∧ ∃ m, w' = w.drewN m := by
  have H0 := H
  obtain ⟨⟨ao, cap, hE, hB, hc, hm⟩, hg, hk, hx⟩ := H
  obtain ⟨⟨c0, c1, c2⟩, f0, f1, f2⟩ := cells3 hE
  clear hE hB
  by_cases he : err = 0
  · by_cases hl : 0 < bs.length - k
    · have HD : Hid (doneOf (bs.drop k) err = 21) := hid (by unfold doneOf; rw [if_neg (by simp [he]), if_pos (by rw [List.length_drop]; exact hl)])
      have hb : (err == 0) = true := by simp [he]
      go_enter Tryz.func41, Tryz.ntmps41
      go_wp2_with (go_at_call 76; refine (fleft_q q g bs k err _ H0).mono ?_; rintro e w1 ⟨rfl, m, rfl⟩)
      go_ret
      exact ⟨ret_int (by rw [HD.out]), m, rfl⟩
    · have HD : Hid (doneOf (bs.drop k) err = err) := hid (by unfold doneOf; rw [if_neg (by simp [he]), if_neg (by rw [List.length_drop]; exact hl), he])
      have hb : (err == 0) = true := by simp [he]
      go_enter Tryz.func41, Tryz.ntmps41
      go_wp2_with (go_at_call 76; refine (fleft_q q g bs k err _ H0).mono ?_; rintro e w1 ⟨rfl, m, rfl⟩)
      go_ret
      exact ⟨ret_int (by rw [HD.out]; first | rfl | exact he.symm), m, rfl⟩
  · have HD : Hid (doneOf (bs.drop k) err = err) := hid (by unfold doneOf; rw [if_pos he])
    have hb : (err == 0) = false := by simp [he]
    go_enter Tryz.func41, Tryz.ntmps41
    go_wp2
    go_ret
    exact ⟨ret_int (by rw [HD.out]), 0, rfl⟩

set_option maxHeartbeats 400000 in
theorem has_bad (q g : Nat) (bs : List UInt8) (k : Nat) (err n : Int) (w : World) (H : RfS w q g bs k err) (he : err ≠ 0) :
    Calls Tryz.prog 72 #[.pointer (some ⟨q, 0, none⟩), .int .i64 n] w fun e w' => e = .returned (.bool false) ∧ w' = w := by
  obtain ⟨⟨ao, cap, hE, hB, hc, hm⟩, hg, hk, hx⟩ := H
  obtain ⟨⟨c0, c1, c2⟩, f0, f1, f2⟩ := cells3 hE
  clear hE hB
  have hb : (err != 0) = true := by simp [he]
  go_enter Tryz.func72, Tryz.ntmps72
  go_wp2
  go_ret
  exact ⟨rfl, rfl⟩
set_option maxHeartbeats 400000 in
theorem has_end (q g : Nat) (bs : List UInt8) (k : Nat) (n : Int) (w : World) (H : RfS w q g bs k 0) (hn : ((bs.length - k : Nat) : Int) < n) :
    Calls Tryz.prog 72 #[.pointer (some ⟨q, 0, none⟩), .int .i64 n] w fun e w' => e = .returned (.bool false) ∧ RfS w' q g bs k 20 ∧ Chg w w' (fun i => i = q) := by
  have H0 := H
  obtain ⟨⟨ao, cap, hE, hB, hc, hm⟩, hg, hk, hx⟩ := H
  obtain ⟨⟨c0, c1, c2⟩, f0, f1, f2⟩ := cells3 hE
  clear hE hB
  go_enter Tryz.func72, Tryz.ntmps72
  go_wp2_with (go_at_call 76; refine (fleft_any q g bs k 0 _ H0).mono ?_; rintro e w1 ⟨rfl, hc1⟩; have H1 := H0.chg hc1 id id; have HE1 := H1.failed; obtain ⟨⟨ao1, cap1, hE1, _, _, _⟩, _, _, _⟩ := H1; obtain ⟨⟨d0, d1, d2⟩, g0, g1, g2⟩ := cells3 hE1; clear hE1)
  go_ret
  exact ⟨rfl, HE1.1, (hc1.mono (fun _ _ e => e.elim)).trans HE1.2 (fun _ _ e => e)⟩
set_option maxHeartbeats 400000 in
theorem has_ok (q g : Nat) (bs : List UInt8) (k : Nat) (n : Int) (w : World) (H : RfS w q g bs k 0) (hn : ¬ ((bs.length - k : Nat) : Int) < n) :
    Calls Tryz.prog 72 #[.pointer (some ⟨q, 0, none⟩), .int .i64 n] w fun e w' => e = .returned (.bool true) ∧ Chg w w' (fun _ => False) := by
  have H0 := H
  obtain ⟨⟨ao, cap, hE, hB, hc, hm⟩, hg, hk, hx⟩ := H
  obtain ⟨⟨c0, c1, c2⟩, f0, f1, f2⟩ := cells3 hE
  clear hE hB
  go_enter Tryz.func72, Tryz.ntmps72
  go_wp2_with (go_at_call 76; refine (fleft_any q g bs k 0 _ H0).mono ?_; rintro e w1 ⟨rfl, hc1⟩; have H1 := H0.chg hc1 id id; have HE1 := H1.failed; obtain ⟨⟨ao1, cap1, hE1, _, _, _⟩, _, _, _⟩ := H1; obtain ⟨⟨d0, d1, d2⟩, g0, g1, g2⟩ := cells3 hE1; clear hE1)
  go_ret
  exact ⟨rfl, hc1⟩

set_option maxHeartbeats 400000 in
theorem fbyte_bad (q g : Nat) (bs : List UInt8) (k : Nat) (err : Int) (w : World) (H : RfS w q g bs k err) (he : err ≠ 0) :
    Calls Tryz.prog 38 #[.pointer (some ⟨q, 0, none⟩)] w fun e w' => e = .returned (.int .i64 0) ∧ w' = w := by
  go_enter Tryz.func38, Tryz.ntmps38
  go_wp2_with (go_at_call 72; refine (has_bad q g bs k err _ _ H he).mono ?_; rintro e w' ⟨rfl, hw⟩; subst hw)
  go_ret
  exact ⟨rfl, rfl⟩
set_option maxHeartbeats 400000 in
theorem fint_bad (q g : Nat) (bs : List UInt8) (k : Nat) (err : Int) (w : World) (H : RfS w q g bs k err) (he : err ≠ 0) :
    Calls Tryz.prog 75 #[.pointer (some ⟨q, 0, none⟩)] w fun e w' => e = .returned (.int .i64 0) ∧ w' = w := by
  go_enter Tryz.func75, Tryz.ntmps75
  go_wp2_with (go_at_call 72; refine (has_bad q g bs k err _ _ H he).mono ?_; rintro e w' ⟨rfl, hw⟩; subst hw)
  go_ret
  exact ⟨rfl, rfl⟩
set_option maxHeartbeats 400000 in
theorem ftext_bad (q g : Nat) (bs : List UInt8) (k : Nat) (err : Int) (w : World) (H : RfS w q g bs k err) (he : err ≠ 0) :
    Calls Tryz.prog 39 #[.pointer (some ⟨q, 0, none⟩)] w fun e w' => e = .returned (.string ⟨#[]⟩) ∧ w' = w := by
  go_enter Tryz.func39, Tryz.ntmps39
  go_wp2_with (go_at_call 72; refine (has_bad q g bs k err _ _ H he).mono ?_; rintro e w' ⟨rfl, hw⟩; subst hw)
  go_ret
  exact ⟨rfl, rfl⟩

set_option maxHeartbeats 400000 in
theorem fbyte_end (q g : Nat) (bs : List UInt8) (k : Nat) (w : World) (H : RfS w q g bs k 0) (hl : bs.length - k < 1) :
    Calls Tryz.prog 38 #[.pointer (some ⟨q, 0, none⟩)] w fun e w' => e = .returned (.int .i64 0) ∧ RfS w' q g bs k 20 ∧ Chg w w' (fun i => i = q) := by
  go_enter Tryz.func38, Tryz.ntmps38
  go_wp2_with (go_at_call 72; refine (has_end q g bs k _ _ H (by omega)).mono ?_; rintro e w1 ⟨rfl, hR1, hc1⟩)
  go_ret
  exact ⟨rfl, hR1, hc1⟩
set_option maxHeartbeats 400000 in
theorem fint_end (q g : Nat) (bs : List UInt8) (k : Nat) (w : World) (H : RfS w q g bs k 0) (hl : bs.length - k < 8) :
    Calls Tryz.prog 75 #[.pointer (some ⟨q, 0, none⟩)] w fun e w' => e = .returned (.int .i64 0) ∧ RfS w' q g bs k 20 ∧ Chg w w' (fun i => i = q) := by
  go_enter Tryz.func75, Tryz.ntmps75
  go_wp2_with (go_at_call 72; refine (has_end q g bs k _ _ H (by omega)).mono ?_; rintro e w1 ⟨rfl, hR1, hc1⟩)
  go_ret
  exact ⟨rfl, hR1, hc1⟩
end Go.Proofs.YtpmlnkjamhelnaaGreat
namespace Go.Proofs.YtpmlnkjamhelnaaGreat
open Go.RowKit

theorem RfS.cellAt {w : World} {q g : Nat} {bs : List UInt8} {k : Nat} {err : Int} (H : RfS w q g bs k err) (h0 : 0 < bs.length) : ∃ off cap, (w.cell? ⟨q, 0, none⟩ = some (.slice (some ⟨g, off, none⟩) bs.length cap) ∧ bs.length ≤ cap ∧ cap ≤ maxLen) ∧ ∀ j (h : j < bs.length), w.cell? ⟨g, off + j, none⟩ = some (.int .u8 (bs[j].toNat : Int)) := by
  obtain ⟨⟨ao, cap, hE, hB, hc, hm⟩, hg, hk, hx⟩ := H
  rcases hB with hB | ⟨off, rfl, hB⟩
  · subst hB; simp at h0
  · exact ⟨off, cap, ⟨(cells3 hE).1.1, hc, hm⟩, hB⟩
theorem RfS.at1 {w : World} {q g : Nat} {bs : List UInt8} {k : Nat} {err : Int} (H : RfS w q g bs k err) : w.cell? ⟨q, 1, none⟩ = some (.int .i64 (k : Int)) ∧ w.frozen? ⟨q, 1, none⟩ = false ∧ w.cell? ⟨q, 2, none⟩ = some (.int .i64 err) := by
  obtain ⟨⟨ao, cap, hE, hB, hc, hm⟩, hg, hk, hx⟩ := H
  exact ⟨(cells3 hE).1.2.1, (cells3 hE).2.2.1, (cells3 hE).1.2.2⟩

set_option maxHeartbeats 400000 in
theorem fbyte_ok (q g : Nat) (bs : List UInt8) (k : Nat) (w : World) (H : RfS w q g bs k 0) (hl : k < bs.length) :
    Calls Tryz.prog 38 #[.pointer (some ⟨q, 0, none⟩)] w fun e w' => e = .returned (.int .i64 ((bs[k]'hl).toNat : Nat)) ∧ RfS w' q g bs (k + 1) 0 ∧ Chg w w' (fun i => i = q) := by
  go_enter Tryz.func38, Tryz.ntmps38
  go_wp2_with fail
  refine (has_ok q g bs k _ w H (by omega)).mono ?_
  rintro e w1 ⟨rfl, hc1⟩
  have H1 := H.chg hc1 id id
  have hx := H1.mx
  obtain ⟨c1, f1, c2⟩ := H1.at1
  have HR := H1.setAt (k' := k + 1) (N := (k : Int) + 1) (by omega) (by omega)
  have hc2 : Chg w (w1.setCell ⟨q, 1, none⟩ (.int .i64 ((k : Int) + 1))) (fun i => i = q) := (hc1.mono (fun _ _ e => e.elim)).trans (Chg.setCell w1 ⟨q, 1, none⟩ _) (fun _ _ e => e)
  have hb := (bs[k]'hl).toNat_lt
  clear H1 H
  go_wp2
  generalize w1.setCell ⟨q, 1, none⟩ (.int .i64 ((k : Int) + 1)) = w2 at HR hc2
  clear c1 f1 c2 hc1
  obtain ⟨off, cap, ⟨c0, hlc, hcm⟩, hcell⟩ := HR.cellAt (by omega)
  obtain ⟨c1, f1, c2⟩ := HR.at1
  rw [show (((k + 1 : Nat) : Int)) = (k : Int) + 1 by omega] at c1
  have ck := hcell k hl
  generalize hxx : (bs[k]'hl).toNat = x at ck hb
  have HX : Hid ((bs[k]'hl).toNat = x) := hxx
  clear hcell hxx
  go_quiet (fail)
  go_wp2
  go_ret
  exact ⟨ret_int (by rw [HX.out]), HR.chg (Chg.drewN _ _ (fun _ => False)) id id, hc2.trans (Chg.drewN _ _ _) (fun _ _ e => e)⟩
set_option maxHeartbeats 1000000 in
theorem fint_ok (q g : Nat) (bs : List UInt8) (k : Nat) (w : World) (H : RfS w q g bs k 0) (hl : k + 8 ≤ bs.length) :
    Calls Tryz.prog 75 #[.pointer (some ⟨q, 0, none⟩)] w fun e w' => e = .returned (.int .i64 (toInt (num ((bs.drop k).take 8)))) ∧ RfS w' q g bs (k + 8) 0 ∧ Chg w w' (fun i => i = q) := by
  go_enter Tryz.func75, Tryz.ntmps75
  go_wp2_with fail
  refine (has_ok q g bs k _ w H (by omega)).mono ?_
  rintro e w1 ⟨rfl, hc1⟩
  have H1 := H.chg hc1 id id
  have hx := H1.mx
  clear H
  go_wp2
  go_loopw [3, 4] (fun n i wr => ∃ j : Nat, j ≤ 8 ∧ i = .int .i64 j ∧ n = .int .u64 (num ((bs.drop k).take j) : Nat) ∧ RfS wr q g bs k 0 ∧ Chg w wr (fun _ => False)) (fun _ i _ => 8 - (intOf i).toNat)
  case atStart => exact ⟨0, Nat.zero_le _, rfl, rfl, H1, hc1⟩
  case round =>
    clear H1 hc1
    obtain ⟨j, hj, rfl, rfl, H1, hc1⟩ := hrel
    by_cases hlt : j < 8
    · obtain ⟨off, cap, ⟨c0, hlc, hcm⟩, hcell⟩ := H1.cellAt (by omega)
      obtain ⟨c1, f1, c2⟩ := H1.at1
      have ck := hcell (k + j) (by omega)
      have hS := num_snoc (bs.drop k) j (by rw [List.length_drop]; omega)
      rw [List.getElem_drop] at hS
      have hN := num_lt ((bs.drop k).take j)
      generalize num ((bs.drop k).take j) = n at hS hN
      unfold numStep at hS
      have hb := (bs[k + j]'(by omega)).toNat_lt
      generalize (bs[k + j]'(by omega)).toNat = x at ck hb hS
      have HS : Hid (num ((bs.drop k).take (j + 1)) = (n * 256 + x) % 18446744073709551616) := hS
      clear hcell hS
      go_wp2
      go_quiet (fail)
      go_wp2
      go_roundw
      case rel => exact ⟨j + 1, by omega, by go_num, by rw [HS.out, IntKind.wrap_u64, IntKind.wrap_u64]; congr 1; omega, H1.chg (Chg.drewN _ _ (fun _ => False)) id id, hc1.trans (Chg.drewN _ _ _) (fun _ _ e => e)⟩
      case measure => simp [intOf]; omega
    · obtain rfl : j = 8 := by omega
      have HR := H1.setAt (k' := k + 8) (N := (k : Int) + 8) (by omega) (by omega)
      obtain ⟨c1, f1, c2⟩ := H1.at1
      have hN := num_lt ((bs.drop k).take 8)
      have HN : Hid (wrap64 ((num ((bs.drop k).take 8) : Nat) : Int) = toInt (num ((bs.drop k).take 8))) := hid (wrap_toInt _ (num_lt _))
      have hc2 : ∀ v, Chg w (wr.setCell ⟨q, 1, none⟩ v) (fun i => i = q) := fun v => (hc1.mono (fun _ _ e => e.elim)).trans (Chg.setCell wr ⟨q, 1, none⟩ _) (fun _ _ e => e)
      go_wp2
      go_ret
      exact ⟨ret_int HN.out, HR, hc2 _⟩

theorem tl_at (bs : List UInt8) (k : Nat) (h : k + 2 ≤ bs.length) : tlOf (bs.drop k) = 256 * (bs[k]'(by omega)).toNat + (bs[k + 1]'(by omega)).toNat := by
  unfold tlOf
  rw [if_neg (by rw [List.length_drop]; omega), List.drop_eq_getElem_cons (by omega), List.drop_eq_getElem_cons (by omega), List.take_succ_cons, List.take_succ_cons, List.take_zero, num_two]
  omega
set_option maxHeartbeats 1000000 in
theorem ftext_end (q g : Nat) (bs : List UInt8) (k : Nat) (w : World) (H : RfS w q g bs k 0) (hl : bs.length - k < 2 + tlOf (bs.drop k)) :
    Calls Tryz.prog 39 #[.pointer (some ⟨q, 0, none⟩)] w fun e w' => e = .returned (.string ⟨#[]⟩) ∧ RfS w' q g bs k 20 ∧ Chg w w' (fun i => i = q) := by
  have hx := H.mx
  have hk := H.le
  by_cases h2 : bs.length - k < 2
  · clear hl
    go_enter Tryz.func39, Tryz.ntmps39
    go_wp2_with (go_at_call 72; refine (has_end q g bs k _ _ H (by omega)).mono ?_; rintro e w1 ⟨rfl, hR1, hc1⟩)
    go_ret
    exact ⟨rfl, hR1, hc1⟩
  · rw [tl_at bs k (by omega)] at hl
    go_enter Tryz.func39, Tryz.ntmps39
    go_wp2_with fail
    refine (has_ok q g bs k _ w H (by omega)).mono ?_
    rintro e w1 ⟨rfl, hc1⟩
    have H1 := H.chg hc1 id id
    obtain ⟨off, cap, ⟨c0, hlc, hcm⟩, hcell⟩ := H1.cellAt (by omega)
    obtain ⟨c1, f1, c2⟩ := H1.at1
    have ck := hcell k (by omega)
    have ck1 := hcell (k + 1) (by omega)
    have hb := (bs[k]'(by omega)).toNat_lt
    have hb1 := (bs[k + 1]'(by omega)).toNat_lt
    generalize (bs[k]'(by omega)).toNat = x at ck hb hl
    generalize (bs[k + 1]'(by omega)).toNat = y at ck1 hb1 hl
    clear hcell H
    go_wp2
    go_quiet (fail)
    go_wp2_with fail
    refine (has_end q g bs k _ _ (H1.chg (Chg.drewN _ _ (fun _ => False)) id id) (by omega)).mono ?_
    rintro e w2 ⟨rfl, hR2, hc2⟩
    have hc3 := ((hc1.trans (Chg.drewN _ _ _) (fun _ _ e => e)).mono (fun _ _ e => e.elim)).trans hc2 (fun _ _ e => e)
    go_wp2
    go_ret
    exact ⟨rfl, hR2, hc3⟩
set_option maxHeartbeats 1000000 in
theorem ftext_ok (q g : Nat) (bs : List UInt8) (k : Nat) (w : World) (H : RfS w q g bs k 0) (hl : 2 + tlOf (bs.drop k) ≤ bs.length - k) :
    Calls Tryz.prog 39 #[.pointer (some ⟨q, 0, none⟩)] w fun e w' => e = .returned (.string ⟨(((bs.drop k).drop 2).take (tlOf (bs.drop k))).toArray⟩) ∧ RfS w' q g bs (k + (2 + tlOf (bs.drop k))) 0 ∧ Chg w w' (fun i => i = q) := by
  have hx := H.mx
  have hk := H.le
  have hka : k < bs.length := by omega
  have hkb : k + 1 < bs.length := by omega
  have HT : Hid (tlOf (bs.drop k) = 256 * (bs[k]'hka).toNat + (bs[k + 1]'hkb).toNat) := hid (tl_at bs k (by omega))
  have hbT := (bs[k]'hka).toNat_lt
  have hbT1 := (bs[k + 1]'hkb).toNat_lt
  generalize hTT : tlOf (bs.drop k) = T at hl HT ⊢
  clear hTT
  go_enter Tryz.func39, Tryz.ntmps39
  go_wp2_with fail
  refine (has_ok q g bs k _ w H (by omega)).mono ?_
  rintro e w1 ⟨rfl, hc1⟩
  have H1 := H.chg hc1 id id
  obtain ⟨off, cap, ⟨c0, hlc, hcm⟩, hcell⟩ := H1.cellAt (by omega)
  obtain ⟨c1, f1, c2⟩ := H1.at1
  have ck := hcell k (by omega)
  have ck1 := hcell (k + 1) (by omega)
  generalize (bs[k]'(by omega)).toNat = x at ck hbT HT
  generalize (bs[k + 1]'(by omega)).toNat = y at ck1 hbT1 HT
  clear hcell H
  go_wp2
  go_quiet (fail)
  have eT : 256 * (x : Int) + (y : Int) = (T : Int) := by have := HT.out; omega
  go_wp2_with fail
  rw [eT]
  clear eT HT hbT hbT1
  refine (has_ok q g bs k _ _ (H1.chg (Chg.drewN _ _ (fun _ => False)) id id) (by omega)).mono ?_
  rintro e w2 ⟨rfl, hc2⟩
  have hc3 := (hc1.trans (Chg.drewN _ _ _) (fun _ _ e => e)).trans hc2 (fun _ _ e => e)
  have H2 := H1.chg ((Chg.drewN _ _ (fun _ => False)).trans hc2 (fun _ _ e => e)) id id
  clear H1 hc1 hc2 c0 c1 f1 c2 ck ck1
  obtain ⟨c1, f1, c2⟩ := H2.at1
  have HR := H2.setAt (k' := k + (2 + T)) (N := (k : Int) + 2 + (T : Int)) (by omega) (by omega)
  have hc4 : Chg w (w2.setCell ⟨q, 1, none⟩ (.int .i64 ((k : Int) + 2 + (T : Int)))) (fun i => i = q) := (hc3.mono (fun _ _ e => e.elim)).trans (Chg.setCell w2 ⟨q, 1, none⟩ _) (fun _ _ e => e)
  go_wp2
  generalize w2.setCell ⟨q, 1, none⟩ (.int .i64 ((k : Int) + 2 + (T : Int))) = w3 at HR hc4
  clear c1 f1 c2 hc3 H2 hlc hcm
  obtain ⟨off, cap, ⟨c0, hlc, hcm⟩, hcell⟩ := HR.cellAt (by omega)
  obtain ⟨c1, f1, c2⟩ := HR.at1
  rw [show (((k + (2 + T) : Nat) : Int)) = (k : Int) + 2 + (T : Int) by omega] at c1
  generalize hs : ((bs.drop k).drop 2).take T = s
  have hls : s.length = T := by rw [← hs]; simp; omega
  have hB : BsAt w3 g (some ⟨g, off, none⟩) bs := .inr ⟨off, rfl, hcell⟩
  have hB2 := (hB.from (k + 2) cap hlc).take T
  rw [← List.drop_drop, hs] at hB2
  have Hs : Hid (((bs.drop k).drop 2).take T = s) := hs
  clear hs hcell hB
  by_cases hcap : cap = k + 2
  · have s1 : ∀ nq c, (convert 22 9 (.slice (some ⟨g, off, none⟩) T c)).run Tryz.prog (w3.drewN nq) = .ok (.string ⟨s.toArray⟩) (w3.drewN nq) := fun nq c => by
      rw [if_pos hcap] at hB2
      rw [← hls]; exact run_str (hB2.bs.keep (fun a v h => by simpa using h)) c
    have i1 : (0 : Int) ≤ (k : Int) + 2 := by omega
    have i2 : (k : Int) + 2 + (T : Int) ≤ (cap : Int) := by omega
    clear hB2
    go_quiet (fail)
    go_wp2
    go_ret
    exact ⟨by rw [Hs.out]; rfl, HR.chg (Chg.drewN _ _ (fun _ => False)) id id, hc4.trans (Chg.drewN _ _ _) (fun _ _ e => e)⟩
  · have s1 : ∀ nq c, (convert 22 9 (.slice (some ⟨g, off + (k + 2), none⟩) T c)).run Tryz.prog (w3.drewN nq) = .ok (.string ⟨s.toArray⟩) (w3.drewN nq) := fun nq c => by
      rw [if_neg hcap] at hB2
      rw [← hls]; exact run_str (hB2.bs.keep (fun a v h => by simpa using h)) c
    have i1 : (0 : Int) ≤ (k : Int) + 2 := by omega
    have i2 : (k : Int) + 2 + (T : Int) ≤ (cap : Int) := by omega
    clear hB2
    go_quiet (fail)
    go_wp2
    go_ret
    exact ⟨by rw [Hs.out]; rfl, HR.chg (Chg.drewN _ _ (fun _ => False)) id id, hc4.trans (Chg.drewN _ _ _) (fun _ _ e => e)⟩
end Go.Proofs.YtpmlnkjamhelnaaGreat
namespace Go.Proofs.YtpmlnkjamhelnaaGreat
open Go.RowKit

/-- The error that a call leaves which needs nd bytes. -/
def errOf (bs : List UInt8) (err : Int) (nd : Nat) : Int := if err ≠ 0 then err else if bs.length < nd then 20 else 0
/-- How many bytes it takes. -/
def cutOf (bs : List UInt8) (err : Int) (nd : Nat) : Nat := if err ≠ 0 then 0 else if bs.length < nd then 0 else nd
def ansByte (bs : List UInt8) (err : Int) : Int := if err ≠ 0 then 0 else if bs.length < 1 then 0 else ((bs.getD 0 0).toNat : Nat)
def ansInt (bs : List UInt8) (err : Int) : Int := if err ≠ 0 then 0 else if bs.length < 8 then 0 else toInt (num (bs.take 8))
def ansText (bs : List UInt8) (err : Int) : List UInt8 := if err ≠ 0 then [] else if bs.length < 2 + tlOf bs then [] else (bs.drop 2).take (tlOf bs)

theorem of_bad {bs : List UInt8} {err : Int} (nd : Nat) (h : err ≠ 0) : errOf bs err nd = err ∧ cutOf bs err nd = 0 := by
  unfold errOf cutOf; rw [if_pos h, if_pos h]; exact ⟨rfl, rfl⟩
theorem of_end {bs : List UInt8} {nd : Nat} (h : bs.length < nd) : errOf bs 0 nd = 20 ∧ cutOf bs 0 nd = 0 := by
  unfold errOf cutOf; rw [if_neg (by simp), if_pos h, if_neg (by simp), if_pos h]; exact ⟨rfl, rfl⟩
theorem of_ok {bs : List UInt8} {nd : Nat} (h : ¬ bs.length < nd) : errOf bs 0 nd = 0 ∧ cutOf bs 0 nd = nd := by
  unfold errOf cutOf; rw [if_neg (by simp), if_neg h, if_neg (by simp), if_neg h]; exact ⟨rfl, rfl⟩

theorem rbyte_all (p h g : Nat) (bs : List UInt8) (err : Int) (w : World) (H : RdS w p h g bs err) :
    Calls Tryz.prog 66 #[.pointer (some ⟨p, 0, none⟩)] w fun e w' => e = .returned (.int .i64 (ansByte bs err)) ∧ RdS w' p h g (bs.drop (cutOf bs err 1)) (errOf bs err 1) ∧ Chg w w' (fun k => k = h) := by
  unfold ansByte
  by_cases he : err = 0
  · subst he
    rw [if_neg (by simp)]
    by_cases hl : bs.length < 1
    · obtain ⟨e1, e2⟩ := of_end hl
      rw [e1, e2, if_pos hl]
      exact rbyte_end p h g bs w H hl
    · obtain ⟨e1, e2⟩ := of_ok hl
      rw [e1, e2, if_neg hl, List.getD_eq_getElem?_getD, List.getElem?_eq_getElem (by omega), Option.getD_some]
      exact rbyte_ok p h g bs w H (by omega)
  · obtain ⟨e1, e2⟩ := of_bad (bs := bs) 1 he
    rw [e1, e2, if_pos he]
    refine (rbyte_bad p h g bs err w H he).mono ?_
    rintro e w' ⟨rfl, rfl⟩
    exact ⟨rfl, H, Chg.refl _ _⟩
theorem rint_all (p h g : Nat) (bs : List UInt8) (err : Int) (w : World) (H : RdS w p h g bs err) :
    Calls Tryz.prog 144 #[.pointer (some ⟨p, 0, none⟩)] w fun e w' => e = .returned (.int .i64 (ansInt bs err)) ∧ RdS w' p h g (bs.drop (cutOf bs err 8)) (errOf bs err 8) ∧ Chg w w' (fun k => k = h) := by
  unfold ansInt
  by_cases he : err = 0
  · subst he
    rw [if_neg (by simp)]
    by_cases hl : bs.length < 8
    · obtain ⟨e1, e2⟩ := of_end hl
      rw [e1, e2, if_pos hl]
      exact rint_end p h g bs w H hl
    · obtain ⟨e1, e2⟩ := of_ok hl
      rw [e1, e2, if_neg hl]
      exact rint_ok p h g bs w H (by omega)
  · obtain ⟨e1, e2⟩ := of_bad (bs := bs) 8 he
    rw [e1, e2, if_pos he]
    refine (rint_bad p h g bs err w H he).mono ?_
    rintro e w' ⟨rfl, rfl⟩
    exact ⟨rfl, H, Chg.refl _ _⟩
theorem rtext_all (p h g : Nat) (bs : List UInt8) (err : Int) (w : World) (H : RdS w p h g bs err) :
    Calls Tryz.prog 67 #[.pointer (some ⟨p, 0, none⟩)] w fun e w' => e = .returned (.string ⟨(ansText bs err).toArray⟩) ∧ RdS w' p h g (bs.drop (cutOf bs err (2 + tlOf bs))) (errOf bs err (2 + tlOf bs)) ∧ Chg w w' (fun k => k = h) := by
  unfold ansText
  by_cases he : err = 0
  · subst he
    rw [if_neg (by simp)]
    by_cases hl : bs.length < 2 + tlOf bs
    · obtain ⟨e1, e2⟩ := of_end hl
      rw [e1, e2, if_pos hl]
      exact rtext_end p h g bs w H hl
    · obtain ⟨e1, e2⟩ := of_ok hl
      rw [e1, e2, if_neg hl]
      exact rtext_ok p h g bs w H (by omega)
  · obtain ⟨e1, e2⟩ := of_bad (bs := bs) (2 + tlOf bs) he
    rw [e1, e2, if_pos he]
    refine (rtext_bad p h g bs err w H he).mono ?_
    rintro e w' ⟨rfl, rfl⟩
    exact ⟨rfl, H, Chg.refl _ _⟩

theorem fbyte_all (q g : Nat) (bs : List UInt8) (k : Nat) (err : Int) (w : World) (H : RfS w q g bs k err) :
    Calls Tryz.prog 38 #[.pointer (some ⟨q, 0, none⟩)] w fun e w' => e = .returned (.int .i64 (ansByte (bs.drop k) err)) ∧ RfS w' q g bs (k + cutOf (bs.drop k) err 1) (errOf (bs.drop k) err 1) ∧ Chg w w' (fun i => i = q) := by
  unfold ansByte
  have hk := H.le
  by_cases he : err = 0
  · subst he
    rw [if_neg (by simp)]
    by_cases hl : (bs.drop k).length < 1
    · obtain ⟨e1, e2⟩ := of_end hl
      rw [e1, e2, if_pos hl]
      exact fbyte_end q g bs k w H (by rw [List.length_drop] at hl; exact hl)
    · obtain ⟨e1, e2⟩ := of_ok hl
      rw [List.length_drop] at hl
      rw [e1, e2, if_neg (by rw [List.length_drop]; exact hl), List.getD_eq_getElem?_getD, List.getElem?_drop, Nat.add_zero, List.getElem?_eq_getElem (by omega), Option.getD_some]
      exact fbyte_ok q g bs k w H (by omega)
  · obtain ⟨e1, e2⟩ := of_bad (bs := bs.drop k) 1 he
    rw [e1, e2, if_pos he]
    refine (fbyte_bad q g bs k err w H he).mono ?_
    rintro e w' ⟨rfl, rfl⟩
    exact ⟨rfl, H, Chg.refl _ _⟩
theorem fint_all (q g : Nat) (bs : List UInt8) (k : Nat) (err : Int) (w : World) (H : RfS w q g bs k err) :
    Calls Tryz.prog 75 #[.pointer (some ⟨q, 0, none⟩)] w fun e w' => e = .returned (.int .i64 (ansInt (bs.drop k) err)) ∧ RfS w' q g bs (k + cutOf (bs.drop k) err 8) (errOf (bs.drop k) err 8) ∧ Chg w w' (fun i => i = q) := by
  unfold ansInt
  have hk := H.le
  by_cases he : err = 0
  · subst he
    rw [if_neg (by simp)]
    by_cases hl : (bs.drop k).length < 8
    · obtain ⟨e1, e2⟩ := of_end hl
      rw [e1, e2, if_pos hl]
      exact fint_end q g bs k w H (by rw [List.length_drop] at hl; exact hl)
    · obtain ⟨e1, e2⟩ := of_ok hl
      rw [e1, e2, if_neg hl]
      exact fint_ok q g bs k w H (by rw [List.length_drop] at hl; omega)
  · obtain ⟨e1, e2⟩ := of_bad (bs := bs.drop k) 8 he
    rw [e1, e2, if_pos he]
    refine (fint_bad q g bs k err w H he).mono ?_
    rintro e w' ⟨rfl, rfl⟩
    exact ⟨rfl, H, Chg.refl _ _⟩
theorem ftext_all (q g : Nat) (bs : List UInt8) (k : Nat) (err : Int) (w : World) (H : RfS w q g bs k err) :
    Calls Tryz.prog 39 #[.pointer (some ⟨q, 0, none⟩)] w fun e w' => e = .returned (.string ⟨(ansText (bs.drop k) err).toArray⟩) ∧ RfS w' q g bs (k + cutOf (bs.drop k) err (2 + tlOf (bs.drop k))) (errOf (bs.drop k) err (2 + tlOf (bs.drop k))) ∧ Chg w w' (fun i => i = q) := by
  unfold ansText
  have hk := H.le
  by_cases he : err = 0
  · subst he
    rw [if_neg (by simp)]
    by_cases hl : (bs.drop k).length < 2 + tlOf (bs.drop k)
    · obtain ⟨e1, e2⟩ := of_end hl
      rw [e1, e2, if_pos hl]
      exact ftext_end q g bs k w H (by rw [List.length_drop] at hl; exact hl)
    · obtain ⟨e1, e2⟩ := of_ok hl
      rw [e1, e2, if_neg hl]
      exact ftext_ok q g bs k w H (by rw [List.length_drop] at hl; omega)
  · obtain ⟨e1, e2⟩ := of_bad (bs := bs.drop k) (2 + tlOf (bs.drop k)) he
    rw [e1, e2, if_pos he]
    refine (ftext_bad q g bs k err w H he).mono ?_
    rintro e w' ⟨rfl, rfl⟩
    exact ⟨rfl, H, Chg.refl _ _⟩

end Go.Proofs.YtpmlnkjamhelnaaGreat
namespace Go.Proofs.YtpmlnkjamhelnaaGreat
open Go.RowKit

theorem be_succ (n k : Nat) : be n (k + 1) = be (n / 256) k ++ [UInt8.ofNat n] := by
  unfold be
  rw [List.range_succ, List.map_append, List.map_cons, List.map_nil]
  congr 1
  · apply List.map_congr_left
    intro j hj
    have hj' : j < k := List.mem_range.1 hj
    congr 1
    rw [show k + 1 - 1 - j = (k - 1 - j) + 1 by omega, Nat.pow_succ, Nat.mul_comm, Nat.div_div_eq_div_mul]
  · simp
theorem num_be (n k : Nat) (hk : k ≤ 8) : num (be n k) = n % 256 ^ k := by
  induction k generalizing n with
  | zero => simp [be, num, Nat.mod_one]
  | succ k ih =>
    rw [be_succ]
    have e : num (be (n / 256) k ++ [UInt8.ofNat n]) = numStep (num (be (n / 256) k)) (UInt8.ofNat n) := by simp only [num, List.foldl_append, List.foldl_cons, List.foldl_nil]
    rw [e, ih (n / 256) (by omega)]
    unfold numStep
    rw [UInt8.toNat_ofNat', show (256 : Nat) ^ (k + 1) = 256 * 256 ^ k by rw [Nat.pow_succ, Nat.mul_comm], Nat.mod_mul, show (2 : Nat) ^ 8 = 256 from rfl]
    have hp : 256 ^ k ≤ 256 ^ 7 := Nat.pow_le_pow_right (by decide) (by omega)
    have hl : n / 256 % 256 ^ k < 256 ^ k := Nat.mod_lt _ (Nat.pow_pos (by decide))
    have h7 : (256 : Nat) ^ 7 = 72057594037927936 := by decide
    rw [h7] at hp
    rw [Nat.mod_eq_of_lt (by omega)]
    omega
theorem back_int (x : Int) (h1 : -9223372036854775808 ≤ x) (h2 : x ≤ 9223372036854775807) : toInt (num (be64 x)) = x := by
  unfold be64
  rw [num_be _ 8 (by decide), show (256 : Nat) ^ 8 = 18446744073709551616 from rfl]
  unfold toInt
  split <;> omega
theorem ints_drop (ns : List Int) (k : Nat) (h : k < ns.length) : ints (ns.drop k) = be64 ns[k] ++ ints (ns.drop (k + 1)) := by
  rw [List.drop_eq_getElem_cons h]; simp only [ints, List.flatMap_cons]
theorem texts_drop (ss : List (List UInt8)) (k : Nat) (h : k < ss.length) : texts (ss.drop k) = text ss[k] ++ texts (ss.drop (k + 1)) := by
  rw [List.drop_eq_getElem_cons h]; simp only [texts, List.flatMap_cons]
theorem read_int (x : Int) (r : List UInt8) : (be64 x ++ r).take 8 = be64 x ∧ (be64 x ++ r).drop 8 = r := by
  have h := be64_length x
  exact ⟨by rw [← h]; exact List.take_left, by rw [← h]; exact List.drop_left⟩
theorem read_text (s r : List UInt8) (hs : s.length ≤ 65535) : tlOf (text s ++ r) = s.length ∧ ((text s ++ r).drop 2).take s.length = s ∧ (text s ++ r).drop (2 + s.length) = r ∧ 2 + s.length ≤ (text s ++ r).length := by
  have hb := be_length s.length 2
  have e1 : (text s ++ r).take 2 = be s.length 2 := by unfold text; rw [List.append_assoc, ← hb]; exact List.take_left
  have e2 : (text s ++ r).drop 2 = s ++ r := by unfold text; rw [List.append_assoc, ← hb]; exact List.drop_left
  have hl : (text s ++ r).length = 2 + s.length + r.length := by rw [List.length_append, text_length]
  refine ⟨?_, by rw [e2]; exact List.take_left, ?_, by omega⟩
  · unfold tlOf
    rw [if_neg (by omega), e1, num_be _ 2 (by decide)]
    omega
  · rw [← List.drop_drop, e2]; exact List.drop_left
theorem Is.keep {w w' : World} {ao : Option Addr} {ns : List Int} (h : Is w ao ns) (hk : ∀ a v, w.cell? a = some v → w'.cell? a = some v) : Is w' ao ns := by
  rcases h with h | ⟨b, off, h, hc⟩
  · exact .inl h
  · exact .inr ⟨b, off, h, fun j hj => hk _ _ (hc j hj)⟩
theorem Ss.keep {w w' : World} {ao : Option Addr} {ss : List (List UInt8)} (h : Ss w ao ss) (hk : ∀ a v, w.cell? a = some v → w'.cell? a = some v) : Ss w' ao ss := by
  rcases h with h | ⟨b, off, h, hc⟩
  · exact .inl h
  · exact .inr ⟨b, off, h, fun j hj => hk _ _ (hc j hj)⟩
/-- What was written is read. -/
theorem rint_back (p h g : Nat) (x : Int) (r : List UInt8) (w : World) (H : RdS w p h g (be64 x ++ r) 0) (h1 : -9223372036854775808 ≤ x) (h2 : x ≤ 9223372036854775807) :
    Calls Tryz.prog 144 #[.pointer (some ⟨p, 0, none⟩)] w fun e w' => e = .returned (.int .i64 x) ∧ RdS w' p h g r 0 ∧ Chg w w' (fun k => k = h) := by
  obtain ⟨e1, e2⟩ := read_int x r
  refine (rint_ok p h g _ w H (by rw [List.length_append, be64_length]; omega)).mono ?_
  rintro e w' ⟨rfl, hR, hc⟩
  rw [e2] at hR
  exact ⟨by rw [e1, back_int x h1 h2], hR, hc⟩
theorem rtext_back (p h g : Nat) (s r : List UInt8) (w : World) (H : RdS w p h g (text s ++ r) 0) (hs : s.length ≤ 65535) :
    Calls Tryz.prog 67 #[.pointer (some ⟨p, 0, none⟩)] w fun e w' => e = .returned (.string ⟨s.toArray⟩) ∧ RdS w' p h g r 0 ∧ Chg w w' (fun k => k = h) := by
  obtain ⟨e1, e2, e3, e4⟩ := read_text s r hs
  refine (rtext_ok p h g _ w H (by rw [e1]; exact e4)).mono ?_
  rintro e w' ⟨rfl, hR, hc⟩
  rw [e1, e3] at hR
  exact ⟨by rw [e1, e2], hR, hc⟩
theorem rbyte_back (p h g : Nat) (x : UInt8) (r : List UInt8) (w : World) (H : RdS w p h g (x :: r) 0) :
    Calls Tryz.prog 66 #[.pointer (some ⟨p, 0, none⟩)] w fun e w' => e = .returned (.int .i64 (x.toNat : Nat)) ∧ RdS w' p h g r 0 ∧ Chg w w' (fun k => k = h) := by
  refine (rbyte_ok p h g _ w H (by simp)).mono ?_
  rintro e w' ⟨rfl, hR, hc⟩
  exact ⟨rfl, hR, hc⟩
theorem RdS.drew {w : World} {p h g : Nat} {bs : List UInt8} {err : Int} (H : RdS w p h g bs err) : RdS w.drew p h g bs err := H.chg (Chg.drew w (fun _ => False)) id id id
/-- Nothing that lies below a Reader turns. -/
theorem rd_below {w wr w2 : World} {h : Nat} (hb : Below w.heap.size w wr) (hh : w.heap.size ≤ h) (hc : Chg wr w2 (fun k => k = h)) : Below w.heap.size w w2 :=
  hb.trans (hc.below hb.size (fun i e => by omega))

end Go.Proofs.YtpmlnkjamhelnaaGreat
namespace Go.Proofs.YtpmlnkjamhelnaaGreat
open Go.RowKit
/-- What a reader has: the bytes, and its error. -/
abbrev RSt := List UInt8 × Int
def rB (s : RSt) (nd : Nat) : RSt := (s.1.drop (cutOf s.1 s.2 nd), errOf s.1 s.2 nd)
def gByte (s : RSt) : Int × RSt := (ansByte s.1 s.2, rB s 1)
def gInt (s : RSt) : Int × RSt := (ansInt s.1 s.2, rB s 8)
def gText (s : RSt) : List UInt8 × RSt := (ansText s.1 s.2, rB s (2 + tlOf s.1))
/-- Up to n things, one behind the other, till an error. -/
def gMany {α : Type} (one : RSt → α × RSt) : Nat → RSt → List α × RSt
  | 0, s => ([], s)
  | n + 1, s => if s.2 ≠ 0 then ([], s) else ((one s).1 :: (gMany one n (one s).2).1, (gMany one n (one s).2).2)
def gIns (s : RSt) : (Int × Int) × RSt :=
  if takesN (gByte s).1 = 0 then (((gByte s).1, 0), (gByte s).2) else if takesN (gByte s).1 = 1 then (((gByte s).1, (gInt (gByte s).2).1), (gInt (gByte s).2).2) else (((gByte s).1, (gByte (gByte s).2).1), (gByte (gByte s).2).2)
def gTypes (s : RSt) : List Int × RSt := gMany gByte (gByte s).1.toNat (gByte s).2
def gCode (s : RSt) : List (Int × Int) × RSt := gMany gIns ((gByte s).1.toNat * 256 + (gByte (gByte s).2).1.toNat) (gByte (gByte s).2).2
def gFn (s : RSt) : Fn × RSt := (⟨(gTypes s).1, (gTypes (gTypes s).2).1, (gTypes (gTypes (gTypes s).2).2).1, (gCode (gTypes (gTypes (gTypes s).2).2).2).1⟩, (gCode (gTypes (gTypes (gTypes s).2).2).2).2)
def gConsts (s : RSt) : List (List UInt8) × RSt := gMany gText (gByte s).1.toNat (gByte s).2
def gFuncs (s : RSt) : List Fn × RSt := gMany gFn (gByte s).1.toNat (gByte s).2
def gScr (s : RSt) : Scr × RSt := (⟨(gConsts s).1, (gFuncs (gConsts s).2).1⟩, (gFuncs (gConsts s).2).2)
/-- The script that bytes are, if they are one. -/
def getOk (bs : List UInt8) : Bool := decide (doneOf (gScr (bs, 0)).2.1 (gScr (bs, 0)).2.2 = 0) && (gScr (bs, 0)).1.right
/-- What is written is read. -/
def Reads {α : Type} (one : RSt → α × RSt) (x : α) (bs : List UInt8) : Prop := ∀ r, one (bs ++ r, 0) = (x, (r, 0))
theorem gByte_reads (x : UInt8) : Reads gByte (x.toNat : Int) [x] := fun r => by
  simp [gByte, ansByte, rB, cutOf, errOf]
theorem gByte_reads' (n : Int) (h : 0 ≤ n ∧ n ≤ 255) : Reads gByte n [UInt8.ofNat n.toNat] := by
  have := gByte_reads (UInt8.ofNat n.toNat)
  rw [UInt8.toNat_ofNat', Nat.mod_eq_of_lt (by omega)] at this
  rw [show ((n.toNat : Nat) : Int) = n from by omega] at this
  exact this
theorem gInt_reads (x : Int) (h1 : -9223372036854775808 ≤ x) (h2 : x ≤ 9223372036854775807) : Reads gInt x (be64 x) := fun r => by
  obtain ⟨e1, e2⟩ := read_int x r
  have hl : ¬ (be64 x ++ r).length < 8 := by rw [List.length_append, be64_length]; omega
  have e3 := (of_ok hl).1
  have e4 := (of_ok hl).2
  simp only [gInt, rB, ansInt, if_neg hl]
  rw [e3, e4, e1, e2, back_int x h1 h2]
  rfl
theorem gText_reads (s : List UInt8) (h : s.length ≤ 65535) : Reads gText s (text s) := fun r => by
  obtain ⟨e1, e2, e3, e4⟩ := read_text s r h
  have hl : ¬ (text s ++ r).length < 2 + s.length := by omega
  simp only [gText, rB, ansText]
  rw [e1, if_neg (by decide), if_neg hl, (of_ok hl).1, (of_ok hl).2, e2, e3]
theorem gMany_reads {α : Type} {one : RSt → α × RSt} (enc : α → List UInt8) : ∀ (L : List α), (∀ x ∈ L, Reads one x (enc x)) → Reads (gMany one L.length) L (L.flatMap enc)
  | [], _ => fun r => rfl
  | x :: L, h => fun r => by
    have ih := gMany_reads enc L (fun y hy => h y (List.mem_cons_of_mem _ hy)) r
    have h0 := h x (List.mem_cons_self ..) (L.flatMap enc ++ r)
    show gMany one (L.length + 1) _ = _
    unfold gMany
    rw [List.flatMap_cons, List.append_assoc, if_neg (by simp), h0]
    simp only
    rw [ih]
theorem gTypes_reads (l : List Int) (hl : l.length ≤ 255) (h : ∀ x ∈ l, 0 ≤ x ∧ x ≤ 255) : Reads gTypes l ([UInt8.ofNat l.length] ++ byts l) := fun r => by
  have h1 := gByte_reads' (l.length : Int) (by omega) (byts l ++ r)
  rw [Int.toNat_natCast] at h1
  unfold gTypes
  rw [List.append_assoc, h1]
  have e : byts l = l.flatMap fun n => [UInt8.ofNat n.toNat] := by unfold byts; rw [List.map_eq_flatMap]
  simp only [Int.toNat_natCast]
  rw [e]
  exact gMany_reads _ l (fun x hx => gByte_reads' x (h x hx)) r
theorem gIns_reads (x : Int × Int) (h : 0 ≤ x.1 ∧ x.1 ≤ 255) (h1 : takesN x.1 = 0 → x.2 = 0) (h2 : takesN x.1 = 1 → -9223372036854775808 ≤ x.2 ∧ x.2 ≤ 9223372036854775807) (h3 : takesN x.1 ≠ 0 → takesN x.1 ≠ 1 → 0 ≤ x.2 ∧ x.2 ≤ 255) : Reads gIns x (insB x) := fun r => by
  obtain ⟨o, a⟩ := x
  simp only at *
  unfold gIns insB
  rw [List.append_assoc, gByte_reads' o h]
  simp only
  by_cases t0 : takesN o = 0
  · rw [if_pos t0, if_pos t0, h1 t0]
    rfl
  · rw [if_neg t0, if_neg t0]
    by_cases t1 : takesN o = 1
    · rw [if_pos t1, if_pos t1, gInt_reads a (h2 t1).1 (h2 t1).2]
    · rw [if_neg t1, if_neg t1, gByte_reads' a (h3 t0 t1)]
theorem gCode_reads (is : List (Int × Int)) (hl : is.length ≤ 65535) (h : ∀ x ∈ is, Reads gIns x (insB x)) : Reads gCode is (codeB is) := fun r => by
  unfold gCode codeB byts
  simp only [List.map_cons, List.map_nil, Int.toNat_natCast, List.cons_append, List.nil_append]
  have a1 := gByte_reads' ((is.length / 256 : Nat) : Int) (by omega) (UInt8.ofNat (is.length % 256) :: (is.flatMap insB ++ r))
  have a2 := gByte_reads' ((is.length % 256 : Nat) : Int) (by omega) (is.flatMap insB ++ r)
  rw [Int.toNat_natCast] at a1 a2
  simp only [List.cons_append, List.nil_append] at a1 a2
  rw [a1]
  simp only
  rw [a2]
  simp only [Int.toNat_natCast]
  rw [show is.length / 256 * 256 + is.length % 256 = is.length by omega]
  exact gMany_reads _ is h r
theorem Fn.right_zero {nc nf : Nat} {f : Fn} (h : Fn.right nc nf f = true) : ∀ x ∈ f.code, (takesN x.1 = 0 → x.2 = 0) ∧ (takesN x.1 = 1 → -9223372036854775808 ≤ x.2 ∧ x.2 ≤ 9223372036854775807) := by
  unfold Fn.right at h
  simp only [Bool.and_eq_true, List.all_eq_true] at h
  intro x hx
  have hi := h.2 x hx
  unfold insOk at hi
  simp only [Bool.and_eq_true, decide_eq_true_eq] at hi
  obtain ⟨⟨_, i2⟩, i3⟩ := hi
  refine ⟨fun t => ?_, fun t => ?_⟩
  · rw [t] at i2 i3
    simp [boundsN] at i2 i3
    omega
  · rw [t] at i2 i3
    simp [boundsN] at i2 i3
    omega
theorem gFn_reads {nc nf : Nat} (f : Fn) (hc : nc ≤ 32) (hf : nf ≤ 16) (h : Fn.right nc nf f = true) : Reads gFn f (funcB f) := fun r => by
  obtain ⟨h1, h2⟩ := Fn.right_lists h
  have h3 := Fn.right_code hc hf h
  have h4 := Fn.right_zero h
  have l0 := h1 f.p (by simp)
  have l1 := h1 f.r (by simp)
  have l2 := h1 f.l (by simp)
  have e : funcB f ++ r = ([UInt8.ofNat f.p.length] ++ byts f.p) ++ (([UInt8.ofNat f.r.length] ++ byts f.r) ++ (([UInt8.ofNat f.l.length] ++ byts f.l) ++ (codeB f.code ++ r))) := by
    unfold funcB lens
    simp only [List.flatMap_cons, List.flatMap_nil, List.append_assoc, List.nil_append]
  have hC := gCode_reads f.code (by omega) (fun x hx => gIns_reads x ⟨(h3 x hx).1, (h3 x hx).2.1⟩ (h4 x hx).1 (h4 x hx).2 (fun a b => by rcases (h3 x hx).2.2 with q | q | q <;> first | exact absurd q a | exact absurd q b | exact q))
  unfold gFn
  rw [e, gTypes_reads f.p (by omega) l0.2]
  simp only
  rw [gTypes_reads f.r (by omega) l1.2]
  simp only
  rw [gTypes_reads f.l (by omega) l2.2]
  simp only
  rw [hC]
theorem Scr.right_parts {s : Scr} (h : s.right = true) : s.consts.length ≤ 32 ∧ 1 ≤ s.funcs.length ∧ s.funcs.length ≤ 16 ∧ (∀ x ∈ s.consts, x.length ≤ 256) ∧ ∀ f ∈ s.funcs, Fn.right s.consts.length s.funcs.length f = true := by
  unfold Scr.right at h
  simp only [Bool.and_eq_true, decide_eq_true_eq, List.all_eq_true] at h
  exact ⟨h.1.1.1.1, h.1.1.1.2, h.1.1.2, h.1.2, h.2⟩
theorem gScr_reads {s : Scr} (h : s.right = true) : Reads gScr s (scrB s) := fun r => by
  obtain ⟨h0, h1, h2, h3, h4⟩ := Scr.right_parts h
  have a1 := gByte_reads' (s.consts.length : Int) (by omega) (texts s.consts ++ ([UInt8.ofNat s.funcs.length] ++ (s.funcs.flatMap funcB ++ r)))
  have a2 := gByte_reads' (s.funcs.length : Int) (by omega) (s.funcs.flatMap funcB ++ r)
  rw [Int.toNat_natCast] at a1 a2
  have b1 := gMany_reads (one := gText) text s.consts (fun x hx => gText_reads x (by have := h3 x hx; omega)) ([UInt8.ofNat s.funcs.length] ++ (s.funcs.flatMap funcB ++ r))
  have b2 := gMany_reads (one := gFn) funcB s.funcs (fun f hf => gFn_reads f h0 h2 (h4 f hf)) r
  have e : scrB s ++ r = [UInt8.ofNat s.consts.length] ++ (texts s.consts ++ ([UInt8.ofNat s.funcs.length] ++ (s.funcs.flatMap funcB ++ r))) := by
    unfold scrB
    simp only [List.append_assoc]
  have c1 : gConsts (scrB s ++ r, 0) = (s.consts, ([UInt8.ofNat s.funcs.length] ++ (s.funcs.flatMap funcB ++ r), 0)) := by
    unfold gConsts
    rw [e, a1]
    simp only [Int.toNat_natCast]
    exact b1
  have c2 : gFuncs ([UInt8.ofNat s.funcs.length] ++ (s.funcs.flatMap funcB ++ r), 0) = (s.funcs, (r, 0)) := by
    unfold gFuncs
    rw [a2]
    simp only [Int.toNat_natCast]
    exact b2
  unfold gScr
  rw [c1]
  simp only
  rw [c2]
/-- Two scripts that may be have the same bytes just if they are the same. -/
theorem scrB_inj {s t : Scr} (hs : s.right = true) (ht : t.right = true) : scrB s = scrB t ↔ s = t := by
  refine ⟨fun e => ?_, fun e => by rw [e]⟩
  have h1 := gScr_reads hs []
  have h2 := gScr_reads ht []
  rw [e, h2] at h1
  exact (congrArg Prod.fst h1).symm
theorem getOk_self {s : Scr} (hs : s.right = true) : getOk (scrB s) = true ∧ (gScr (scrB s, 0)).1 = s := by
  have h1 := gScr_reads hs []
  rw [List.append_nil] at h1
  unfold getOk
  rw [h1]
  exact ⟨by simp [doneOf, hs], rfl⟩
theorem getOk_more {s : Scr} (hs : s.right = true) (x : UInt8) : getOk (scrB s ++ [x]) = false := by
  have h1 := gScr_reads hs [x]
  unfold getOk
  rw [h1]
  simp [doneOf]
/-- An error stays, and what was read without one is read the same where more stands behind. -/
structure Steady {α : Type} (one : RSt → α × RSt) : Prop where
  err : ∀ s, s.2 ≠ 0 → (one s).2.2 ≠ 0
  ext : ∀ bs r, (one (bs, 0)).2.2 = 0 → one (bs ++ r, 0) = ((one (bs, 0)).1, ((one (bs, 0)).2.1 ++ r, 0))
theorem rB_err (s : RSt) (nd : Nat) (h : s.2 ≠ 0) : (rB s nd).2 ≠ 0 := by
  unfold rB
  rw [(of_bad nd h).1]
  exact h
theorem rB_ok {bs : List UInt8} {nd : Nat} (h : (rB (bs, 0) nd).2 = 0) : ¬ bs.length < nd := fun hl => by
  unfold rB at h
  simp only at h
  rw [(of_end hl).1] at h
  cases h
theorem rB_ext {bs : List UInt8} {nd : Nat} (h : ¬ bs.length < nd) (r : List UInt8) : rB (bs ++ r, 0) nd = ((rB (bs, 0) nd).1 ++ r, 0) := by
  unfold rB
  simp only
  rw [(of_ok h).2, (of_ok (bs := bs ++ r) (nd := nd) (by rw [List.length_append]; omega)).1, (of_ok (bs := bs ++ r) (nd := nd) (by rw [List.length_append]; omega)).2, List.drop_append_of_le_length (by omega)]
theorem gByte_steady : Steady gByte := by
  refine ⟨fun s h => rB_err s 1 h, fun bs r h => ?_⟩
  have hl := rB_ok h
  have e := rB_ext hl r
  unfold gByte at h ⊢
  rw [e]
  simp only [ansByte, Prod.mk.injEq, and_true, ne_eq, not_true_eq_false, if_false]
  rw [if_neg hl, if_neg (by rw [List.length_append]; omega), List.getD_eq_getElem?_getD, List.getD_eq_getElem?_getD, List.getElem?_append_left (by omega)]
theorem gInt_steady : Steady gInt := by
  refine ⟨fun s h => rB_err s 8 h, fun bs r h => ?_⟩
  have hl := rB_ok h
  have e := rB_ext hl r
  unfold gInt at h ⊢
  rw [e]
  simp only [ansInt, Prod.mk.injEq, and_true, ne_eq, not_true_eq_false, if_false]
  rw [if_neg hl, if_neg (by rw [List.length_append]; omega), List.take_append_of_le_length (by omega)]
theorem tlOf_ext {bs : List UInt8} (r : List UInt8) (h : ¬ bs.length < 2) : tlOf (bs ++ r) = tlOf bs := by
  unfold tlOf
  rw [if_neg h, if_neg (by rw [List.length_append]; omega), List.take_append_of_le_length (by omega)]
theorem gText_steady : Steady gText := by
  refine ⟨fun s h => rB_err s _ h, fun bs r h => ?_⟩
  have hl : ¬ bs.length < 2 + tlOf bs := rB_ok h
  have e : rB (bs ++ r, 0) (2 + tlOf bs) = _ := rB_ext hl r
  have ht := tlOf_ext r (bs := bs) (by omega)
  unfold gText at h ⊢
  simp only
  rw [ht, e]
  simp only [ansText, Prod.mk.injEq, and_true, ne_eq, not_true_eq_false, if_false]
  rw [ht, if_neg hl, if_neg (by rw [List.length_append]; omega), List.drop_append_of_le_length (by omega), List.take_append_of_le_length (by rw [List.length_drop]; omega)]
theorem gMany_err {α : Type} {one : RSt → α × RSt} : ∀ (n : Nat) (s : RSt), s.2 ≠ 0 → gMany one n s = ([], s)
  | 0, _, _ => rfl
  | n + 1, s, h => by unfold gMany; rw [if_pos h]
theorem gMany_steady {α : Type} {one : RSt → α × RSt} (h1 : Steady one) : ∀ n, Steady (gMany one n)
  | 0 => ⟨fun s h => h, fun bs r _ => rfl⟩
  | n + 1 => by
    have ih := gMany_steady h1 n
    refine ⟨fun s h => by rw [gMany_err _ s h]; exact h, fun bs r h => ?_⟩
    unfold gMany at h ⊢
    rw [if_neg (by simp)] at h ⊢
    rw [if_neg (by simp)]
    simp only at h ⊢
    have h0 : (one (bs, 0)).2.2 = 0 := Decidable.byContradiction fun hne => ih.err _ hne h
    have e1 := h1.ext bs r h0
    rw [e1]
    simp only
    have hs : (one (bs, 0)).2 = ((one (bs, 0)).2.1, 0) := Prod.ext rfl h0
    rw [hs] at h
    have e2 := ih.ext (one (bs, 0)).2.1 r h
    rw [e2, ← hs]
/-- One behind the other. -/
theorem Steady.bind {α β γ : Type} {one : RSt → α × RSt} {two : α → RSt → β × RSt} (f : α → β → γ) (h1 : Steady one) (h2 : ∀ x, Steady (two x)) : Steady (fun s => (f (one s).1 (two (one s).1 (one s).2).1, (two (one s).1 (one s).2).2)) := by
  refine ⟨fun s h => (h2 _).err _ (h1.err s h), fun bs r h => ?_⟩
  simp only at h ⊢
  have h0 : (one (bs, 0)).2.2 = 0 := Decidable.byContradiction fun hne => (h2 _).err _ hne h
  have hs : (one (bs, 0)).2 = ((one (bs, 0)).2.1, 0) := Prod.ext rfl h0
  rw [h1.ext bs r h0]
  simp only
  rw [hs] at h
  have e2 := (h2 _).ext (one (bs, 0)).2.1 r h
  rw [e2, ← hs]
theorem Steady.map {α β : Type} {one : RSt → α × RSt} (f : α → β) (h1 : Steady one) : Steady (fun s => (f (one s).1, (one s).2)) := ⟨fun s h => h1.err s h, fun bs r h => by simp only; rw [h1.ext bs r h]⟩
theorem gTypes_steady : Steady gTypes := gByte_steady.bind (fun _ l => l) (fun x => gMany_steady gByte_steady x.toNat)
theorem gConsts_steady : Steady gConsts := gByte_steady.bind (fun _ l => l) (fun x => gMany_steady gText_steady x.toNat)
def gInsA (o : Int) (s : RSt) : Int × RSt := if takesN o = 0 then (0, s) else if takesN o = 1 then gInt s else gByte s
theorem gInsA_steady (o : Int) : Steady (gInsA o) := by
  by_cases t0 : takesN o = 0
  · have e : gInsA o = fun s => (0, s) := by funext s; unfold gInsA; rw [if_pos t0]
    rw [e]
    exact ⟨fun s h => h, fun bs r _ => rfl⟩
  by_cases t1 : takesN o = 1
  · have e : gInsA o = gInt := by funext s; unfold gInsA; rw [if_neg t0, if_pos t1]
    rw [e]; exact gInt_steady
  · have e : gInsA o = gByte := by funext s; unfold gInsA; rw [if_neg t0, if_neg t1]
    rw [e]; exact gByte_steady
theorem gIns_eq : gIns = fun s => (((gByte s).1, (gInsA (gByte s).1 (gByte s).2).1), (gInsA (gByte s).1 (gByte s).2).2) := by
  funext s
  unfold gIns gInsA
  split
  · rfl
  · split <;> rfl
theorem gIns_steady : Steady gIns := by
  rw [gIns_eq]
  exact gByte_steady.bind (two := gInsA) (fun a b => (a, b)) gInsA_steady
def gCodeA (x : Int) (s : RSt) : List (Int × Int) × RSt := gMany gIns (x.toNat * 256 + (gByte s).1.toNat) (gByte s).2
theorem gCodeA_steady (x : Int) : Steady (gCodeA x) := gByte_steady.bind (two := fun (y : Int) (s : RSt) => gMany gIns (x.toNat * 256 + y.toNat) s) (fun _ l => l) (fun y => gMany_steady gIns_steady (x.toNat * 256 + y.toNat))
theorem gCode_steady : Steady gCode := gByte_steady.bind (two := gCodeA) (fun _ l => l) gCodeA_steady
def gFn2 (s : RSt) : (List Int × List (Int × Int)) × RSt := (((gTypes s).1, (gCode (gTypes s).2).1), (gCode (gTypes s).2).2)
theorem gFn2_steady : Steady gFn2 := gTypes_steady.bind (two := fun _ s => gCode s) (fun a b => (a, b)) (fun _ => gCode_steady)
def gFn1 (s : RSt) : (List Int × List Int × List (Int × Int)) × RSt := (((gTypes s).1, (gFn2 (gTypes s).2).1), (gFn2 (gTypes s).2).2)
theorem gFn1_steady : Steady gFn1 := gTypes_steady.bind (two := fun _ s => gFn2 s) (fun a b => (a, b)) (fun _ => gFn2_steady)
theorem gFn_steady : Steady gFn := gTypes_steady.bind (two := fun _ s => gFn1 s) (fun (p : List Int) (q : List Int × List Int × List (Int × Int)) => Fn.mk p q.1 q.2.1 q.2.2) (fun _ => gFn1_steady)
theorem gFuncs_steady : Steady gFuncs := gByte_steady.bind (fun _ l => l) (fun x => gMany_steady gFn_steady x.toNat)
theorem gScr_steady : Steady gScr := gConsts_steady.bind (two := fun _ s => gFuncs s) (fun c f => Scr.mk c f) (fun _ => gFuncs_steady)
/-- No beginning of a script's bytes is a script. -/
theorem getOk_cut {s : Scr} (hs : s.right = true) (k : Nat) (hk : k < (scrB s).length) : getOk ((scrB s).take k) = false := by
  cases hg : getOk ((scrB s).take k) with
  | false => rfl
  | true =>
    exfalso
    unfold getOk at hg
    simp only [Bool.and_eq_true, decide_eq_true_eq] at hg
    have hd := hg.1
    have h0 : (gScr ((scrB s).take k, 0)).2.2 = 0 := by
      unfold doneOf at hd
      split at hd
      · exact hd
      · rename_i h; exact Decidable.byContradiction fun hne => h hne
    have e := gScr_steady.ext ((scrB s).take k) ((scrB s).drop k) h0
    rw [List.take_append_drop] at e
    have h1 := gScr_reads hs []
    rw [List.append_nil, e] at h1
    have h2 : (gScr ((scrB s).take k, 0)).2.1 ++ (scrB s).drop k = [] := congrArg (fun q => q.2.1) h1
    have h3 := congrArg List.length h2
    simp only [List.length_append, List.length_drop, List.length_nil] at h3
    omega
end Go.Proofs.YtpmlnkjamhelnaaGreat
