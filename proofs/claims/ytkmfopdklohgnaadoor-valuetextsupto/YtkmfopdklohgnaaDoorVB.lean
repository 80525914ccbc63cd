/- What value's bytesWord comes to: a strings.Builder written byte by byte beside a row of bytes. -/
import Derived.Test.YtkmfopdklohgnaaDoorShelf
import Derived.Test.YtkmfopdklohgnaaDoorVA
import Derived.RangeFuncBox
import Derived.Maps.AppendAt
import Derived.Maps.OwnIn
import Derived.Lib.ConvBytes
import Derived.Lib.AtoiErrMem
namespace Go.Proofs.YtkmfopdklohgnaaDoor
open Go.RowKit Go.Shelf
attribute [local go_sem] Oper.semAt_some

/-- A builder that was written, and what its buffer is. -/
structure Bld (B b : Nat) (v : Value) (bs : List Value) (w : World) : Prop where
  lo : B ≤ b
  at_ : w.heap[b]? = some (.cells #[.pointer (some ⟨b, 0, none⟩), v] 61 (0, 0))
  own : w.ownsRow B 5 1 v bs.length bs
  ne : v.ownBlock ≠ some b
/-- All that lay but blocks b and r lies as it lay. -/
structure But (b : Nat) (r : Option Nat) (w w' : World) : Prop where
  size : w.heap.size ≤ w'.heap.size
  same : ∀ k, k < w.heap.size → k ≠ b → some k ≠ r → w'.heap[k]? = w.heap[k]?

theorem copyCheck_used (B b : Nat) (v : Value) (bs : List Value) (w : World) (h : Bld B b v bs w) :
    Calls Tryd.prog 46 #[.pointer (some ⟨b, 0, none⟩)] w fun e w' => e = .returned (.tuple #[]) ∧ w' = w :=
  Any.Builder_copyCheck_used { Tryd.lays165 with } Tryd.Builder_Extra_165.toX72 b w (by rw [Lib.cell_of_heap h.at_]; rfl)

set_option maxHeartbeats 2000000 in
set_option maxRecDepth 100000 in
theorem writeByte_any (B b : Nat) (v : Value) (bs : List Value) (c : Int) (w : World) (h : Bld B b v bs w) (hlen : bs.length + 1 ≤ 140737488355328) (hBw : B ≤ w.heap.size) :
    Calls Tryd.prog 45 #[.pointer (some ⟨b, 0, none⟩), .int .u8 c] w fun e w' => e = .returned .nilIface ∧ (∃ v', Bld B b v' (bs ++ [.int .u8 c]) w' ∧ (v'.ownBlock = v.ownBlock ∨ ∃ k, v'.ownBlock = some k ∧ w.heap.size ≤ k)) ∧ But b v.ownBlock w w' ∧ Below B w w' := by
  obtain ⟨i0, hi, hz0, hz1, hz2⟩ := info_parts (show (Tryd.prog.info? 5).map (fun i => (i.zero, i.size, i.bytes)) = some (some (.int .u8 0), 1, 1) by kernel_rfl)
  have hlt : b < w.heap.size := (Array.getElem?_eq_some_iff.1 h.at_).1
  have c0 : w.cell? ⟨b, 0, none⟩ = some (.pointer (some ⟨b, 0, none⟩)) := by rw [Lib.cell_of_heap h.at_]; rfl
  have c1 : w.cell? ⟨b, 1, none⟩ = some v := by rw [Lib.cell_of_heap h.at_]; rfl
  go_enter Tryd.func45, Tryd.ntmps45
  go_wp2_with (first | (go_at_call 46; refine (copyCheck_used B b v bs _ h).mono ?_; rintro e w' ⟨rfl, hw⟩; replace hw := hw.symm; subst hw) | (at_builtin; refine wpList_append_own_at _ rfl _ _ 59 rfl B 5 i0 (.int .u8 0) 1 1 Tryd.underlying59 hi hz0 hz1 hz2 rfl (by decide) v _ _ rfl (h.own.alloc _) ⟨w.heap.size, 0, none⟩ 1 1 [.int .u8 c] rfl rfl (cell_one_new _ _ _) (by simp [Value.oneCell']) (by simp only [maxLen]; omega) (by omega) (by simp; omega) ?_; intro v' w2 hown' hgrow _ hat; have hb2 : w2.heap[b]? = some (.cells #[.pointer (some ⟨b, 0, none⟩), v] 61 (0, 0)) := (by rw [hgrow.block b (by simp; omega) (fun e => h.ne e.symm), Lib.alloc_old w _ b hlt]; exact h.at_); have d0 : w2.cell? ⟨b, 0, none⟩ = some (.pointer (some ⟨b, 0, none⟩)) := (by rw [Lib.cell_of_heap hb2]; rfl); have d1 : w2.cell? ⟨b, 1, none⟩ = some v := (by rw [Lib.cell_of_heap hb2]; rfl); have f1 : w2.frozen? ⟨b, 1, none⟩ = false := Lib.frozen_of_heap hb2 1; obtain ⟨g, cap, rfl⟩ := ownsRow_succ hown'))
  go_ret
  have hne := Lib.ownBlock_ne hown' hb2 (by decide)
  refine ⟨rfl, ⟨_, ⟨h.lo, ?_, ?_, hne⟩, ?_⟩, ⟨?_, ?_⟩, ?_⟩
  · simp [World.setCell, Array.getElem?_modify, hb2]
  · have := hown'.kept (row := some b) (w' := w2.setCell ⟨b, 1, none⟩ (.slice (some ⟨g, 0, none⟩) (bs.length + 1) cap)) ⟨rfl, rfl, rfl, by simp [World.setCell], fun k _ hk => Below.heap_setCell _ _ _ _ (fun e => hk (by simp [e]))⟩ (Or.inr hne)
    simpa using this
  · rcases hat with e | e
    · exact .inl e
    · exact .inr ⟨_, e, by simp⟩
  · have := hgrow.size
    simp [World.setCell] at this ⊢
    omega
  · intro k hk k1 k2
    exact (Below.heap_setCell _ _ _ k k1).trans ((hgrow.block k (by simp; omega) k2).trans (Below.heap_alloc _ _ k hk))
  · exact ((((Below.refl B w).alloc hBw _).grown hgrow (by simp; omega) (fun k hk => (h.own.lt k hk).1)).setCell (p := ⟨b, 1, none⟩) h.lo _)
theorem writeString_any (B b : Nat) (bs : List Value) (s : ByteArray) (w : World) (h : Lib.IsBuilder 61 5 B b bs w) (hlen : bs.length + s.size ≤ 140737488355328) (hBw : B ≤ w.heap.size) :
    Calls Tryd.prog 32 #[.pointer (some ⟨b, 0, none⟩), .string s] w fun e w' => e = .returned (.tuple #[.int .i64 s.size, .nilIface]) ∧ (Lib.BuilderAt 61 5 B b (.pointer (some ⟨b, 0, none⟩)) (bs ++ Lib.strCells s) w' ∧ Below B w w') :=
  Any.Builder_WriteString { Tryd.lays156 with } Tryd.Builder_Extra_156 B b bs s w h hlen hBw

/-- The sixteen digits. -/
def hexDigits : List UInt8 := [48, 49, 50, 51, 52, 53, 54, 55, 56, 57, 97, 98, 99, 100, 101, 102]
/-- A byte's two digits. -/
def hexOf (c : UInt8) : List UInt8 := [hexDigits.getD (c.toNat / 16) 0, hexDigits.getD (c.toNat % 16) 0]
def hexWord (s : List UInt8) : List UInt8 := [120, 39] ++ s.flatMap hexOf ++ [39]

theorem row_keep {w w' : World} {base n size : Nat} {e : TypeId} {v : Value} {xs : List Value} (h : w.ownsRow base e size v n xs) (hb : Below w.heap.size w w') : w'.ownsRow base e size v n xs := by
  refine ⟨h.1, ?_⟩
  rcases h.2 with h2 | ⟨g, cap, cur, rfl, hg, hh, r⟩
  · exact .inl h2
  · exact .inr ⟨g, cap, cur, rfl, hg, by rw [hb.block g (Array.getElem?_eq_some_iff.1 hh).1]; exact hh, r⟩
theorem hex_length (s : List UInt8) : (s.flatMap hexOf).length = 2 * s.length := by
  induction s with
  | nil => rfl
  | cons a s ih => simp [hexOf] at ih ⊢; omega
theorem own_ne {v v' : Value} {r n : Nat} (h : v.ownBlock ≠ some r) (hat : v'.ownBlock = v.ownBlock ∨ ∃ k, v'.ownBlock = some k ∧ n ≤ k) (hr : r < n) : v'.ownBlock ≠ some r := by
  rcases hat with e | ⟨k, e, hk⟩
  · rw [e]; exact h
  · rw [e]; intro e2; cases e2; omega
theorem digit_at (i : Nat) (h : i < 16) : (⟨#[48, 49, 50, 51, 52, 53, 54, 55, 56, 57, 97, 98, 99, 100, 101, 102]⟩ : ByteArray)[i]'h = hexDigits.getD i 0 := by
  have : ∀ j : Fin 16, (⟨#[48, 49, 50, 51, 52, 53, 54, 55, 56, 57, 97, 98, 99, 100, 101, 102]⟩ : ByteArray)[j.1]'j.2 = hexDigits.getD j.1 0 := by decide
  exact this ⟨i, h⟩

set_option maxHeartbeats 2000000 in
set_option maxRecDepth 100000 in
theorem bytesWord_any (s : List UInt8) (w : World) (hs : s.length ≤ 1048576) : Calls Tryd.prog 30 #[.string ⟨s.toArray⟩] w fun e w' => e = .returned (.string ⟨(hexWord s).toArray⟩) ∧ Below w.heap.size w w' := by
  go_enter Tryd.func30, Tryd.ntmps30
  have hnew : (w.alloc (.cells #[.pointer none, .slice none 0 0] 61)).heap[w.heap.size]? = some (.cells #[.pointer none, .slice none 0 0] 61 (0, 0)) := World.alloc_heap_new w _
  have hbel : Below w.heap.size w (w.alloc (.cells #[.pointer none, .slice none 0 0] 61)) := (Below.refl _ w).alloc (Nat.le_refl _) _
  go_wp2_with (first | (go_at_call 31; rw [show (2 + 2 * (s.length : Int) + 1) = ((2 * s.length + 3 : Nat) : Int) from (by omega)]; refine (Tryd.Builder_Grow_fresh w.heap.size w.heap.size (2 * s.length + 3) _ (Nat.le_refl _) hnew (by simp) (by omega)).mono ?_; rintro e w1 ⟨rfl, hB1, hb1⟩; replace hb1 := hbel.trans hb1) | (go_at_call 32; refine (writeString_any w.heap.size w.heap.size [] _ _ (.inr hB1) (by simp; decide) hb1.size).mono ?_; rintro e w2 ⟨rfl, hB2, hb2⟩; replace hb2 := hb1.trans hb2))
  rw [Lib.run_convert_string_bytes w2 9 59 5 ⟨s.toArray⟩ Tryd.underlying9 Tryd.underlying59 Tryd.underlying5]
  have hcell : ∀ j (h : j < s.length), (Lib.bytesWorld w2 5 ⟨s.toArray⟩).cell? ⟨w2.heap.size, j, none⟩ = some (.int .u8 (s[j].toNat : Int)) := by
    intro j h
    rw [Lib.bytesWorld_cell w2 _ _ j (by simpa [ByteArray.size] using h)]
    simp [List.getD_eq_getElem?_getD, h]
  have hsz3 := Lib.bytesWorld_size w2 5 ⟨s.toArray⟩
  have hold3 := Lib.bytesWorld_at_old w2 5 ⟨s.toArray⟩
  obtain ⟨v2, hB3, hv2, hb3, hbr⟩ : ∃ v2, Bld w.heap.size w.heap.size v2 (Lib.byteCells [120, 39]) (Lib.bytesWorld w2 5 ⟨s.toArray⟩) ∧ v2.ownBlock ≠ some w2.heap.size ∧ Below w.heap.size w (Lib.bytesWorld w2 5 ⟨s.toArray⟩) ∧ w.heap.size < w2.heap.size := by
    obtain ⟨lo, v, at_, own, ne⟩ := hB2
    have hlt := (Array.getElem?_eq_some_iff.1 at_).1
    have hg := Lib.bytesWorld_below w2 5 ⟨s.toArray⟩
    refine ⟨v, ⟨lo, (hold3 _ hlt).trans at_, ?_, ne⟩, fun e => ?_, hb2.trans (hg.mono hb2.size), hlt⟩
    · refine row_keep (n := (Lib.byteCells [120, 39]).length) ?_ hg
      simpa [Lib.strCells, Lib.byteCells] using own
    · have := (own.lt _ e).2
      omega
  generalize Lib.bytesWorld w2 5 ⟨s.toArray⟩ = w3 at *
  generalize grownCap w2 _ 0 _ = cap3
  simp only [Result.andThen]
  rw [Oper.upon_value]
  generalize w2.heap.size = r at *
  clear hB1 hb1 hB2 hb2 hold3 hnew hbel
  go_wp2
  go_loopw [16] (fun i wr => ∃ (k : Nat) (v : Value), k ≤ s.length ∧ i = .int .i64 k ∧ Bld w.heap.size w.heap.size v (Lib.byteCells ([120, 39] ++ (s.take k).flatMap hexOf)) wr ∧ v.ownBlock ≠ some r ∧ wr.heap[r]? = w3.heap[r]? ∧ Below w.heap.size w wr) (fun i _ => s.length - (intOf i).toNat)
  case atStart => exact ⟨0, v2, Nat.zero_le _, rfl, by simpa using hB3, hv2, rfl, hb3⟩
  case round =>
    obtain ⟨k, v, hk, rfl, hB, hv, hr, hb⟩ := hrel
    by_cases hlt : k < s.length
    · have hck : wr.cell? ⟨r, k, none⟩ = some (.int .u8 (s[k].toNat : Int)) := by
        rw [← hcell k hlt]
        simp [World.cell?, hr]
      generalize hc : s[k] = c at hck
      have hrl : r < wr.heap.size := (Array.getElem?_eq_some_iff.1 (hr.trans (Array.getElem?_eq_getElem (by omega)))).1
      have hbl : (Lib.byteCells ([120, 39] ++ (s.take k).flatMap hexOf)).length + 2 ≤ 140737488355328 := by
        have := hex_length (s.take k)
        simp [Lib.byteCells] at this ⊢
        omega
      have HB : Hid (Lib.byteCells ([120, 39] ++ (s.take (k + 1)).flatMap hexOf) = Lib.byteCells ([120, 39] ++ (s.take k).flatMap hexOf) ++ [.int .u8 ((hexDigits.getD (c.toNat / 16) 0).toNat : Int)] ++ [.int .u8 ((hexDigits.getD (c.toNat % 16) 0).toNat : Int)]) := hid (by
        rw [List.take_succ_eq_append_getElem hlt, hc]
        simp [Lib.byteCells, hexOf])
      generalize Lib.byteCells ([120, 39] ++ (s.take k).flatMap hexOf) = bs at *
      go_wp2_with (go_at_call 45; refine (writeByte_any _ _ _ _ _ _ hB (by first | omega | (simp only [List.length_append, List.length_cons, List.length_nil]; omega)) hb.size).mono ?_; rintro e w' ⟨rfl, ⟨v, hB, hat⟩, hbut, hbel⟩; replace hb := hb.trans hbel; replace hr := (hbut.same r hrl (by omega) hv.symm).trans hr; replace hv := own_ne hv hat hrl; replace hrl := Nat.lt_of_lt_of_le hrl hbut.size)
      case roundEnd =>
        simp only [digit_at] at hB
        rw [← HB.out] at hB
        exact ⟨⟨k + 1, v, by omega, by go_num, hB, hv, hr, hb⟩, by simp [intOf]; omega⟩
      case isFalse => exfalso; rename_i hno; exact hno (by have := c.toNat_lt; omega)
    · have hke : k = s.length := by omega
      subst hke
      rw [List.take_length] at hB
      have hl : (Lib.byteCells ([120, 39] ++ s.flatMap hexOf)).length ≤ 2 * s.length + 2 := by
        have := hex_length s
        simp [Lib.byteCells] at this ⊢
        omega
      have HS : Hid (Lib.byteCells ([120, 39] ++ s.flatMap hexOf) ++ Lib.strCells ⟨#[39]⟩ = Lib.byteCells (hexWord s)) := hid (by simp [Lib.byteCells, Lib.strCells, hexWord])
      go_wp2_with (first | (go_at_call 32; refine (writeString_any _ _ _ _ _ (.inr ⟨hB.lo, _, hB.at_, hB.own, hB.ne⟩) (Nat.le_trans (Nat.add_le_add_right hl 1) (by omega)) hb.size).mono ?_; rintro e w4 ⟨rfl, hB4, hb4⟩; replace hb4 := hb.trans hb4; rw [HS.out] at hB4) | (go_at_call 33; refine (Tryd.Builder_String_any _ _ _ _ (.inr hB4) hb4.size).mono ?_; rintro e w5 ⟨rfl, hb5⟩; replace hb5 := hb4.trans hb5))
      go_ret
      exact ⟨rfl, hb5⟩
end Go.Proofs.YtkmfopdklohgnaaDoor
