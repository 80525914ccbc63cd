/- Layer 16: a journal's log; what it writes. -/
import Derived.Test.YtkfohihemmjkbaaGreatDoorJU
import Derived.Test.YtkfohihemmjkbaaGreatDoorEY
import Derived.Test.YtkfohihemmjkbaaGreatDoorER
namespace Go.Proofs.YtkfohihemmjkbaaGreatDoor
open Go.RowKit
/-- The disk keeps what it is while other blocks turn. -/
theorem DkAt.turn16 {K R : Nat → Prop} {db : Nat} {d : Dk} {w w' : World} (h : DkAt K db d w) (hz : w.heap.size ≤ w'.heap.size) (hb : ∀ k, k < w.heap.size → ¬ K k → w'.heap[k]? = w.heap[k]?) (hR : ∀ k, R k → K k ∨ (w.heap.size ≤ k ∧ k < w'.heap.size)) : DkAt R db d w' := by
  obtain ⟨vb, fsv, zs, h1, h2, h3, h4⟩ := h
  refine ⟨vb, fsv, zs, h1.keep fun k hk => hb k (h1.lts k hk) (h3 k hk), h2, fun k hk hk2 => ?_, fun k hk => ?_⟩
  · rcases hR k hk2 with x | x
    · exact h3 k hk x
    · have := h1.lts k hk; omega
  · rcases hR k hk with x | x
    · exact Nat.lt_of_lt_of_le (h4 k x) hz
    · exact x.2
theorem DkAt.set16 {K : Nat → Prop} {db : Nat} {d : Dk} {w : World} (h : DkAt K db d w) {b j : Nat} (hb : K b) (v : Value) : DkAt K db d (w.setCell ⟨b, j, none⟩ v) :=
  h.turn16 (by rw [World.size_setCell]; exact Nat.le_refl _) (fun k _ hn => Below.heap_setCell _ _ _ _ (fun e => hn (by subst e; exact hb))) fun k hk => .inl hk
theorem dwrite16 {K : Nat → Prop} {db : Nat} {d : Dk} {w : World} (h : DkAt K db d w) (name : Bt) (at_ : Int) (b : Bt) (hl : name.length ≤ 281474976710656) (hbl : b.length ≤ 9223372036854775807) (hat : -9223372036854775808 ≤ at_ ∧ at_ ≤ 9223372036854775807) :
    Calls Tryz.prog 55 #[.pointer (some ⟨db, 0, none⟩), sv name, .int .i64 at_, sv b] w fun e w' => e = .returned (.int .i64 (writeE d name at_ b)) ∧ Hid (DkEnd K db (writeD d name at_ b) w w') := dwrite_any h name at_ b hl hbl hat (.inl insOk)
/-- A journal's log. -/
def LgAt (lb db : Nat) (file : Bt) (cnt en ep : Int) (wr : Bool) (W : World) : Prop := W.heap[lb]? = some (.cells #[.pointer (some ⟨db, 0, none⟩), sv file, .int .i64 cnt, .int .i64 en, .int .i64 ep, .bool wr] 89 (0, 0))
theorem LgAt.cells {lb db : Nat} {file : Bt} {cnt en ep : Int} {wr : Bool} {W : World} (h : LgAt lb db file cnt en ep wr W) : (W.cell? ⟨lb, 0, none⟩ = some (.pointer (some ⟨db, 0, none⟩)) ∧ W.cell? ⟨lb, 1, none⟩ = some (sv file) ∧ W.cell? ⟨lb, 2, none⟩ = some (.int .i64 cnt) ∧ W.cell? ⟨lb, 3, none⟩ = some (.int .i64 en) ∧ W.cell? ⟨lb, 4, none⟩ = some (.int .i64 ep) ∧ W.cell? ⟨lb, 5, none⟩ = some (.bool wr)) ∧ (∀ k, W.frozen? ⟨lb, k, none⟩ = false) ∧ lb < W.heap.size :=
  ⟨⟨Lib.cell_of_heap h 0, Lib.cell_of_heap h 1, Lib.cell_of_heap h 2, Lib.cell_of_heap h 3, Lib.cell_of_heap h 4, Lib.cell_of_heap h 5⟩, fun k => Lib.frozen_of_heap h k, lt_of_block h⟩
/-- Sectors are written, till one can't be: the disk, the word, how many. -/
def wrAll (d : Dk) (name : Bt) (at_ : Int) : List Bt → Dk × Int × Nat
  | [] => (d, 0, 0)
  | b :: r => if writeE d name at_ b = 0 then ((wrAll (writeD d name at_ b) name (at_ + 1) r).1, (wrAll (writeD d name at_ b) name (at_ + 1) r).2.1, (wrAll (writeD d name at_ b) name (at_ + 1) r).2.2 + 1) else (writeD d name at_ b, writeE d name at_ b, 0)
/-- What turns: blocks that are not kept, and the log's. -/
def JKt (K : Nat → Prop) (lb : Nat) (w w' : World) : Prop := Kt (fun k => ¬ K k ∨ k = lb) w w'
theorem Kt.or16 {S T : Nat → Prop} {w w' : World} (h : Kt S w w') (hT : ∀ k, S k → T k) : Kt T w w' := ⟨h.os, h.tape, h.output, h.size, fun i hi hn => h.block i hi fun e => hn (hT i e)⟩
/-- What write has done. -/
def WrEnd (K : Nat → Prop) (lb db : Nat) (file : Bt) (cnt en ep : Int) (wr : Bool) (d : Dk) (L : List Bt) (w : World) (e : Ending) (w' : World) : Prop := e = .returned (.int .i64 (wrAll d file en L).2.1) ∧ Hid (DkAt K db (wrAll d file en L).1 w' ∧ LgAt lb db file cnt en ep (wr || decide (0 < (wrAll d file en L).2.2)) w' ∧ JKt K lb w w')
set_option maxHeartbeats 4000000 in
set_option maxRecDepth 100000 in
theorem write_any16 (K : Nat → Prop) (lb db : Nat) (file : Bt) (cnt en ep : Int) (wt : Bool) (d : Dk) (L : List Bt) (w : World) (hD : DkAt K db d w) (hG : LgAt lb db file cnt en ep wt w) (hlb : K lb) (hfl : file.length ≤ 281474976710656) (hen : 0 ≤ en ∧ en ≤ 1099511627776) (hLn : L.length ≤ 4096) (hLb : ∀ x ∈ L, x.length ≤ 9223372036854775807)
    (a : Option Addr) (n c : Nat) (hn : n = L.length) {base : Nat} (hO : Own w base 9 (.slice a n c) (svl L)) (hK : ∀ g, (Value.slice a n c).ownBlock = some g → K g ∧ g ≠ lb) :
    Calls Tryz.prog 34 #[.pointer (some ⟨lb, 0, none⟩), .slice a n c] w (WrEnd K lb db file cnt en ep wt d L w) := by
  have HFin := fun e w' h => (h : WrEnd K lb db file cnt en ep wt d L w e w')
  -- the row's cells, while only other blocks turn
  have HA : Hid (∀ W i x, JKt K lb w W → L[i]? = some x → ∃ q, a = some ⟨q, 0, none⟩ ∧ W.cell? ⟨q, i, none⟩ = some (sv x)) := hidb fun W i x hk hx => by
    rcases hO.2 with ⟨e1, e2⟩ | ⟨g, cap', cur, e1, h1, h2, h3, h4, h5, h6⟩
    · have := (List.getElem?_eq_some_iff.1 hx).1
      simp at e2
      rw [e2] at this
      cases this
    · injection e1 with q1 q2 q3
      have hg := hK g (by rw [q1]; rfl)
      have h2' := (hk.block g (lt_of_block h2) (fun e => e.elim (fun e => e hg.1) hg.2)).trans h2
      refine ⟨g, q1, ?_⟩
      rw [Lib.cell_of_heap h2', ← Array.getElem?_toList]
      have h7 : (cur.toList.take ((svl L).length * 1))[i]? = (svl L)[i]? := by rw [h6]
      have hlt := (List.getElem?_eq_some_iff.1 hx).1
      rw [List.getElem?_take_of_lt (by simp; omega)] at h7
      rw [h7, List.getElem?_map, hx]
      rfl
  have HD := hidb hD
  have HG := hidb hG
  have Hlb := hidb hlb
  have Hn := hidb hn
  have HLb := hidb hLb
  have hnn : n ≤ 4096 := by omega
  clear hO hK hD hG hlb hn hLb
  go_enter Tryz.func34, Tryz.ntmps34
  go_upto_region 2 with fail
  go_loopw [10] (fun iv wr => ∃ (i : Nat) (d' : Dk), iv = .int .i64 i ∧ i ≤ n ∧ Hid (DkAt K db d' wr ∧ LgAt lb db file cnt en ep (wt || decide (0 < i)) wr ∧ JKt K lb w wr ∧ wrAll d file en L = ((wrAll d' file (en + i) (L.drop i)).1, (wrAll d' file (en + i) (L.drop i)).2.1, (wrAll d' file (en + i) (L.drop i)).2.2 + i))) (fun iv _ => n - (intOf iv).toNat)
  case atStart => exact ⟨0, d, rfl, Nat.zero_le _, hidb ⟨HD.out, by simpa using HG.out, Kt.refl _ _, by simp⟩⟩
  case round =>
    obtain ⟨i, d', rfl, hi, HI⟩ := hrel
    by_cases hic : i < n
    · have hic2 : (i : Int) < (n : Int) := by omega
      obtain ⟨x, hx⟩ : ∃ x, L[i]? = some x := ⟨L[i]'(by have := Hn.out; omega), List.getElem?_eq_getElem _⟩
      obtain ⟨q, rfl, hcx⟩ := HA.out wr i x HI.out.2.2.1 hx
      have hwe : IntKind.i64.wrap (en + (i : Int)) = en + (i : Int) := by rw [IntKind.wrap_i64]; omega
      obtain ⟨⟨x0, x1, x2, x3, x4, x5⟩, fz, xl⟩ := HI.out.2.1.cells
      have HW := hidb (dwrite16 (w := wr.drew) (HI.out.1.below ⟨rfl, rfl, rfl, Nat.le_refl _, fun _ _ => rfl⟩) file (en + i) x hfl (HLb.out x (List.mem_of_getElem? hx)) (by omega))
      have HSx : Hid (∀ V, Hid (DkEnd K db (writeD d' file (en + i) x) wr.drew V) → V.cell? ⟨lb, 0, none⟩ = some (.pointer (some ⟨db, 0, none⟩)) ∧ V.cell? ⟨lb, 1, none⟩ = some (sv file) ∧ V.cell? ⟨lb, 3, none⟩ = some (.int .i64 en) ∧ lb < V.heap.size) := hidb fun V hE => by
        have hg : LgAt lb db file cnt en ep (wt || decide (0 < i)) V := (hE.out.2.block lb xl (fun e => e Hlb.out)).trans HI.out.2.1
        obtain ⟨⟨y0, y1, y2, y3, y4, y5⟩, -, yl⟩ := hg.cells
        exact ⟨y0, y1, y3, yl⟩
      go_upto_region 4 with fail
      obtain ⟨code, hcode⟩ : ∃ code, code = writeE d' file (en + i) x := ⟨_, rfl⟩
      obtain ⟨d2, hd2⟩ : ∃ d2, d2 = writeD d' file (en + i) x := ⟨_, rfl⟩
      rw [← hcode] at HW
      rw [← hd2] at HW HSx
      have hdrop : L.drop i = x :: L.drop (i + 1) := by
        have := (List.getElem?_eq_some_iff.1 hx)
        obtain ⟨h1, h2⟩ := this
        rw [← h2]
        exact List.drop_eq_getElem_cons h1
      have HNx : Hid (∀ V, Hid (DkEnd K db d2 wr.drew V) → DkAt K db d2 V ∧ LgAt lb db file cnt en ep (wt || decide (0 < i)) V ∧ JKt K lb w V) := hidb fun V hE => ⟨hE.out.1, (hE.out.2.block lb xl (fun e => e Hlb.out)).trans HI.out.2.1, HI.out.2.2.1.trans (show Kt (fun k => ¬ K k) wr V from ⟨hE.out.2.os, hE.out.2.tape, hE.out.2.output, hE.out.2.size, hE.out.2.block⟩) fun k _ hk => .inl hk⟩
      by_cases he : code = 0
      · have hne : (code != 0) = false := by simp [he]
        have hall : wrAll d file en L = ((wrAll d2 file (en + ((i + 1 : Nat) : Int)) (L.drop (i + 1))).1, (wrAll d2 file (en + ((i + 1 : Nat) : Int)) (L.drop (i + 1))).2.1, (wrAll d2 file (en + ((i + 1 : Nat) : Int)) (L.drop (i + 1))).2.2 + (i + 1)) := by
          have h4 := HI.out.2.2.2
          rw [hdrop] at h4
          rw [h4]
          simp only [wrAll]
          rw [← hcode, ← hd2, if_pos he, show en + (i : Int) + 1 = en + ((i + 1 : Nat) : Int) by omega]
          simp only [Prod.mk.injEq, true_and]
          omega
        have HAll := hidb hall
        have HSt : Hid (∀ V, Hid (DkEnd K db d2 wr.drew V) → V.cell? ⟨lb, 5, none⟩ = some (.bool (wt || decide (0 < i))) ∧ V.frozen? ⟨lb, 5, none⟩ = false ∧ Hid (DkAt K db d2 (V.setCell ⟨lb, 5, none⟩ (.bool true)) ∧ LgAt lb db file cnt en ep (wt || decide (0 < i + 1)) (V.setCell ⟨lb, 5, none⟩ (.bool true)) ∧ JKt K lb w (V.setCell ⟨lb, 5, none⟩ (.bool true)) ∧ wrAll d file en L = ((wrAll d2 file (en + ((i + 1 : Nat) : Int)) (L.drop (i + 1))).1, (wrAll d2 file (en + ((i + 1 : Nat) : Int)) (L.drop (i + 1))).2.1, (wrAll d2 file (en + ((i + 1 : Nat) : Int)) (L.drop (i + 1))).2.2 + (i + 1)))) := hidb fun V hE => by
          obtain ⟨g1, g2, g3⟩ := HNx.out V hE
          refine ⟨g2.cells.1.2.2.2.2.2, g2.cells.2.1 5, hidb ⟨g1.set16 Hlb.out _, ?_, g3.set fun _ => .inr rfl, HAll.out⟩⟩
          rw [decide_eq_true (show 0 < i + 1 by omega), Bool.or_true]
          exact (heap_setCell_same _ _ _ _ _ _ g2).trans rfl
        clear hall hdrop he hx hcode hd2 HNx
        go_region_held3 (fun W => W.cell? ⟨lb, 0, none⟩ = some (.pointer (some ⟨db, 0, none⟩)) ∧ W.cell? ⟨lb, 1, none⟩ = some (sv file) ∧ W.cell? ⟨lb, 3, none⟩ = some (.int .i64 en) ∧ lb < W.heap.size) (first | exact HS2.out | go_keep) (first
          | (go_at_call 55; refine HW.out.mono ?_; clear HW; rintro e V ⟨rfl, hE⟩; have HS2 := hidb (HSx.out V hE); obtain ⟨z1, z2, z3⟩ := HSt.out V hE; clear hE HSt)
          | fail)
        go_wp2_with fail
        exact ⟨⟨i + 1, d2, by simp, by omega, z3⟩, by simp [intOf]; omega⟩
      · have hne : (code != 0) = true := by simpa using he
        have hall : wrAll d file en L = (d2, code, 0 + i) := by
          have h4 := HI.out.2.2.2
          rw [hdrop] at h4
          rw [h4]
          simp only [wrAll]
          rw [← hcode, ← hd2, if_neg he]
        have HE : Hid (∀ V, Hid (DkEnd K db d2 wr.drew V) → WrEnd K lb db file cnt en ep wt d L w (.returned (.int .i64 code)) V) := hidb fun V hE => by
          obtain ⟨g1, g2, g3⟩ := HNx.out V hE
          unfold WrEnd
          rw [hall]
          exact ⟨rfl, hidb ⟨g1, by simpa using g2, g3⟩⟩
        clear hall hdrop he hx hcode hd2 HNx
        go_region_held3 (fun W => W.cell? ⟨lb, 0, none⟩ = some (.pointer (some ⟨db, 0, none⟩)) ∧ W.cell? ⟨lb, 1, none⟩ = some (sv file) ∧ W.cell? ⟨lb, 3, none⟩ = some (.int .i64 en) ∧ lb < W.heap.size) (first | exact HS2.out | go_keep) (first
          | (go_at_call 55; refine HW.out.mono ?_; clear HW; rintro e V ⟨rfl, hE⟩; have HS2 := hidb (HSx.out V hE); have HE2 := hidb (HE.out V hE); clear hE HE)
          | fail)
        go_wp2_with fail
        go_ret
        exact HE2.out
    · obtain rfl : i = n := by omega
      have hE : WrEnd K lb db file cnt en ep wt d L w (.returned (.int .i64 0)) wr := by
        obtain ⟨g1, g2, g3, g4⟩ := HI.out
        rw [List.drop_eq_nil_of_le (by have := Hn.out; omega)] at g4
        simp only [wrAll] at g4
        unfold WrEnd
        rw [g4]
        exact ⟨rfl, hidb ⟨g1, by simpa using g2, g3⟩⟩
      have HE := hidb hE
      clear hE
      go_wp2_with fail
      go_ret
      exact HE.out
end Go.Proofs.YtkfohihemmjkbaaGreatDoor
