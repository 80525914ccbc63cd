/- What a Writer of package wire does: NewWriter, Int, Byte, Text and Bytes. -/
import Derived.Test.YthmjejmignangaaGreatDoorWA
import Derived.Deep.RegionHeld3
import Derived.Deep.RegionWith
import Derived.Deep.DrawnRows
namespace Go.Proofs.YthmjejmignangaaGreatDoor
open Go.RowKit

/-- w' is w but for the blocks of S, and new ones. -/
structure Chg (w w' : World) (S : Nat → Prop) : Prop where
  os : w'.os = w.os
  tape : w'.tape = w.tape
  output : w'.output = w.output
  size : w.heap.size ≤ w'.heap.size
  block : ∀ k, k < w.heap.size → ¬ S k → w'.heap[k]? = w.heap[k]?
theorem Chg.refl (w : World) (S : Nat → Prop) : Chg w w S := ⟨rfl, rfl, rfl, Nat.le_refl _, fun _ _ _ => rfl⟩
theorem Chg.trans {a b c : World} {S T : Nat → Prop} (h : Chg a b S) (k : Chg b c T) (hT : ∀ i, i < a.heap.size → T i → S i) : Chg a c S :=
  ⟨k.os.trans h.os, k.tape.trans h.tape, k.output.trans h.output, Nat.le_trans h.size k.size, fun i hi hn => (k.block i (Nat.lt_of_lt_of_le hi h.size) (fun ht => hn (hT i hi ht))).trans (h.block i hi hn)⟩
theorem Chg.of_grown {a b : World} {r : Option Nat} (h : a.grownBy b r) : Chg a b (fun k => r = some k) := ⟨h.os, h.tape, h.output, h.size, fun i hi hn => h.block i hi (fun e => hn e.symm)⟩
theorem Chg.alloc (w : World) (o : Obj) (S : Nat → Prop) : Chg w (w.alloc o) S := ⟨rfl, rfl, rfl, by simp, fun k hk _ => Below.heap_alloc w o k hk⟩
theorem Chg.drew (w : World) (S : Nat → Prop) : Chg w w.drew S := ⟨rfl, rfl, rfl, Nat.le_refl _, fun _ _ _ => rfl⟩
theorem Chg.setCell (w : World) (a : Addr) (v : Value) : Chg w (w.setCell a v) (fun k => k = a.block) := ⟨rfl, rfl, rfl, by simp [World.setCell], fun k _ hn => Below.heap_setCell w a v k hn⟩
theorem Chg.mono {a b : World} {S T : Nat → Prop} (h : Chg a b S) (hT : ∀ i, i < a.heap.size → S i → T i) : Chg a b T := ⟨h.os, h.tape, h.output, h.size, fun i hi hn => h.block i hi (fun hs => hn (hT i hi hs))⟩
theorem Chg.below {a b : World} {S : Nat → Prop} (h : Chg a b S) {B : Nat} (hB : B ≤ a.heap.size) (hS : ∀ i, S i → B ≤ i) : Below B a b :=
  ⟨h.os, h.tape, h.output, h.size, fun k hk => h.block k (by omega) (fun hs => by have := hS k hs; omega)⟩
theorem Chg.of_below {a b : World} {S : Nat → Prop} (h : Below a.heap.size a b) : Chg a b S := ⟨h.os, h.tape, h.output, h.size, fun k hk _ => h.block k hk⟩
theorem Chg.cell {a b : World} {S : Nat → Prop} (h : Chg a b S) {p : Addr} {v : Value} (hc : a.cell? p = some v) (hp : ¬ S p.block) : b.cell? p = some v := by
  rw [World.cell?_of_block (h.block p.block (World.block_lt_of_cell? _ _ hc) hp)]; exact hc

/-- A block of two cells. -/
theorem cells2 {w : World} {b : Nat} {x y : Value} {t : TypeId} (h : w.heap[b]? = some (.cells #[x, y] t (0, 0))) : w.cell? ⟨b, 0, none⟩ = some x ∧ w.cell? ⟨b, 1, none⟩ = some y ∧ w.frozen? ⟨b, 0, none⟩ = false ∧ w.frozen? ⟨b, 1, none⟩ = false := by
  simp [World.cell?, World.frozen?, h]
theorem set2_0 {w : World} {b : Nat} {x y u : Value} {t : TypeId} (h : w.heap[b]? = some (.cells #[x, y] t (0, 0))) : (w.setCell ⟨b, 0, none⟩ u).heap[b]? = some (.cells #[u, y] t (0, 0)) := by
  have hlt := lt_of_block h
  have h' : w.heap[b] = .cells #[x, y] t (0, 0) := by simpa [Array.getElem?_eq_getElem hlt] using h
  show (w.heap.modify b _)[b]? = _
  rw [Array.getElem?_eq_getElem (by simpa using hlt), Array.getElem_modify_self, h']
  rfl
theorem set2_1 {w : World} {b : Nat} {x y u : Value} {t : TypeId} (h : w.heap[b]? = some (.cells #[x, y] t (0, 0))) : (w.setCell ⟨b, 1, none⟩ u).heap[b]? = some (.cells #[x, u] t (0, 0)) := by
  have hlt := lt_of_block h
  have h' : w.heap[b] = .cells #[x, y] t (0, 0) := by simpa [Array.getElem?_eq_getElem hlt] using h
  show (w.heap.modify b _)[b]? = _
  rw [Array.getElem?_eq_getElem (by simpa using hlt), Array.getElem_modify_self, h']
  rfl

/-- A Writer at block p whose held struct is block h: its bytes are the slice v, its error err. -/
structure WrE (w : World) (p h : Nat) (v : Value) (err : Int) : Prop where
  hp : w.heap[p]? = some (.cells #[.pointer (some ⟨h, 0, none⟩)] 176 (0, 0))
  hh : w.heap[h]? = some (.cells #[v, .int .i64 err] 162 (0, 0))
theorem WrE.ne {w : World} {p h : Nat} {v : Value} {err : Int} (H : WrE w p h v err) : p ≠ h := fun e => by
  have h1 := H.hp; have h2 := H.hh; rw [e, h2] at h1; cases h1
theorem WrE.set0 {w : World} {p h : Nat} {v : Value} {err : Int} (H : WrE w p h v err) (u : Value) : WrE (w.setCell ⟨h, 0, none⟩ u) p h u err :=
  ⟨by rw [Below.heap_setCell _ _ _ _ H.ne]; exact H.hp, set2_0 H.hh⟩
theorem WrE.set1 {w : World} {p h : Nat} {v : Value} {err : Int} (H : WrE w p h v err) (e : Int) : WrE (w.setCell ⟨h, 1, none⟩ (.int .i64 e)) p h v e :=
  ⟨by rw [Below.heap_setCell _ _ _ _ H.ne]; exact H.hp, set2_1 H.hh⟩
theorem WrE.chg {w w' : World} {p h : Nat} {v : Value} {err : Int} {S : Nat → Prop} (H : WrE w p h v err) (k : Chg w w' S) (h1 : ¬ S p) (h2 : ¬ S h) : WrE w' p h v err :=
  ⟨by rw [k.block p (lt_of_block H.hp) h1]; exact H.hp, by rw [k.block h (lt_of_block H.hh) h2]; exact H.hh⟩
/-- A row of bytes is neither of a Writer's blocks. -/
theorem WrE.apart {w : World} {p h base : Nat} {v u : Value} {err : Int} {bs : List UInt8} (H : WrE w p h v err) (o : OwnB w base u bs) : u.ownBlock ≠ some p ∧ u.ownBlock ≠ some h := by
  rcases o.2 with ⟨rfl, _⟩ | ⟨g, cap, cur, rfl, _, hh, _⟩
  · exact ⟨(fun e => by cases e), (fun e => by cases e)⟩
  · refine ⟨fun e => ?_, fun e => ?_⟩
    · cases e; have := H.hp; rw [hh] at this; cases this
    · cases e; have := H.hh; rw [hh] at this; cases this
theorem WrE.step {w w' : World} {p h base : Nat} {v u u' : Value} {err : Int} {bs : List UInt8} (H : WrE w p h v err) (o : OwnB w base u bs) (s : Step w u w' u') : WrE w' p h v err :=
  H.chg (Chg.of_grown s.1) (H.apart o).1 (H.apart o).2

set_option maxHeartbeats 400000 in
theorem newWriter_any (w : World) :
    Calls Tryz.prog 86 #[] w fun e w' => e = .returned (.pointer (some ⟨w.heap.size + 1, 0, none⟩)) ∧ w' = (w.alloc (.cells #[.slice none 0 0, .int .i64 0] 162)).alloc (.cells #[.pointer (some ⟨w.heap.size, 0, none⟩)] 176) := by
  go_enter Tryz.func86, Tryz.ntmps86
  go_wp2
  go_ret
  exact ⟨rfl, rfl⟩
theorem newWriter_wr (w : World) : WrE ((w.alloc (.cells #[.slice none 0 0, .int .i64 0] 162)).alloc (.cells #[.pointer (some ⟨w.heap.size, 0, none⟩)] 176)) (w.heap.size + 1) w.heap.size (.slice none 0 0) 0 := by
  refine ⟨?_, ?_⟩
  · have := heap_alloc_new (w.alloc (.cells #[.slice none 0 0, .int .i64 0] 162)) (.cells #[.pointer (some ⟨w.heap.size, 0, none⟩)] 176)
    simpa using this
  · rw [Below.heap_alloc _ _ _ (by simp)]; exact heap_alloc_new w _

set_option maxHeartbeats 400000 in
theorem made_any (p h : Nat) (v : Value) (err : Int) (w : World) (H : WrE w p h v err) :
    Calls Tryz.prog 106 #[.pointer (some ⟨p, 0, none⟩)] w fun e w' => e = .returned (.bool true) ∧ w' = w := by
  have c0 := cell_of_one H.hp
  go_enter Tryz.func106, Tryz.ntmps106
  go_wp2
  go_ret
  exact ⟨rfl, rfl⟩

set_option maxHeartbeats 400000 in
theorem fail_any (p h : Nat) (v : Value) (err e0 : Int) (w : World) (H : WrE w p h v err) :
    Calls Tryz.prog 110 #[.pointer (some ⟨h, 0, none⟩), .int .i64 e0] w fun e w' => e = .returned (.tuple #[]) ∧ w' = if err = 0 then w.setCell ⟨h, 1, none⟩ (.int .i64 e0) else w := by
  obtain ⟨c0, c1, f0, f1⟩ := cells2 H.hh
  by_cases h0 : err = 0
  · subst h0
    go_enter Tryz.func110, Tryz.ntmps110
    go_wp2
    go_end0
    exact ⟨rfl, rfl⟩
  · have hb : (err == 0) = false := by simp [h0]
    go_enter Tryz.func110, Tryz.ntmps110
    go_wp2
    go_end0
    exact ⟨rfl, by first | rfl | rw [if_neg h0]⟩

set_option maxHeartbeats 400000 in
theorem endCall_any (p h : Nat) (v : Value) (err : Int) (w : World) (H : WrE w p h v err) :
    Calls Tryz.prog 109 #[.pointer (some ⟨p, 0, none⟩)] w fun e w' => e = .returned (.int .i64 err) ∧ w' = w.setCell ⟨h, 1, none⟩ (.int .i64 0) := by
  obtain ⟨c0, c1, f0, f1⟩ := cells2 H.hh
  have cp := cell_of_one H.hp
  go_enter Tryz.func109, Tryz.ntmps109
  go_wp2
  go_ret
  exact ⟨rfl, rfl⟩

set_option maxHeartbeats 400000 in
theorem needRoom_ok (p h : Nat) (ao : Option Addr) (len cap : Nat) (err : Int) (count size : Int) (w : World) (H : WrE w p h (.slice ao len cap) err) (hl : len ≤ 1048576) (hs : 0 < size) (hs' : size ≤ 8) (hc : ¬ (1048576 - (len : Int)) / size < count) :
    Calls Tryz.prog 107 #[.pointer (some ⟨p, 0, none⟩), .int .i64 count, .int .i64 size] w fun e w' => e = .returned (.tuple #[]) ∧ w' = w := by
  obtain ⟨c0, c1, f0, f1⟩ := cells2 H.hh
  have cp := cell_of_one H.hp
  go_enter Tryz.func107, Tryz.ntmps107
  go_wp2
  go_end0
  exact ⟨rfl, rfl⟩
set_option maxHeartbeats 400000 in
theorem needRoom_no (p h : Nat) (ao : Option Addr) (len cap : Nat) (err : Int) (count size : Int) (w : World) (H : WrE w p h (.slice ao len cap) err) (hl : len ≤ 1048576) (hs : 0 < size) (hs' : size ≤ 8) (hc : (1048576 - (len : Int)) / size < count) :
    Calls Tryz.prog 107 #[.pointer (some ⟨p, 0, none⟩), .int .i64 count, .int .i64 size] w fun e w' => e = .returned (.tuple #[]) ∧ w' = if err = 0 then w.setCell ⟨h, 1, none⟩ (.int .i64 6) else w := by
  obtain ⟨c0, c1, f0, f1⟩ := cells2 H.hh
  have cp := cell_of_one H.hp
  go_enter Tryz.func107, Tryz.ntmps107
  go_wp2_with (go_at_call 110; refine (fail_any p h _ err 6 w H).mono ?_; rintro e w' ⟨rfl, rfl⟩)
  all_goals (go_end0; exact ⟨rfl, by first | rfl | simp [*]⟩)

/-- At ao there lie the ints ns. -/
def Is (w : World) (ao : Option Addr) (ns : List Int) : Prop :=
  ns = [] ∨ ∃ b off, ao = some ⟨b, off, none⟩ ∧ ∀ j (h : j < ns.length), w.cell? ⟨b, off + j, none⟩ = some (.int .i64 ns[j])
/-- What a Writer may turn: its held struct and its row. -/
def WSet (h : Nat) (v : Value) (k : Nat) : Prop := k = h ∨ v.ownBlock = some k
/-- From w and v to w' and v', the Writer's held struct at h. -/
def WStep (h : Nat) (w : World) (v : Value) (w' : World) (v' : Value) : Prop := Chg w w' (WSet h v) ∧ (v'.ownBlock = v.ownBlock ∨ ∃ g, v'.ownBlock = some g ∧ w.heap.size ≤ g)
theorem WStep.refl (h : Nat) (w : World) (v : Value) : WStep h w v w v := ⟨Chg.refl _ _, .inl rfl⟩
theorem WStep.trans {h : Nat} {a b c : World} {u v x : Value} (s : WStep h a u b v) (t : WStep h b v c x) : WStep h a u c x := by
  refine ⟨s.1.trans t.1 (fun i hi ht => ?_), ?_⟩
  · rcases ht with e | e
    · exact .inl e
    · rcases s.2 with k | ⟨g, k, hg⟩
      · exact .inr (by rw [← k]; exact e)
      · rw [k] at e; cases e; omega
  · rcases t.2 with e | ⟨g, e, hg⟩
    · rw [e]; exact s.2
    · exact .inr ⟨g, e, Nat.le_trans s.1.size hg⟩
theorem WStep.of_step {h : Nat} {a b : World} {u v : Value} (s : Step a u b v) : WStep h a u b v :=
  ⟨(Chg.of_grown s.1).mono (fun _ _ e => .inr e), s.2⟩
theorem WStep.setCell (h o : Nat) (w : World) (v x : Value) : WStep h w v (w.setCell ⟨h, o, none⟩ x) v :=
  ⟨(Chg.setCell w ⟨h, o, none⟩ x).mono (fun _ _ e => .inl e), .inl rfl⟩
theorem WStep.alloc (h : Nat) (w : World) (v : Value) (o : Obj) : WStep h w v (w.alloc o) v := ⟨Chg.alloc _ _ _, .inl rfl⟩
theorem WStep.drew (h : Nat) (w : World) (v : Value) : WStep h w v w.drew v := ⟨Chg.drew _ _, .inl rfl⟩

/-- Eight bytes of an int. -/
def be64 (n : Int) : List UInt8 := be (n % 18446744073709551616).toNat 8
theorem be64_length (n : Int) : (be64 n).length = 8 := be_length _ _
def ints (ns : List Int) : List UInt8 := ns.flatMap be64
theorem ints_snoc (ns : List Int) (k : Nat) (h : k < ns.length) : ints (ns.take (k + 1)) = ints (ns.take k) ++ be64 ns[k] := by
  rw [List.take_succ_eq_append_getElem h]; simp only [ints, List.flatMap_append, List.flatMap_cons, List.flatMap_nil, List.append_nil]
theorem ints_length (ns : List Int) : (ints ns).length = 8 * ns.length := by
  induction ns with
  | nil => rfl
  | cons n r ih => simp only [ints, List.flatMap_cons, List.length_append, be64_length, List.length_cons] at ih ⊢; omega

attribute [local go_sem ↓] Go.wp_at_zero Go.wp_at_succ
set_option maxHeartbeats 1000000 in
theorem int_ok (p h base : Nat) (v : Value) (bs : List UInt8) (ao : Option Addr) (n cap : Nat) (ns : List Int) (w : World) (H : WrE w p h v 0) (hO : OwnB w base v bs) (hbase : base ≤ w.heap.size) (hl : bs.length ≤ 1048576) (hn : ns.length = n)
    (hI : ∀ w', Chg w w' (WSet h v) → Is w' ao ns) (hroom : 8 * n ≤ 1048576 - bs.length) :
    Calls Tryz.prog 87 #[.pointer (some ⟨p, 0, none⟩), .slice ao n cap] w fun e w' => ∃ v', e = .returned (.int .i64 0) ∧ WrE w' p h v' 0 ∧ OwnB w' base v' (bs ++ ints ns) ∧ WStep h w v w' v' := by
  obtain ⟨ao0, cap0, rfl, hle0, hmx0, hB0, hat0, hnone0⟩ := Own.bs hO
  go_enter Tryz.func87, Tryz.ntmps87
  go_wp2_with fail
  refine (made_any p h _ 0 w H).mono ?_
  rintro e w1 ⟨rfl, rfl⟩
  go_wp2_with fail
  refine (needRoom_ok p h ao0 bs.length cap0 0 n 8 _ H hl (by decide) (by decide) (by omega)).mono ?_
  rintro e w1 ⟨rfl, rfl⟩
  obtain ⟨c0, c1, f0, f1⟩ := cells2 H.hh
  have cp := cell_of_one H.hp
  go_wp2
  go_loopw [24] (fun i wr => ∃ (k : Nat) (vr : Value), k ≤ n ∧ i = .int .i64 k ∧ WrE wr p h vr 0 ∧ OwnB wr base vr (bs ++ ints (ns.take k)) ∧ WStep h w1 (.slice ao0 bs.length cap0) wr vr) (fun i _ => n - (intOf i).toNat)
  case atStart => exact ⟨0, _, Nat.zero_le _, rfl, H, by simpa [ints] using hO, WStep.refl _ _ _⟩
  case round =>
    obtain ⟨k, vr, hk, rfl, Hr, hOr, hsr⟩ := hrel
    by_cases hlt : k < n
    · have hlen : (bs ++ ints (ns.take k)).length = bs.length + 8 * k := by rw [List.length_append, ints_length, List.length_take]; omega
      have HS : Hid (bs ++ ints (ns.take (k + 1)) = (bs ++ ints (ns.take k)) ++ be64 (ns[k]'(by omega))) := hid (by rw [ints_snoc _ _ (by omega), List.append_assoc])
      have hsz : base ≤ wr.heap.size := Nat.le_trans hbase hsr.1.size
      rcases hI wr hsr.1 with hI' | ⟨b, off, rfl, hc⟩
      · subst hI'; simp at hn; omega
      · have hck := hc k (by omega)
        generalize hN : ns[k]'(by omega) = N at hck HS
        generalize bs ++ ints (ns.take k) = xs at hOr hlen HS
        obtain ⟨d0, d1, g0, g1⟩ := cells2 Hr.hh
        have dp := cell_of_one Hr.hp
        clear hc hI c0 c1 f0 f1 cp hB0 hN
        go_wp2
        go_region_with
          (first | (go_at_call 108; refine (appendNumber_at base (N % 18446744073709551616).toNat 8 _ _ _ xs _ (by first | omega | (simp only [IntKind.wrap_u64]; omega)) rfl (by exact hOr) (by decide) (by omega) (by exact hsz)).mono ?_; rintro e w2 ⟨v2, rfl, hO2, hs2⟩; obtain ⟨ao2, cap2, hv2, _, _, _, _, _⟩ := Own.bs hO2; rw [List.length_append, be_length, hlen] at hv2; subst hv2; have hs3 : Step wr vr w2 _ := (Step.refl wr vr).drew.trans hs2; have H2 := Hr.step hOr hs3; obtain ⟨q0, q1, q2, q3⟩ := cells2 H2.hh; have qp := cell_of_one H2.hp))
        all_goals
          have R1 : WrE (w2.setCell ⟨h, 0, none⟩ (.slice ao2 (bs.length + 8 * k + 8) cap2)) p h (.slice ao2 (bs.length + 8 * k + 8) cap2) 0 := H2.set0 _
          have R2 : OwnB (w2.setCell ⟨h, 0, none⟩ (.slice ao2 (bs.length + 8 * k + 8) cap2)) base (.slice ao2 (bs.length + 8 * k + 8) cap2) (bs ++ ints (ns.take (k + 1))) := by
            rw [HS.out]; exact ownsRow_setCell_other hO2 (H2.apart hO2).2 _
          have R3 := hsr.trans ((WStep.of_step (h := h) hs3).trans (WStep.setCell h 0 w2 _ (.slice ao2 (bs.length + 8 * k + 8) cap2)))
          clear hs2 hs3 H2 q0 q1 q2 q3 qp hO2 Hr hOr hsr d0 d1 g0 g1 dp hck
          go_wp2
          go_roundw
          case rel => exact ⟨k + 1, _, by omega, by go_num, R1, R2, R3⟩
          case measure => simp [intOf]; omega
    · have HE : Hid (ns.take k = ns) := List.take_of_length_le (by omega)
      go_wp2_with fail
      refine (endCall_any p h _ 0 _ Hr).mono ?_
      rintro e w2 ⟨rfl, rfl⟩
      go_wp2
      go_ret
      rw [HE.out] at hOr
      exact ⟨vr, rfl, Hr.set1 0, ownsRow_setCell_other hOr (Hr.apart hOr).2 _, hsr.trans (WStep.setCell _ _ _ _ _)⟩

end Go.Proofs.YthmjejmignangaaGreatDoor
