/- What wire's frames come to: Sum, Frame, firstFrame and Frames of any bytes. What wire's Frames comes to. What wire's Frames comes to: the frames that bytes begin with, each in a new slice. What a Writer of package wire does: NewWriter, Int, Byte, Text and Bytes. What a Writer's Text and Bytes do. The check 'knows' that every law of layer 1 ends with answers true. -/
import Derived.Test.YtpmlnkjamhelnaaGreatPlain
import Derived.BigQuiet
import Derived.Deep.QuietTactic
import Derived.WalkSmall
import Derived.Deep.RegionHeld3
import Derived.Deep.RegionWith
import Derived.Deep.DrawnRows
import Derived.Deep.RegionLaw
import Derived.Deep.DeepCutAuto
namespace Go.Proofs.YtpmlnkjamhelnaaGreat
open Go.RowKit

theorem Bs.keep {w w' : World} {ao : Option Addr} {bs : List UInt8} (h : Bs w ao bs) (hk : ∀ a v, w.cell? a = some v → w'.cell? a = some v) : Bs w' ao bs := by
  rcases h with h | ⟨b, off, h, hc⟩
  · exact .inl h
  · exact .inr ⟨b, off, h, fun j hj => hk _ _ (hc j hj)⟩
theorem below_keep {w w' : World} (hb : Below w.heap.size w w') : ∀ a v, w.cell? a = some v → w'.cell? a = some v := fun a v h => by
  rw [hb.cell (p := a) (World.block_lt_of_cell? _ _ h)]; exact h
theorem alloc_keep (w : World) (o : Obj) : ∀ a v, w.cell? a = some v → (w.alloc o).cell? a = some v :=
  below_keep ((Below.refl _ w).alloc (Nat.le_refl _) o)

/-- The sum of bytes. -/
def crc (bs : List UInt8) : Nat := 4294967295 - crcFold 4294967295 bs
theorem crc_lt (bs : List UInt8) : crc bs < 4294967296 := by unfold crc; omega
theorem crcParts_one (bs : List UInt8) : 4294967295 - crcParts 4294967295 [bs] = crc bs := rfl
theorem crcParts_two (a b : List UInt8) : 4294967295 - crcParts 4294967295 [a, b] = crc (a ++ b) := by
  simp only [crcParts, crc, crcFold, List.foldl_cons, List.foldl_nil, List.foldl_append]
/-- A frame's bytes. -/
def frameOf (bs : List UInt8) : List UInt8 := be bs.length 4 ++ be (rev4 (crc (be bs.length 4 ++ bs))) 4 ++ bs

theorem new_cell (w : World) (cs : Array Value) (t : TypeId) (k : Nat) (v : Value) (h : cs[k]? = some v) : (w.alloc (.cells cs t)).cell? ⟨w.heap.size, k, none⟩ = some v := by
  rw [cell_of_row _ _ k cs t (0, 0) (heap_alloc_new w _)]
  exact h
end Go.Proofs.YtpmlnkjamhelnaaGreat
namespace Go.Proofs.YtpmlnkjamhelnaaGreat
open Go.RowKit

/-- What is in the frame that bytes begin with. -/
def firstOf (bs : List UInt8) : Option (List UInt8) :=
  if bs.length < 8 then none
  else if 1048576 < num (bs.take 4) then none
  else if bs.length - 8 < num (bs.take 4) then none
  else if num ((bs.drop 4).take 4) ≠ rev4 (crc (bs.take 4 ++ (bs.drop 8).take (num (bs.take 4)))) then none
  else some ((bs.drop 8).take (num (bs.take 4)))

theorem Bs.cut {w : World} {b off : Nat} {bs : List UInt8} (hc : ∀ j (h : j < bs.length), w.cell? ⟨b, off + j, none⟩ = some (.int .u8 (bs[j].toNat : Int))) (k n : Nat) : Bs w (some ⟨b, off + k, none⟩) ((bs.drop k).take n) := by
  refine .inr ⟨b, off + k, rfl, fun j hj => ?_⟩
  simp only [List.length_take, List.length_drop] at hj
  have := hc (k + j) (by omega)
  rw [← Nat.add_assoc] at this
  rw [this]
  simp

/-- What a call of firstFrame leaves. -/
def FirstEnd (w : World) (bs : List UInt8) (e : Ending) (w' : World) : Prop :=
  ∃ ao' c', e = .returned (.tuple #[.slice ao' ((firstOf bs).getD []).length c', .bool (firstOf bs).isSome]) ∧ ((firstOf bs).getD []).length ≤ c' ∧ Bs w ao' ((firstOf bs).getD []) ∧ Below w.heap.size w w'
theorem FirstEnd.no {w w' : World} {bs : List UInt8} (h : firstOf bs = none) (hb : Below w.heap.size w w') : FirstEnd w bs (.returned (.tuple #[.slice none 0 0, .bool false])) w' :=
  ⟨none, 0, by rw [h]; rfl, by rw [h]; exact Nat.le_refl _, by rw [h]; exact .inl rfl, hb⟩

theorem FirstEnd.yes {w w' : World} {bs inn : List UInt8} {ao : Option Addr} {n c : Nat} (h : firstOf bs = some inn) (hn : inn.length = n) (hc : n ≤ c) (hB : Bs w ao inn) (hb : Below w.heap.size w w') : FirstEnd w bs (.returned (.tuple #[.slice ao n c, .bool true])) w' := by
  subst hn
  exact ⟨ao, c, by rw [h]; rfl, by rw [h]; exact hc, by rw [h]; exact hB, hb⟩

theorem FirstEnd.elim_no {w w' : World} {bs : List UInt8} {e : Ending} (H : FirstEnd w bs e w') (h : firstOf bs = none) : ∃ ao c, e = .returned (.tuple #[.slice ao 0 c, .bool false]) ∧ Below w.heap.size w w' := by
  obtain ⟨ao, c, he, _, _, hb⟩ := H
  rw [h] at he
  exact ⟨ao, c, he, hb⟩
theorem FirstEnd.elim_yes {w w' : World} {bs inn : List UInt8} {e : Ending} (H : FirstEnd w bs e w') (h : firstOf bs = some inn) : ∃ ao c, e = .returned (.tuple #[.slice ao inn.length c, .bool true]) ∧ inn.length ≤ c ∧ Bs w ao inn ∧ Below w.heap.size w w' := by
  obtain ⟨ao, c, he, hc, hB, hb⟩ := H
  rw [h] at he hc hB
  exact ⟨ao, c, he, hc, hB, hb⟩

end Go.Proofs.YtpmlnkjamhelnaaGreat
namespace Go.Proofs.YtpmlnkjamhelnaaGreat
open Go.RowKit

theorem firstOf_len {bs inn : List UInt8} (h : firstOf bs = some inn) : 8 + inn.length ≤ bs.length := by
  unfold firstOf at h
  split at h
  · cases h
  · split at h
    · cases h
    · split at h
      · cases h
      · split at h
        · cases h
        · cases h
          simp only [List.length_take, List.length_drop]
          omega
/-- The frames that bytes begin with, and how many bytes they have. -/
def framesOf (bs : List UInt8) : List (List UInt8) × Nat :=
  match h : firstOf bs with
  | none => ([], 0)
  | some inn => (inn :: (framesOf (bs.drop (8 + inn.length))).1, 8 + inn.length + (framesOf (bs.drop (8 + inn.length))).2)
termination_by bs.length
decreasing_by all_goals (have := firstOf_len h; simp only [List.length_drop]; omega)
theorem framesOf_none {bs : List UInt8} (h : firstOf bs = none) : framesOf bs = ([], 0) := by
  rw [framesOf]; split
  · rfl
  · rename_i h'; rw [h] at h'; cases h'
theorem framesOf_some {bs inn : List UInt8} (h : firstOf bs = some inn) : framesOf bs = (inn :: (framesOf (bs.drop (8 + inn.length))).1, 8 + inn.length + (framesOf (bs.drop (8 + inn.length))).2) := by
  rw [framesOf]; split
  · rename_i h'; rw [h] at h'; cases h'
  · rename_i h'; rw [h] at h'; cases h'; rfl

theorem Bs.from {w : World} {ao : Option Addr} {bs : List UInt8} (h : Bs w ao bs) (k cap : Nat) (hcap : bs.length ≤ cap) : Bs w (if cap = k then ao else ao.map (fun a => a.add k)) (bs.drop k) := by
  rcases h with rfl | ⟨b, off, rfl, hc⟩
  · left; simp
  · split
    · left; exact List.drop_eq_nil_of_le (by omega)
    · refine .inr ⟨b, off + k, ?_, fun j hj => ?_⟩
      · have hadd : (⟨b, off, none⟩ : Addr).add k = ⟨b, off + k, none⟩ := by unfold Addr.add; split <;> simp_all
        simp [hadd]
      · simp only [List.length_drop] at hj
        have := hc (k + j) (by omega)
        rw [← Nat.add_assoc] at this
        rw [this]
        simp

/-- A row of new slices: each in a block of its own. -/
def sl (g n : Nat) : Value := .slice (some ⟨g, 0, none⟩) n n
structure Rows2 (w : World) (base : Nat) (v : Value) (gs : List Nat) (L : List (List UInt8)) : Prop where
  len : gs.length = L.length
  row : Own w base 22 v (List.zipWith (fun g (b : List UInt8) => sl g b.length) gs L)
  each : ∀ i (h : i < L.length) (h' : i < gs.length), OwnB w base (sl gs[i] L[i].length) L[i]
  nodup : gs.Nodup

theorem Own.below {w w' : World} {base : Nat} {e : TypeId} {v : Value} {xs : List Value} (h : Own w base e v xs) (hb : Below w.heap.size w w') : Own w' base e v xs := by
  refine ⟨h.1, ?_⟩
  rcases h.2 with h2 | ⟨g, cap, cur, rfl, hg, hh, r⟩
  · exact .inl h2
  · exact .inr ⟨g, cap, cur, rfl, hg, by rw [hb.block g (Array.getElem?_eq_some_iff.1 hh).1]; exact hh, r⟩
theorem Rows2.below {w w' : World} {base : Nat} {v : Value} {gs : List Nat} {L : List (List UInt8)} (h : Rows2 w base v gs L) (hb : Below w.heap.size w w') : Rows2 w' base v gs L :=
  ⟨h.len, Own.below h.row hb, fun i h1 h2 => Own.below (h.each i h1 h2) hb, h.nodup⟩
/-- A row of bytes is no row of slices. -/
theorem apart {w : World} {b b' g n : Nat} {e e' : TypeId} {v : Value} {xs ys : List Value} (hee : e ≠ e') (h : Own w b e (sl g n) xs) (k : Own w b' e' v ys) : (sl g n).ownBlock = none ∨ (sl g n).ownBlock ≠ v.ownBlock := by
  right
  intro he
  rcases h.2 with ⟨h2, _⟩ | ⟨g1, cap, cur, hv, _, hh, _⟩
  · cases h2
  · cases hv
    rcases k.2 with ⟨k2, _⟩ | ⟨g2, cap2, cur2, kv, _, kk, _⟩
    · rw [k2] at he; cases he
    · rw [kv] at he
      cases he
      rw [hh] at kk
      cases kk
      exact hee rfl
theorem own_base {w : World} {b b' g n : Nat} {e : TypeId} {xs : List Value} (h : Own w b e (sl g n) xs) (hb : b' ≤ b) : Own w b' e (sl g n) xs :=
  Own.mono h (fun k hk => Nat.le_trans hb (h.lt k hk).1)
/-- One slice more in the row. -/
theorem Rows2.push {w w' : World} {base : Nat} {v v' : Value} {gs : List Nat} {L : List (List UInt8)} {g : Nat} {b : List UInt8} (h : Rows2 w base v gs L) (hn : OwnB w base (sl g b.length) b) (hg : ∀ x ∈ gs, x < g)
    (ho : Own w' base 22 v' (List.zipWith (fun g (b : List UInt8) => sl g b.length) gs L ++ [sl g b.length])) (hs : Step w v w' v') : Rows2 w' base v' (gs ++ [g]) (L ++ [b]) := by
  refine ⟨by simp [h.len], ?_, fun i h1 h2 => ?_, ?_⟩
  · rw [List.zipWith_append h.len]; exact ho
  · by_cases hi : i < L.length
    · have hi' : i < gs.length := by rw [h.len]; exact hi
      rw [List.getElem_append_left hi, List.getElem_append_left hi']
      exact Own.kept (h.each i hi hi') hs.1 (apart (by decide) (h.each i hi hi') h.row)
    · have e1 : i = L.length := by simp at h1; omega
      have e2 : i = gs.length := by rw [h.len]; exact e1
      rw [List.getElem_append_right (by omega), List.getElem_append_right (by omega)]
      simp only [e1, Nat.sub_self, h.len, List.getElem_cons_zero]
      exact Own.kept hn hs.1 (apart (by decide) hn h.row)
  · rw [List.nodup_append]
    exact ⟨h.nodup, by simp, fun a ha b hb => by simp at hb; subst hb; have := hg a ha; omega⟩
theorem Rows2.lt {w : World} {base : Nat} {v : Value} {gs : List Nat} {L : List (List UInt8)} (h : Rows2 w base v gs L) : ∀ x ∈ gs, x < w.heap.size := by
  intro x hx
  obtain ⟨i, hi, rfl⟩ := List.getElem_of_mem hx
  exact ((h.each i (by rw [← h.len]; exact hi) hi).lt _ rfl).2

end Go.Proofs.YtpmlnkjamhelnaaGreat
namespace Go.Proofs.YtpmlnkjamhelnaaGreat
open Go.RowKit

/-- w' is w but for the blocks of S, and new ones. -/
structure Chg (w w' : World) (S : Nat → Prop) : Prop where
  os : w'.os = w.os
  tape : w'.tape = w.tape
  output : w'.output = w.output
  size : w.heap.size ≤ w'.heap.size
  block : ∀ k, k < w.heap.size → ¬ S k → w'.heap[k]? = w.heap[k]?
theorem Chg.refl (w : World) (S : Nat → Prop) : Chg w w S := ⟨rfl, rfl, rfl, Nat.le_refl _, fun _ _ _ => rfl⟩
theorem Chg.trans {a b c : World} {S T : Nat → Prop} (h : Chg a b S) (k : Chg b c T) (hT : ∀ i, i < a.heap.size → T i → S i) : Chg a c S :=
  ⟨k.os.trans h.os, k.tape.trans h.tape, k.output.trans h.output, Nat.le_trans h.size k.size, fun i hi hn => (k.block i (Nat.lt_of_lt_of_le hi h.size) (fun ht => hn (hT i hi ht))).trans (h.block i hi hn)⟩
theorem Chg.of_grown {a b : World} {r : Option Nat} (h : a.grownBy b r) : Chg a b (fun k => r = some k) := ⟨h.os, h.tape, h.output, h.size, fun i hi hn => h.block i hi (fun e => hn e.symm)⟩
theorem Chg.alloc (w : World) (o : Obj) (S : Nat → Prop) : Chg w (w.alloc o) S := ⟨rfl, rfl, rfl, by simp, fun k hk _ => Below.heap_alloc w o k hk⟩
theorem Chg.drew (w : World) (S : Nat → Prop) : Chg w w.drew S := ⟨rfl, rfl, rfl, Nat.le_refl _, fun _ _ _ => rfl⟩
theorem Chg.setCell (w : World) (a : Addr) (v : Value) : Chg w (w.setCell a v) (fun k => k = a.block) := ⟨rfl, rfl, rfl, by simp [World.setCell], fun k _ hn => Below.heap_setCell w a v k hn⟩
theorem Chg.mono {a b : World} {S T : Nat → Prop} (h : Chg a b S) (hT : ∀ i, i < a.heap.size → S i → T i) : Chg a b T := ⟨h.os, h.tape, h.output, h.size, fun i hi hn => h.block i hi (fun hs => hn (hT i hi hs))⟩
theorem Chg.below {a b : World} {S : Nat → Prop} (h : Chg a b S) {B : Nat} (hB : B ≤ a.heap.size) (hS : ∀ i, S i → B ≤ i) : Below B a b :=
  ⟨h.os, h.tape, h.output, h.size, fun k hk => h.block k (by omega) (fun hs => by have := hS k hs; omega)⟩
theorem Chg.of_below {a b : World} {S : Nat → Prop} (h : Below a.heap.size a b) : Chg a b S := ⟨h.os, h.tape, h.output, h.size, fun k hk _ => h.block k hk⟩
theorem Chg.cell {a b : World} {S : Nat → Prop} (h : Chg a b S) {p : Addr} {v : Value} (hc : a.cell? p = some v) (hp : ¬ S p.block) : b.cell? p = some v := by
  rw [World.cell?_of_block (h.block p.block (World.block_lt_of_cell? _ _ hc) hp)]; exact hc

/-- A block of two cells. -/
theorem cells2 {w : World} {b : Nat} {x y : Value} {t : TypeId} (h : w.heap[b]? = some (.cells #[x, y] t (0, 0))) : w.cell? ⟨b, 0, none⟩ = some x ∧ w.cell? ⟨b, 1, none⟩ = some y ∧ w.frozen? ⟨b, 0, none⟩ = false ∧ w.frozen? ⟨b, 1, none⟩ = false := by
  simp [World.cell?, World.frozen?, h]
theorem set2_0 {w : World} {b : Nat} {x y u : Value} {t : TypeId} (h : w.heap[b]? = some (.cells #[x, y] t (0, 0))) : (w.setCell ⟨b, 0, none⟩ u).heap[b]? = some (.cells #[u, y] t (0, 0)) := by
  have hlt := lt_of_block h
  have h' : w.heap[b] = .cells #[x, y] t (0, 0) := by simpa [Array.getElem?_eq_getElem hlt] using h
  show (w.heap.modify b _)[b]? = _
  rw [Array.getElem?_eq_getElem (by simpa using hlt), Array.getElem_modify_self, h']
  rfl
theorem set2_1 {w : World} {b : Nat} {x y u : Value} {t : TypeId} (h : w.heap[b]? = some (.cells #[x, y] t (0, 0))) : (w.setCell ⟨b, 1, none⟩ u).heap[b]? = some (.cells #[x, u] t (0, 0)) := by
  have hlt := lt_of_block h
  have h' : w.heap[b] = .cells #[x, y] t (0, 0) := by simpa [Array.getElem?_eq_getElem hlt] using h
  show (w.heap.modify b _)[b]? = _
  rw [Array.getElem?_eq_getElem (by simpa using hlt), Array.getElem_modify_self, h']
  rfl

/-- At ao there lie the ints ns. -/
def Is (w : World) (ao : Option Addr) (ns : List Int) : Prop :=
  ns = [] ∨ ∃ b off, ao = some ⟨b, off, none⟩ ∧ ∀ j (h : j < ns.length), w.cell? ⟨b, off + j, none⟩ = some (.int .i64 ns[j])
/-- What a Writer may turn: its held struct and its row. -/
def WSet (h : Nat) (v : Value) (k : Nat) : Prop := k = h ∨ v.ownBlock = some k
/-- From w and v to w' and v', the Writer's held struct at h. -/
def WStep (h : Nat) (w : World) (v : Value) (w' : World) (v' : Value) : Prop := Chg w w' (WSet h v) ∧ (v'.ownBlock = v.ownBlock ∨ ∃ g, v'.ownBlock = some g ∧ w.heap.size ≤ g)
theorem WStep.refl (h : Nat) (w : World) (v : Value) : WStep h w v w v := ⟨Chg.refl _ _, .inl rfl⟩
theorem WStep.trans {h : Nat} {a b c : World} {u v x : Value} (s : WStep h a u b v) (t : WStep h b v c x) : WStep h a u c x := by
  refine ⟨s.1.trans t.1 (fun i hi ht => ?_), ?_⟩
  · rcases ht with e | e
    · exact .inl e
    · rcases s.2 with k | ⟨g, k, hg⟩
      · exact .inr (by rw [← k]; exact e)
      · rw [k] at e; cases e; omega
  · rcases t.2 with e | ⟨g, e, hg⟩
    · rw [e]; exact s.2
    · exact .inr ⟨g, e, Nat.le_trans s.1.size hg⟩
theorem WStep.of_step {h : Nat} {a b : World} {u v : Value} (s : Step a u b v) : WStep h a u b v :=
  ⟨(Chg.of_grown s.1).mono (fun _ _ e => .inr e), s.2⟩
theorem WStep.setCell (h o : Nat) (w : World) (v x : Value) : WStep h w v (w.setCell ⟨h, o, none⟩ x) v :=
  ⟨(Chg.setCell w ⟨h, o, none⟩ x).mono (fun _ _ e => .inl e), .inl rfl⟩
theorem WStep.alloc (h : Nat) (w : World) (v : Value) (o : Obj) : WStep h w v (w.alloc o) v := ⟨Chg.alloc _ _ _, .inl rfl⟩
theorem WStep.drew (h : Nat) (w : World) (v : Value) : WStep h w v w.drew v := ⟨Chg.drew _ _, .inl rfl⟩

/-- Eight bytes of an int. -/
def be64 (n : Int) : List UInt8 := be (n % 18446744073709551616).toNat 8
theorem be64_length (n : Int) : (be64 n).length = 8 := be_length _ _
def ints (ns : List Int) : List UInt8 := ns.flatMap be64
theorem ints_snoc (ns : List Int) (k : Nat) (h : k < ns.length) : ints (ns.take (k + 1)) = ints (ns.take k) ++ be64 ns[k] := by
  rw [List.take_succ_eq_append_getElem h]; simp only [ints, List.flatMap_append, List.flatMap_cons, List.flatMap_nil, List.append_nil]
theorem ints_length (ns : List Int) : (ints ns).length = 8 * ns.length := by
  induction ns with
  | nil => rfl
  | cons n r ih => simp only [ints, List.flatMap_cons, List.length_append, be64_length, List.length_cons] at ih ⊢; omega

attribute [local go_sem ↓] Go.wp_at_zero Go.wp_at_succ
end Go.Proofs.YtpmlnkjamhelnaaGreat
namespace Go.Proofs.YtpmlnkjamhelnaaGreat
open Go.RowKit

/-- At ao there lie the texts ss. -/
def Ss (w : World) (ao : Option Addr) (ss : List (List UInt8)) : Prop :=
  ss = [] ∨ ∃ b off, ao = some ⟨b, off, none⟩ ∧ ∀ j (h : j < ss.length), w.cell? ⟨b, off + j, none⟩ = some (.string ⟨ss[j].toArray⟩)
def text (s : List UInt8) : List UInt8 := be s.length 2 ++ s
theorem text_length (s : List UInt8) : (text s).length = 2 + s.length := by rw [text, List.length_append, be_length]
def texts (ss : List (List UInt8)) : List UInt8 := ss.flatMap text
theorem texts_snoc (ss : List (List UInt8)) (k : Nat) (h : k < ss.length) : texts (ss.take (k + 1)) = texts (ss.take k) ++ text ss[k] := by
  rw [List.take_succ_eq_append_getElem h]; simp only [texts, List.flatMap_append, List.flatMap_cons, List.flatMap_nil, List.append_nil]
theorem texts_take_le (ss : List (List UInt8)) (k : Nat) : (texts (ss.take k)).length ≤ (texts ss).length := by
  have : texts ss = texts (ss.take k) ++ texts (ss.drop k) := by
    rw [texts, texts, texts, ← List.flatMap_append, List.take_append_drop]
  rw [this, List.length_append]; omega

attribute [local go_sem ↓] Go.wp_at_zero Go.wp_at_succ
end Go.Proofs.YtpmlnkjamhelnaaGreat
namespace Go.Proofs.YtpmlnkjamhelnaaGreat
open Go.RowKit

theorem run_str {w : World} {ao : Option Addr} {bs : List UInt8} (h : Bs w ao bs) (cap : Nat) : (convert 22 9 (.slice ao bs.length cap)).run Tryz.prog w = .ok (.string ⟨bs.toArray⟩) w := by
  have nums : ∀ l : List UInt8, strOfNums (l.map fun b => (b.toNat : Int)) = ⟨l.toArray⟩ := fun l => by
    unfold strOfNums
    rw [List.map_map]
    congr 2
    conv => rhs; rw [← List.map_id l]
    apply List.map_congr_left
    intro b _
    simp
  rcases h with rfl | ⟨b, off, rfl, hc⟩
  · cases ao with
    | none => exact run_convert_bytes_nil w 22 5 Tryz.underlying22 Tryz.underlying5 0 cap 9 Tryz.underlying9
    | some a =>
      rw [run_convert_bytes_string w 22 9 5 _ _ cap Tryz.underlying22 Tryz.underlying5 Tryz.underlying9]
      exact (run_bytesToString w a 0 cap [] (by simp [loadCells, loadCellsFrom])).trans rfl
  · rw [run_convert_bytes_arg w 22 5 Tryz.underlying22 Tryz.underlying5 b off bs.length cap (bs.map fun b => (b.toNat : Int)) (by simp) (fun i hi => by rw [hc i hi]; simp [List.getD, hi]) 9 Tryz.underlying9, nums]

theorem Own.chg {w w' : World} {base : Nat} {e : TypeId} {v : Value} {xs : List Value} {S : Nat → Prop} (h : Own w base e v xs) (k : Chg w w' S) (hv : ∀ g, v.ownBlock = some g → ¬ S g) : Own w' base e v xs := by
  refine ⟨h.1, ?_⟩
  rcases h.2 with h2 | ⟨g, cap, cur, rfl, hg, hh, r⟩
  · exact .inl h2
  · exact .inr ⟨g, cap, cur, rfl, hg, by rw [k.block g (lt_of_block hh) (hv g rfl)]; exact hh, r⟩
theorem WStep.below {h : Nat} {w w' : World} {v v' : Value} (s : WStep h w v w' v') {B : Nat} (hB : B ≤ w.heap.size) (hh : B ≤ h) (hv : ∀ k, v.ownBlock = some k → B ≤ k) : Below B w w' :=
  s.1.below hB (fun i hi => by rcases hi with e | e
                               · omega
                               · exact hv i e)

theorem firstOf_empty : firstOf (frameOf []) = some [] := by decide +kernel
theorem framesOf_empty : framesOf (frameOf []) = ([[]], 8) := by
  rw [framesOf_some firstOf_empty]
  have e : (frameOf []).drop (8 + ([] : List UInt8).length) = [] := List.drop_eq_nil_of_le (by simp [frameOf, be_length])
  rw [e, framesOf_none (by rfl)]
  rfl

end Go.Proofs.YtpmlnkjamhelnaaGreat
