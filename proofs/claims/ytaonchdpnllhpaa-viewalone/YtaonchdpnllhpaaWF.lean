/- What a Writer of package wire does: NewWriter, Int, Byte, Text and Bytes. -/
import Derived.Test.YtaonchdpnllhpaaWA
import Derived.Deep.RegionHeld3
import Derived.Deep.RegionWith
import Derived.Deep.DrawnRows
namespace Go.Proofs.Ytaonchdpnllhpaa
open Go.RowKit

/-- w' is w but for the blocks of S, and new ones. -/
structure Chg (w w' : World) (S : Nat → Prop) : Prop where
  os : w'.os = w.os
  tape : w'.tape = w.tape
  output : w'.output = w.output
  size : w.heap.size ≤ w'.heap.size
  block : ∀ k, k < w.heap.size → ¬ S k → w'.heap[k]? = w.heap[k]?
theorem Chg.refl (w : World) (S : Nat → Prop) : Chg w w S := ⟨rfl, rfl, rfl, Nat.le_refl _, fun _ _ _ => rfl⟩
theorem Chg.trans {a b c : World} {S T : Nat → Prop} (h : Chg a b S) (k : Chg b c T) (hT : ∀ i, i < a.heap.size → T i → S i) : Chg a c S :=
  ⟨k.os.trans h.os, k.tape.trans h.tape, k.output.trans h.output, Nat.le_trans h.size k.size, fun i hi hn => (k.block i (Nat.lt_of_lt_of_le hi h.size) (fun ht => hn (hT i hi ht))).trans (h.block i hi hn)⟩
theorem Chg.of_grown {a b : World} {r : Option Nat} (h : a.grownBy b r) : Chg a b (fun k => r = some k) := ⟨h.os, h.tape, h.output, h.size, fun i hi hn => h.block i hi (fun e => hn e.symm)⟩
theorem Chg.alloc (w : World) (o : Obj) (S : Nat → Prop) : Chg w (w.alloc o) S := ⟨rfl, rfl, rfl, by simp, fun k hk _ => Below.heap_alloc w o k hk⟩
theorem Chg.drew (w : World) (S : Nat → Prop) : Chg w w.drew S := ⟨rfl, rfl, rfl, Nat.le_refl _, fun _ _ _ => rfl⟩
theorem Chg.setCell (w : World) (a : Addr) (v : Value) : Chg w (w.setCell a v) (fun k => k = a.block) := ⟨rfl, rfl, rfl, by simp [World.setCell], fun k _ hn => Below.heap_setCell w a v k hn⟩
theorem Chg.mono {a b : World} {S T : Nat → Prop} (h : Chg a b S) (hT : ∀ i, i < a.heap.size → S i → T i) : Chg a b T := ⟨h.os, h.tape, h.output, h.size, fun i hi hn => h.block i hi (fun hs => hn (hT i hi hs))⟩
theorem Chg.below {a b : World} {S : Nat → Prop} (h : Chg a b S) {B : Nat} (hB : B ≤ a.heap.size) (hS : ∀ i, S i → B ≤ i) : Below B a b :=
  ⟨h.os, h.tape, h.output, h.size, fun k hk => h.block k (by omega) (fun hs => by have := hS k hs; omega)⟩
theorem Chg.of_below {a b : World} {S : Nat → Prop} (h : Below a.heap.size a b) : Chg a b S := ⟨h.os, h.tape, h.output, h.size, fun k hk _ => h.block k hk⟩
theorem Chg.cell {a b : World} {S : Nat → Prop} (h : Chg a b S) {p : Addr} {v : Value} (hc : a.cell? p = some v) (hp : ¬ S p.block) : b.cell? p = some v := by
  rw [World.cell?_of_block (h.block p.block (World.block_lt_of_cell? _ _ hc) hp)]; exact hc

/-- A block of two cells. -/
theorem cells2 {w : World} {b : Nat} {x y : Value} {t : TypeId} (h : w.heap[b]? = some (.cells #[x, y] t (0, 0))) : w.cell? ⟨b, 0, none⟩ = some x ∧ w.cell? ⟨b, 1, none⟩ = some y ∧ w.frozen? ⟨b, 0, none⟩ = false ∧ w.frozen? ⟨b, 1, none⟩ = false := by
  simp [World.cell?, World.frozen?, h]
theorem set2_0 {w : World} {b : Nat} {x y u : Value} {t : TypeId} (h : w.heap[b]? = some (.cells #[x, y] t (0, 0))) : (w.setCell ⟨b, 0, none⟩ u).heap[b]? = some (.cells #[u, y] t (0, 0)) := by
  have hlt := lt_of_block h
  have h' : w.heap[b] = .cells #[x, y] t (0, 0) := by simpa [Array.getElem?_eq_getElem hlt] using h
  show (w.heap.modify b _)[b]? = _
  rw [Array.getElem?_eq_getElem (by simpa using hlt), Array.getElem_modify_self, h']
  rfl
theorem set2_1 {w : World} {b : Nat} {x y u : Value} {t : TypeId} (h : w.heap[b]? = some (.cells #[x, y] t (0, 0))) : (w.setCell ⟨b, 1, none⟩ u).heap[b]? = some (.cells #[x, u] t (0, 0)) := by
  have hlt := lt_of_block h
  have h' : w.heap[b] = .cells #[x, y] t (0, 0) := by simpa [Array.getElem?_eq_getElem hlt] using h
  show (w.heap.modify b _)[b]? = _
  rw [Array.getElem?_eq_getElem (by simpa using hlt), Array.getElem_modify_self, h']
  rfl

/-- At ao there lie the ints ns. -/
def Is (w : World) (ao : Option Addr) (ns : List Int) : Prop :=
  ns = [] ∨ ∃ b off, ao = some ⟨b, off, none⟩ ∧ ∀ j (h : j < ns.length), w.cell? ⟨b, off + j, none⟩ = some (.int .i64 ns[j])
/-- What a Writer may turn: its held struct and its row. -/
def WSet (h : Nat) (v : Value) (k : Nat) : Prop := k = h ∨ v.ownBlock = some k
/-- From w and v to w' and v', the Writer's held struct at h. -/
def WStep (h : Nat) (w : World) (v : Value) (w' : World) (v' : Value) : Prop := Chg w w' (WSet h v) ∧ (v'.ownBlock = v.ownBlock ∨ ∃ g, v'.ownBlock = some g ∧ w.heap.size ≤ g)
theorem WStep.refl (h : Nat) (w : World) (v : Value) : WStep h w v w v := ⟨Chg.refl _ _, .inl rfl⟩
theorem WStep.trans {h : Nat} {a b c : World} {u v x : Value} (s : WStep h a u b v) (t : WStep h b v c x) : WStep h a u c x := by
  refine ⟨s.1.trans t.1 (fun i hi ht => ?_), ?_⟩
  · rcases ht with e | e
    · exact .inl e
    · rcases s.2 with k | ⟨g, k, hg⟩
      · exact .inr (by rw [← k]; exact e)
      · rw [k] at e; cases e; omega
  · rcases t.2 with e | ⟨g, e, hg⟩
    · rw [e]; exact s.2
    · exact .inr ⟨g, e, Nat.le_trans s.1.size hg⟩
theorem WStep.of_step {h : Nat} {a b : World} {u v : Value} (s : Step a u b v) : WStep h a u b v :=
  ⟨(Chg.of_grown s.1).mono (fun _ _ e => .inr e), s.2⟩
theorem WStep.setCell (h o : Nat) (w : World) (v x : Value) : WStep h w v (w.setCell ⟨h, o, none⟩ x) v :=
  ⟨(Chg.setCell w ⟨h, o, none⟩ x).mono (fun _ _ e => .inl e), .inl rfl⟩
theorem WStep.alloc (h : Nat) (w : World) (v : Value) (o : Obj) : WStep h w v (w.alloc o) v := ⟨Chg.alloc _ _ _, .inl rfl⟩
theorem WStep.drew (h : Nat) (w : World) (v : Value) : WStep h w v w.drew v := ⟨Chg.drew _ _, .inl rfl⟩

/-- Eight bytes of an int. -/
def be64 (n : Int) : List UInt8 := be (n % 18446744073709551616).toNat 8
theorem be64_length (n : Int) : (be64 n).length = 8 := be_length _ _
def ints (ns : List Int) : List UInt8 := ns.flatMap be64
theorem ints_snoc (ns : List Int) (k : Nat) (h : k < ns.length) : ints (ns.take (k + 1)) = ints (ns.take k) ++ be64 ns[k] := by
  rw [List.take_succ_eq_append_getElem h]; simp only [ints, List.flatMap_append, List.flatMap_cons, List.flatMap_nil, List.append_nil]
theorem ints_length (ns : List Int) : (ints ns).length = 8 * ns.length := by
  induction ns with
  | nil => rfl
  | cons n r ih => simp only [ints, List.flatMap_cons, List.length_append, be64_length, List.length_cons] at ih ⊢; omega

attribute [local go_sem ↓] Go.wp_at_zero Go.wp_at_succ
end Go.Proofs.Ytaonchdpnllhpaa
