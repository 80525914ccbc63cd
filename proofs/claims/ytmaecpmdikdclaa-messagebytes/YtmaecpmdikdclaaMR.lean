/- What the document's reader reads (out of layer 4's DG). -/
import Derived.Test.YtmaecpmdikdclaaMQ
namespace Go.Proofs.Ytmaecpmdikdclaa
open Go.RowKit
/-- The document's reader of bs has s. -/
def FS (w : World) (q g : Nat) (bs : List UInt8) (s : RSt) : Prop := ∃ k, RfS w q g bs k s.2 ∧ s.1 = bs.drop k
theorem FS.chg {w w' : World} {q g : Nat} {bs : List UInt8} {s : RSt} {S : Nat → Prop} (H : FS w q g bs s) (c : Chg w w' S) (h1 : ¬ S q) (h2 : ¬ S g) : FS w' q g bs s := by
  obtain ⟨k, h, e⟩ := H
  exact ⟨k, h.chg c h1 h2, e⟩
def OneEndF (r : Value) (q g : Nat) (bs : List UInt8) (st : RSt) (w : World) (x : Ending) (w' : World) : Prop := x = .returned r ∧ FS w' q g bs st ∧ Chg w w' (fun k => k = q)
theorem fbyte_s (q g : Nat) (bs : List UInt8) (s : RSt) (w : World) (H : FS w q g bs s) : Calls Try.prog 49 #[.pointer (some ⟨q, 0, none⟩)] w (OneEndF (.int .i64 (gByte s).1) q g bs (gByte s).2 w) := by
  obtain ⟨k, h, e⟩ := H
  refine (fbyte_all q g bs k s.2 w h).mono ?_
  rw [← e]
  rintro _ w' ⟨rfl, h', c⟩
  exact ⟨rfl, ⟨_, h', by simp [gByte, rB, e, List.drop_drop]⟩, c⟩
theorem fint_s (q g : Nat) (bs : List UInt8) (s : RSt) (w : World) (H : FS w q g bs s) : Calls Try.prog 50 #[.pointer (some ⟨q, 0, none⟩)] w (OneEndF (.int .i64 (gInt s).1) q g bs (gInt s).2 w) := by
  obtain ⟨k, h, e⟩ := H
  refine (fint_all q g bs k s.2 w h).mono ?_
  rw [← e]
  rintro _ w' ⟨rfl, h', c⟩
  exact ⟨rfl, ⟨_, h', by simp [gInt, rB, e, List.drop_drop]⟩, c⟩
theorem ftext_s (q g : Nat) (bs : List UInt8) (s : RSt) (w : World) (H : FS w q g bs s) : Calls Try.prog 77 #[.pointer (some ⟨q, 0, none⟩)] w (OneEndF (.string ⟨(gText s).1.toArray⟩) q g bs (gText s).2 w) := by
  obtain ⟨k, h, e⟩ := H
  refine (ftext_all q g bs k s.2 w h).mono ?_
  rw [← e]
  rintro _ w' ⟨rfl, h', c⟩
  exact ⟨rfl, ⟨_, h', by simp [gText, rB, e, List.drop_drop]⟩, c⟩
theorem FS.cell {w : World} {q g : Nat} {bs : List UInt8} {s : RSt} (H : FS w q g bs s) : w.cell? ⟨q, 2, none⟩ = some (.int .i64 s.2) ∧ q < w.heap.size := by
  obtain ⟨k, h, e⟩ := H
  obtain ⟨⟨ao, cap, hE, _⟩, _⟩ := h
  exact ⟨(cells3 hE).1.2.2, lt_of_block hE⟩
def ManyEndF (e : TypeId) (size n : Nat) (xs : List Value) (q g : Nat) (bs : List UInt8) (st : RSt) (w : World) (x : Ending) (w' : World) : Prop := (∃ v, x = .returned v ∧ w'.ownsRow w.heap.size e size v n xs) ∧ FS w' q g bs st ∧ Chg w w' (fun k => k = q)
theorem manyf_step4 {w wr w2 w6 : World} {q g n base size : Nat} {e : TypeId} {v v' : Value} {st : RSt} {xs : List Value} {bs : List UInt8} {o : Obj} (hb : base = w.heap.size) (hq : q < w.heap.size) (hg : g < w.heap.size) (C0 : Chg w wr (fun i => i = q)) (hrow : wr.ownsRow base e size v n xs) (c1 : Chg wr w2 (fun i => i = q)) (F : FS w2 q g bs st) (hs : Step (w2.alloc o) v w6 v') :
    FS w6 q g bs st ∧ Chg w w6 (fun i => i = q) := by
  subst hb
  have hlt := row_lt4 hrow
  have c2 : Chg w w2 (fun i => i = q) := C0.trans c1 fun _ _ e => e
  have c3 : Chg w (w2.alloc o) (fun i => i = q) := c2.trans (Chg.alloc w2 o (fun i => i = q)) fun _ _ e => e
  refine ⟨(F.chg (Chg.alloc w2 o (fun _ => False)) id id).chg (Chg.of_grown hs.1) (fun e => ?_) (fun e => ?_), c3.trans (Chg.of_grown hs.1) fun i hi e => ?_⟩
  all_goals (have := (hlt _ e).1; omega)
end Go.Proofs.Ytmaecpmdikdclaa
