/- What a Writer's Byte does. A Writer's calls that are refused: nothing is written, the error is told. What package code writes: lists of types. What package code writes: instructions. -/
import Derived.Test.YtpmlnkjamhelnaaGreatWC
import Derived.Test.YtpmlnkjamhelnaaGreatCS
import Derived.Test.YtpmlnkjamhelnaaGreatXM
namespace Go.Proofs.YtpmlnkjamhelnaaGreat
open Go.RowKit

/-- Numbers as bytes. -/
def byts (ns : List Int) : List UInt8 := ns.map fun n => UInt8.ofNat n.toNat
theorem byts_snoc (ns : List Int) (k : Nat) (h : k < ns.length) : byts (ns.take (k + 1)) = byts (ns.take k) ++ [UInt8.ofNat ns[k].toNat] := by
  rw [List.take_succ_eq_append_getElem h]; simp only [byts, List.map_append, List.map_cons, List.map_nil]
theorem byts_length (ns : List Int) : (byts ns).length = ns.length := by simp [byts]

theorem src_new {P : Program} {tx e' : TypeId} (hk : P.underlying tx = some (.slice e')) (B : Nat) (x y : Value) (t : TypeId) (W : World) (hb : W.heap[B]? = some (.cells #[x] t (0, 0))) (h : x = y) (h1 : y.oneCell' = true) (c : Nat) : Src P 1 tx (.slice (some ⟨B, 0, none⟩) 1 c) [y].length [y] W := by
  subst h
  exact Src.ofSlice _ hk _ 1 c [x] rfl (World.news_of_block hb) (by intro u hu; simp at hu; subst hu; exact h1)

attribute [local go_sem ↓] Go.wp_at_zero Go.wp_at_succ
end Go.Proofs.YtpmlnkjamhelnaaGreat
namespace Go.Proofs.YtpmlnkjamhelnaaGreat
open Go.RowKit

theorem texts_le (ss : List (List UInt8)) (h : ∀ j (h : j < ss.length), ss[j].length ≤ 65535) : (texts ss).length ≤ 65537 * ss.length := by
  induction ss with
  | nil => simp [texts]
  | cons s r ih =>
    have h0 := h 0 (by simp)
    have ih' := ih (fun j hj => h (j + 1) (by simp; omega))
    simp only [texts, List.flatMap_cons, List.length_append, text_length, List.length_cons, List.getElem_cons_zero] at *
    omega

end Go.Proofs.YtpmlnkjamhelnaaGreat
namespace Go.Proofs.YtpmlnkjamhelnaaGreat
open Go.RowKit
/-- A block that the Writer does not touch. -/
structure Kept (w0 wr : World) (vr : Value) (k : Nat) (o : Obj) : Prop where
  there : wr.heap[k]? = some o
  off : k ≠ w0.heap.size ∧ vr.ownBlock ≠ some k
theorem Kept.step {w0 wr w2 : World} {vr v2 : Value} {k : Nat} {o : Obj} (K : Kept w0 wr vr k o) (hs : WStep w0.heap.size wr vr w2 v2) : Kept w0 w2 v2 k o := by
  have hlt := (Array.getElem?_eq_some_iff.1 K.there).1
  refine ⟨?_, K.off.1, ?_⟩
  · rw [hs.1.block k hlt (fun e => e.elim K.off.1 K.off.2)]; exact K.there
  · rcases hs.2 with e | ⟨g, e, hg⟩
    · rw [e]; exact K.off.2
    · rw [e]; intro h; cases h; omega
def lens (X : List (List Int)) : List UInt8 := X.flatMap fun l => [UInt8.ofNat l.length] ++ byts l
theorem lens_snoc (X : List (List Int)) (k : Nat) (h : k < X.length) : lens (X.take (k + 1)) = lens (X.take k) ++ ([UInt8.ofNat X[k].length] ++ byts X[k]) := by
  unfold lens
  rw [List.take_add_one, List.getElem?_eq_getElem h]
  show List.flatMap _ (X.take k ++ [X[k]]) = _
  rw [List.flatMap_append, List.flatMap_cons, List.flatMap_nil, List.append_nil]
theorem lens_take_le (X : List (List Int)) (k : Nat) : (lens (X.take k)).length ≤ (lens X).length := by
  have : lens X = lens (X.take k) ++ lens (X.drop k) := by
    unfold lens
    rw [← List.flatMap_append, List.take_append_drop]
  rw [this, List.length_append]
  omega
end Go.Proofs.YtpmlnkjamhelnaaGreat
namespace Go.Proofs.YtpmlnkjamhelnaaGreat
open Go.RowKit
theorem and255 (n : Nat) (h : n ≤ 256) : bits BinOp.and IntKind.i64 (n : Int) 255 = ((n % 256 : Nat) : Int) := by
  have : ∀ k : Fin 257, bits BinOp.and IntKind.i64 ((k.val : Nat) : Int) 255 = ((k.val % 256 : Nat) : Int) := by decide +kernel
  exact this ⟨n, by omega⟩
/-- The bytes of an instruction that may be; of a list of them. -/
def insB (x : Int × Int) : List UInt8 := [UInt8.ofNat x.1.toNat] ++ (if takesN x.1 = 0 then [] else if takesN x.1 = 1 then be64 x.2 else [UInt8.ofNat x.2.toNat])
def codeB (is : List (Int × Int)) : List UInt8 := byts [(is.length / 256 : Nat), (is.length % 256 : Nat)] ++ is.flatMap insB
theorem insB_len (x : Int × Int) : (insB x).length ≤ 9 := by
  unfold insB
  split
  · simp
  · split
    · simp [be64, be_length]
    · simp
theorem insB_flat (is : List (Int × Int)) : (is.flatMap insB).length ≤ 9 * is.length := by
  induction is with
  | nil => simp
  | cons x r ih =>
    have := insB_len x
    simp only [List.flatMap_cons, List.length_append, List.length_cons]
    omega
end Go.Proofs.YtpmlnkjamhelnaaGreat
