/- Layer 15, plain: what a disk is, and what its calls come to. -/
import Derived.Test.YtghhhlbpolhkhaaProg
import Derived.Test.YtghhhlbpolhkhaaAN
import Derived.Deep.RegionLaw
import Derived.BigQuiet
import Derived.Shelf.Abstract
import Derived.Outline
import Derived.Deep.LoopGhost
import Derived.Maps.OwnSet
import Derived.Maps.Ext
import Derived.Maps.RangeWalk
import Derived.Lib.Builder
namespace Go.Proofs.Ytghhhlbpolhkhaa
open Go.RowKit
theorem hidb {p : Prop} (h : p) : Hid p := h
abbrev Bt := List UInt8
abbrev sv (b : Bt) : Value := .string ⟨b.toArray⟩
/-- A sector. -/
structure Sec where
  b : Bt
  bad : Bool
  deriving DecidableEq
def Sec.c (x : Sec) : List Value := [sv x.b, .bool x.bad]
def Sec.v (x : Sec) : Value := .agg #[sv x.b, .bool x.bad]
def noSec : Sec := ⟨[], false⟩
def badSec : Sec := ⟨[], true⟩
def padB (b : Bt) : Bt := b ++ List.replicate (64 - b.length) 0
def fillS (b : Bt) : Sec := ⟨padB b, false⟩
/-- Of a sector: what was sure, and what was written since. -/
structure Cl where
  s : Sec
  n : Option Sec
def Cl.now (c : Cl) : Sec := c.n.getD c.s
structure Fl where
  name : Bt
  cs : List Cl
structure Dk where
  most : Int
  fs : List Fl
  fuse : Int
  off : Bool
def Fl.sure (f : Fl) : List Sec := f.cs.map Cl.s
def Fl.wr (f : Fl) (k : Nat) : Option Sec := (f.cs[k]?).bind Cl.n
/-- Rows of sectors, cell by cell. -/
def secCs (l : List Sec) : List Value := l.flatMap Sec.c
theorem secCs_length (l : List Sec) : (secCs l).length = l.length * 2 := by
  induction l with
  | nil => rfl
  | cons x l ih =>
    have : secCs (x :: l) = x.c ++ secCs l := rfl
    rw [this, List.length_append, ih, List.length_cons]
    show 2 + _ = _
    omega
theorem secCs_app (l m : List Sec) : secCs (l ++ m) = secCs l ++ secCs m := List.flatMap_append ..
theorem secCs_at {l : List Sec} {k : Nat} {x : Sec} (h : l[k]? = some x) : (secCs l)[k * 2]? = some (sv x.b) ∧ (secCs l)[k * 2 + 1]? = some (.bool x.bad) := by
  induction l generalizing k with
  | nil => simp at h
  | cons y l ih =>
    have e : secCs (y :: l) = sv y.b :: .bool y.bad :: secCs l := rfl
    cases k with
    | zero => rw [List.getElem?_cons_zero] at h; injection h with h; subst h; rw [e]; exact ⟨rfl, rfl⟩
    | succ k =>
      rw [List.getElem?_cons_succ] at h
      obtain ⟨h1, h2⟩ := ih h
      rw [e, show (k + 1) * 2 = k * 2 + 1 + 1 by omega]
      refine ⟨?_, ?_⟩
      · rw [List.getElem?_cons_succ, List.getElem?_cons_succ]; exact h1
      · rw [List.getElem?_cons_succ, List.getElem?_cons_succ]; exact h2
theorem secCs_set {l : List Sec} {k : Nat} (x : Sec) (h : k < l.length) : secCs (l.set k x) = ((secCs l).set (k * 2) (sv x.b)).set (k * 2 + 1) (.bool x.bad) := by
  induction l generalizing k with
  | nil => simp at h
  | cons y l ih =>
    have e : ∀ (y : Sec) l, secCs (y :: l) = sv y.b :: .bool y.bad :: secCs l := fun _ _ => rfl
    cases k with
    | zero => rw [List.set_cons_zero, e, e]; rfl
    | succ k =>
      rw [List.set_cons_succ, e, e, ih (by simpa using h), show (k + 1) * 2 = k * 2 + 1 + 1 by omega, show k * 2 + 1 + 1 + 1 = (k * 2 + 1) + 1 + 1 by omega]
      rfl
theorem secCs_take {l : List Sec} {n : Nat} : (secCs l).take (n * 2) = secCs (l.take n) := by
  induction l generalizing n with
  | nil => simp [secCs]
  | cons y l ih =>
    have e : ∀ (y : Sec) l, secCs (y :: l) = sv y.b :: .bool y.bad :: secCs l := fun _ _ => rfl
    cases n with
    | zero => rfl
    | succ n => rw [e, show (n + 1) * 2 = n * 2 + 1 + 1 by omega, List.take_succ_cons, List.take_succ_cons, ih]; rfl
theorem secCs_one (l : List Sec) : ∀ u ∈ secCs l, u.oneCell' = true := by
  intro u hu
  obtain ⟨x, _, hx⟩ := List.mem_flatMap.1 hu
  rcases List.mem_cons.1 hx with rfl | hx
  · rfl
  · rw [List.mem_singleton] at hx; subst hx; rfl
theorem padB_length {b : Bt} (h : b.length ≤ 64) : (padB b).length = 64 := by simp [padB]; omega
theorem fill_ne {b : Bt} (h : b.length ≤ 64) : fillS b ≠ noSec := by
  intro e
  have : (padB b).length = 0 := by have := congrArg (fun s => s.b.length) e; exact this
  rw [padB_length h] at this
  omega
/-- A write. -/
def wrC (cs : List Cl) (at_ : Nat) (x : Sec) : List Cl := if h : at_ < cs.length then cs.set at_ ⟨cs[at_].s, some x⟩ else cs ++ [⟨noSec, some x⟩]
def syncC (cs : List Cl) : List Cl := cs.map fun c => ⟨c.now, none⟩
/-- A crash: fates. -/
def fateN (n : Int) : Int := n % 3
def fateS (c : Sec) (x : Sec) (n : Int) : Sec := if fateN n = 1 then x else if fateN n = 2 then badSec else c
def crC : List Cl → List Int → List Sec × List Int
  | [], f => ([], f)
  | c :: cs, f => match c.n with
    | none => (c.s :: (crC cs f).1, (crC cs f).2)
    | some x => match f with
      | [] => (c.s :: (crC cs []).1, (crC cs []).2)
      | a :: f => (fateS c.s x a :: (crC cs f).1, (crC cs f).2)
/-- The end without those that are nothing. -/
def cutS : List Sec → List Sec
  | [] => []
  | x :: l => if x = noSec ∧ cutS l = [] then [] else x :: cutS l
def trimS (l : List Sec) : List Sec := (cutS l).map fun x => if x = noSec then fillS [] else x
def crF (f : Fl) (fates : List Int) : Fl × List Int := (⟨f.name, (trimS (crC f.cs fates).1).map fun s => ⟨s, none⟩⟩, (crC f.cs fates).2)
def crFs : List Fl → List Int → List Fl
  | [], _ => []
  | f :: fs, fates => (crF f fates).1 :: crFs fs (crF f fates).2
def crD (d : Dk) (fates : List Int) : Dk := ⟨d.most, (crFs d.fs fates).filter fun f => decide (f.cs ≠ []), -1, false⟩
end Go.Proofs.Ytghhhlbpolhkhaa
