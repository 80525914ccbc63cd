/- value.Fits, Compare; op's fault, number, text, truth, answer. -/
import Derived.Test.YtkmfopdklohgnaaDoorVAll
import Derived.Test.YtkmfopdklohgnaaDoorOC
namespace Go.Proofs.YtkmfopdklohgnaaDoor
open Go.RowKit
attribute [local go_sem high] eq_val eq_val0

def fitsB (L : List Val) (ts : List Int) : Bool := decide (L.map Val.t = ts) && L.all Val.right
def IntsAt (w : World) (a : Option Addr) (ts : List Int) : Prop := ts = [] ∨ ∃ b off, a = some ⟨b, off, none⟩ ∧ ∀ j (h : j < ts.length), w.cell? ⟨b, off + j, none⟩ = some (.int .i64 ts[j])
theorem IntsAt.keep {w w' : World} {a : Option Addr} {L : List Int} (h : IntsAt w a L) (hb : Below w.heap.size w w') : IntsAt w' a L := by
  rcases h with h | ⟨b, off, e, hc⟩
  · exact .inl h
  · exact .inr ⟨b, off, e, fun j hj => cell_below (hc j hj) hb⟩
theorem below_draws {B : Nat} {a w : World} (h : Below B a w) (m : Nat) : Below B a (w.drewN m) := ⟨h.os, h.tape, h.output, h.size, h.block⟩
theorem map_t_ne {L : List Val} {ts : List Int} {k : Nat} (h1 : k < L.length) (h2 : k < ts.length) (h : L[k].t ≠ ts[k]) : L.map Val.t ≠ ts := by
  intro e
  subst e
  simp at h
def lessV (x y : Val) : Bool := if x.t = y.t then (if x.n = y.n then Op.bytesLess x.b y.b else decide (x.n < y.n)) else decide (x.t < y.t)
def cmpV (x y : Val) : Int := if x = y then 0 else if lessV x y then -1 else 1
end Go.Proofs.YtkmfopdklohgnaaDoor
