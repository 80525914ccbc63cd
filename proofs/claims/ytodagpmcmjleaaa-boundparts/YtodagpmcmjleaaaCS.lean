/- The document's Same. -/
import Derived.Test.YtodagpmcmjleaaaCB
import Derived.Deep.QuietTactic
import Derived.BigQuiet
namespace Go.Proofs.Ytodagpmcmjleaaa
open Go.RowKit
theorem below_draws2 {B : Nat} {a w : World} (h : Below B a w) (m : Nat) : Below B a (w.drewN m) := ⟨h.os, h.tape, h.output, h.size, h.block⟩
theorem list_ne {α : Type} [DecidableEq α] {L M : List α} {k : Nat} (h1 : k < L.length) (h2 : k < M.length) (h : L[k] ≠ M[k]) : decide (L = M) = false := decide_eq_false fun e => by subst e; exact h rfl
end Go.Proofs.Ytodagpmcmjleaaa
