/- The library's variables as they were laid. -/
import Derived.Test.YtkmfopdklohgnaaDoorVP
namespace Go.Proofs.YtkmfopdklohgnaaDoor
open Go.RowKit Go.Shelf
/-- The library's variables lie as they were laid. -/
structure Laid (w : World) : Prop where
  pow : Pow w
  syn : ∃ tp p, w.var? Tryd.prog "strconv.ErrSyntax" = some #[.iface tp p]
  ran : ∃ tp p, w.var? Tryd.prog "strconv.ErrRange" = some #[.iface tp p]
theorem var_keep {w w' : World} {n : String} {g : Nat} {xs : Array Value} (hg : Tryd.prog.globalNamed n = some g) (h : w.var? Tryd.prog n = some xs) (hb : Below w.heap.size w w') : w'.var? Tryd.prog n = some xs := by
  unfold World.var? at h ⊢
  rw [hg] at h ⊢
  simp only [Option.bind_some] at h ⊢
  rw [hb.block _ (by
    rcases Nat.lt_or_ge g w.heap.size with h' | h'
    · exact h'
    · rw [Array.getElem?_eq_none h'] at h; cases h)]
  exact h
theorem Laid.keep {w w' : World} (h : Laid w) (hb : Below w.heap.size w w') : Laid w' := by
  obtain ⟨h0, ⟨t1, p1, h1⟩, ⟨t2, p2, h2⟩⟩ := h
  exact ⟨h0.keep hb, ⟨t1, p1, var_keep (show Tryd.prog.globalNamed "strconv.ErrSyntax" = some 3 by kernel_rfl) h1 hb⟩, ⟨t2, p2, var_keep (show Tryd.prog.globalNamed "strconv.ErrRange" = some 4 by kernel_rfl) h2 hb⟩⟩
end Go.Proofs.YtkmfopdklohgnaaDoor
