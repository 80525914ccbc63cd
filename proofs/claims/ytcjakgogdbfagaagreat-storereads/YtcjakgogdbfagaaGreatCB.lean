/- The document's Clone. -/
import Derived.Test.YtcjakgogdbfagaaGreatCBr
import Derived.Deep.RegionLaw
namespace Go.Proofs.YtcjakgogdbfagaaGreat
open Go.RowKit
/-- Lists that memory can bear. -/
def Fn.fits (f : Fn) : Prop := f.p.length ≤ 17592186044416 ∧ f.r.length ≤ 17592186044416 ∧ f.l.length ≤ 17592186044416 ∧ f.code.length ≤ 8796093022208
def Scr.fits (s : Scr) : Prop := s.consts.length ≤ 8796093022208 ∧ s.funcs.length ≤ 1466015503701 ∧ (∀ f ∈ s.funcs, f.fits) ∧ ∀ x ∈ s.consts, x.length ≤ 9223372036854775807
theorem keepA (w : World) (o : Obj) : ∀ a v, w.cell? a = some v → (w.alloc o).cell? a = some v := below_keep ((Below.refl _ w).alloc (Nat.le_refl _) o)
theorem results_cell1 {fn : Func} {t : Tmp} {ty : TypeId} (h : fn.results = #[.cell t ty]) (tmps : Array Value) (P : Program) (w : World) (a : Addr) (v : Value) (ha : tmps[t]?.getD undef = .pointer (some a)) (hl : (loadVar ty a).run P w = .ok v w) :
    (results fn tmps).run P w = .ok v w := by
  simp [results, h, ha, asAddr, hl]
def CloneEnd (s : Scr) (w : World) (e : Ending) (w' : World) : Prop := ∃ u0 u1, e = .returned (.agg #[u0, u1]) ∧ ScIs w'.cell? s u0 u1 ∧ Below w.heap.size w w'
end Go.Proofs.YtcjakgogdbfagaaGreat
