/- value.readBytes, guess, readWord. -/
import Derived.Test.YtkmfopdklohgnaaDoorVQ
namespace Go.Proofs.YtkmfopdklohgnaaDoor
open Go.RowKit Go.Shelf
attribute [local go_sem high] eq_val eq_val0
/-- The bytes whose digits these are. -/
def unhex : List UInt8 → Option (List UInt8)
  | [] => some []
  | [_] => none
  | a :: b :: r => if Lib.indexByte hexDigits a < 0 ∨ Lib.indexByte hexDigits b < 0 then none else (unhex r).map (UInt8.ofNat (16 * (Lib.indexByte hexDigits a).toNat + (Lib.indexByte hexDigits b).toNat) :: ·)
/-- What readBytes reads. -/
def readB (s : List UInt8) : Option Val := if Lib.hasSuffix s [39] && (Lib.trimSuffix s [39]).length % 2 == 0 then (unhex (Lib.trimSuffix s [39])).map (⟨2, 0, ·⟩) else none

def ReadEnd (r : Option Val) (w : World) (e : Ending) (w' : World) : Prop := e = .returned (.tuple #[(r.getD ⟨0, 0, []⟩).v, .bool r.isSome]) ∧ Below w.heap.size w w'
theorem results_mixed {fn : Func} {t u : Tmp} {ty : TypeId} (h : fn.results = #[.cell t ty, .tmp u]) (tmps : Array Value) (P : Program) (w : World) (a : Addr) (v : Value) (ha : tmps[t]?.getD undef = .pointer (some a)) (hl : (loadVar ty a).run P w = .ok v w) :
    (results fn tmps).run P w = .ok (.tuple #[v, tmps[u]?.getD undef]) w := by
  simp [results, h, ha, asAddr, hl]
theorem ret_read {fn : Func} {R : Ending → World → Prop} {a : Act} {t u : Tmp} {w : World} {b : Nat} {x : Val} {ok : Bool} (h : fn.results = #[.cell t 39, .tmp u]) (ha : a.tmps[t]?.getD undef = .pointer (some ⟨b, 0, none⟩)) (hd : a.defers = []) (hu : a.tmps[u]?.getD undef = .bool ok) (hv : ValAt w b x) (hR : R (.returned (.tuple #[x.v, .bool ok])) w) : bodyPost Tryd.prog fn R .ret a w :=
  bodyPost_ret (by rw [results_mixed h _ _ _ _ _ ha (load_val hv), hu]) hd hR

/-- The result's box, still empty. -/
def Boxed3 (w : World) (b : Nat) : Prop := w.heap[b]? = some (Val.box ⟨0, 0, []⟩)
end Go.Proofs.YtkmfopdklohgnaaDoor
