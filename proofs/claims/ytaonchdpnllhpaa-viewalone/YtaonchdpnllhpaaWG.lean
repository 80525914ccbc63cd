/- What a Writer's Text and Bytes do. -/
import Derived.Test.YtaonchdpnllhpaaWF
import Derived.Deep.RegionLaw
import Derived.Deep.DeepCutAuto
namespace Go.Proofs.Ytaonchdpnllhpaa
open Go.RowKit

/-- At ao there lie the texts ss. -/
def Ss (w : World) (ao : Option Addr) (ss : List (List UInt8)) : Prop :=
  ss = [] ∨ ∃ b off, ao = some ⟨b, off, none⟩ ∧ ∀ j (h : j < ss.length), w.cell? ⟨b, off + j, none⟩ = some (.string ⟨ss[j].toArray⟩)
def text (s : List UInt8) : List UInt8 := be s.length 2 ++ s
theorem text_length (s : List UInt8) : (text s).length = 2 + s.length := by rw [text, List.length_append, be_length]
def texts (ss : List (List UInt8)) : List UInt8 := ss.flatMap text
theorem texts_snoc (ss : List (List UInt8)) (k : Nat) (h : k < ss.length) : texts (ss.take (k + 1)) = texts (ss.take k) ++ text ss[k] := by
  rw [List.take_succ_eq_append_getElem h]; simp only [texts, List.flatMap_append, List.flatMap_cons, List.flatMap_nil, List.append_nil]
theorem texts_take_le (ss : List (List UInt8)) (k : Nat) : (texts (ss.take k)).length ≤ (texts ss).length := by
  have : texts ss = texts (ss.take k) ++ texts (ss.drop k) := by
    rw [texts, texts, texts, ← List.flatMap_append, List.take_append_drop]
  rw [this, List.length_append]; omega

attribute [local go_sem ↓] Go.wp_at_zero Go.wp_at_succ
end Go.Proofs.Ytaonchdpnllhpaa
