/- A Writer's calls that are refused: nothing is written, the error is told. -/
import Derived.Test.YtaonchdpnllhpaaWI
import Derived.Test.YtaonchdpnllhpaaWH
namespace Go.Proofs.Ytaonchdpnllhpaa
open Go.RowKit

theorem texts_le (ss : List (List UInt8)) (h : ∀ j (h : j < ss.length), ss[j].length ≤ 65535) : (texts ss).length ≤ 65537 * ss.length := by
  induction ss with
  | nil => simp [texts]
  | cons s r ih =>
    have h0 := h 0 (by simp)
    have ih' := ih (fun j hj => h (j + 1) (by simp; omega))
    simp only [texts, List.flatMap_cons, List.length_append, text_length, List.length_cons, List.getElem_cons_zero] at *
    omega

end Go.Proofs.Ytaonchdpnllhpaa
