/- Layer 11: the law StoreAll, whole. -/
import Derived.Test.YticihfbhnbkjjabLAl11a
import Derived.Test.YticihfbhnbkjjabLAl11b
import Derived.Test.YticihfbhnbkjjabLAl11c
import Derived.Test.YticihfbhnbkjjabLAl11d
namespace Go.Proofs.Yticihfbhnbkjjab
open Go.RowKit
theorem storeAll_any (L : List Opn) (a : Option Addr) (n cap : Nat) (Q : List Opn) (a2 : Option Addr) (n2 cap2 : Nat) (w : World) (hn : n = L.length) (hA : OpsAt w a L) (hok : ∀ x ∈ L, x.ok) (hlen : n ≤ 9223372036854775) (hn2 : n2 = Q.length) (hA2 : OpsAt w a2 Q) (hok2 : ∀ x ∈ Q, x.ok) (hlen2 : n2 ≤ 9223372036854775) :
    Calls Try.prog 3 #[.slice a n cap, .slice a2 n2 cap2] w fun e w' => e = .returned (.bool true) ∧ Below w.heap.size w w' := by
  by_cases hw : n2 ≤ 300
  · cases hg : getL (playL (fillL (L.take 700)) (Q.take 300)) [] with
    | some v0 => exact storeAll_le1 L a n cap Q a2 n2 cap2 w hn hA hok hlen hn2 hA2 hok2 hlen2 hw v0 hg
    | none => exact storeAll_le0 L a n cap Q a2 n2 cap2 w hn hA hok hlen hn2 hA2 hok2 hlen2 hw hg
  · cases hg : getL (playL (fillL (L.take 700)) (Q.take 300)) [] with
    | some v0 => exact storeAll_gt1 L a n cap Q a2 n2 cap2 w hn hA hok hlen hn2 hA2 hok2 hlen2 (by omega) v0 hg
    | none => exact storeAll_gt0 L a n cap Q a2 n2 cap2 w hn hA hok hlen hn2 hA2 hok2 hlen2 (by omega) hg
end Go.Proofs.Yticihfbhnbkjjab
