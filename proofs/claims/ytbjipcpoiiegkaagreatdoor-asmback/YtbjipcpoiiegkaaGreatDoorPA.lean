/- The document's Right, All, Fits; layer 2's helper 'Same'. -/
import Derived.Test.YtbjipcpoiiegkaaGreatDoorORn
namespace Go.Proofs.YtbjipcpoiiegkaaGreatDoor
open Go.RowKit
attribute [local go_sem high] eq_val eq_val0
end Go.Proofs.YtbjipcpoiiegkaaGreatDoor
