/-
  No cell of these rows narrows 'for every input' (looked for: loops, veiled, ifaces, maps, wideKeys, modest, calm, conditions, laid).
  DERIVED. THE GIVEN ROWS OF THIS SEAT. 5 by the template 'for every input the law returns true; each argument reads behind the call as it read before'; 0 by the template 'total and deterministic' (their statements: YtikomfbpaimnmaaTotals.lean).
  GIVEN WITH THE SEED: the statements are not yours to turn. If you find one false, say at which input.
  Laid BY PROGRAM, IN A SANDBOX (cutbox-rows.mjs): the forced cells as the released guide's own fill.sh prints them over the translation baedbde5a1a15bd8… (all of the seat's roots in one cut). By AI agents, Wed Nov 11 2026. No macro, syntax, notation, axiom, sorry.
-/
import Derived.Test.YtikomfbpaimnmaaChecked
import GoSem.Claim
import GoSem.ClaimJoined
import GoSem.ClaimMapViews
import Derived.JoinedTies
import Derived.KernelRfl
namespace Go.Proofs.Ytikomfbpaimnmaa
/- THE CELL 'sum', in the pinned program and in every row, IS THE sha256 OF THE DUMP (.gsa) THAT YtikomfbpaimnmaaProg.lean LOADS. Nothing in Lean hashes anything: it is a label: what it is worth is what the hold of that sum in a sandbox is worth. -/
noncomputable def Try.pinned : Pinned := { name := "ytikomfbpaimnmaa", sum := "baedbde5a1a15bd8781a28546f20cc0f6cd39e17caf1a5769ed02224a34eb7e4", checked := Try.checked }
namespace Rows
def none {H : Type} : Left H := { results := [], args := [] }

/-- 'weighhouselaw08.CallsGraphs': WHATEVER THE INPUT: true; the input reads as it did. -/
def callsGraphsSpec : ChangeSpec := { name := "callsGraphs", fn := fun _ => fun
  | [d1, d2] => { results := [.lit (.bool true)], args := [d1, d2] }
  | _ => none }
def callsGraphsRow : OpenClaim := { program := "ytikomfbpaimnmaa", sum := "baedbde5a1a15bd8781a28546f20cc0f6cd39e17caf1a5769ed02224a34eb7e4", func := "weighhouse/weighhouselaw08.CallsGraphs", spec := "callsGraphs", unfollowed := true, recurses := true, apart := false }
def CallsGraphsSaid : Prop := callsGraphsRow.holds Try.pinned (OpenSpec.ofChange callsGraphsSpec)

/-- ITS FALSE NEIGHBOUR: 'it returns false'. Refute it at one input. -/
def callsGraphsWrong : ChangeSpec := { name := "callsGraphs", fn := fun _ => fun
  | [d1, d2] => { results := [.lit (.bool false)], args := [d1, d2] }
  | _ => none }
def CallsGraphsWrongFalsely : Prop := callsGraphsRow.holds Try.pinned (OpenSpec.ofChange callsGraphsWrong)

/-- 'weighhouselaw08.CallsOrders': WHATEVER THE INPUT: true; the input reads as it did. -/
def callsOrdersSpec : ChangeSpec := { name := "callsOrders", fn := fun _ => fun
  | [d] => { results := [.lit (.bool true)], args := [d] }
  | _ => none }
def callsOrdersRow : OpenClaim := { program := "ytikomfbpaimnmaa", sum := "baedbde5a1a15bd8781a28546f20cc0f6cd39e17caf1a5769ed02224a34eb7e4", func := "weighhouse/weighhouselaw08.CallsOrders", spec := "callsOrders", unfollowed := true, recurses := true, apart := false }
def CallsOrdersSaid : Prop := callsOrdersRow.holds Try.pinned (OpenSpec.ofChange callsOrdersSpec)

/-- ITS FALSE NEIGHBOUR: 'it returns false'. Refute it at one input. -/
def callsOrdersWrong : ChangeSpec := { name := "callsOrders", fn := fun _ => fun
  | [d] => { results := [.lit (.bool false)], args := [d] }
  | _ => none }
def CallsOrdersWrongFalsely : Prop := callsOrdersRow.holds Try.pinned (OpenSpec.ofChange callsOrdersWrong)

/-- 'weighhouselaw08.CallsBehind': WHATEVER THE INPUT: true; the input reads as it did. -/
def callsBehindSpec : ChangeSpec := { name := "callsBehind", fn := fun _ => fun
  | [d] => { results := [.lit (.bool true)], args := [d] }
  | _ => none }
def callsBehindRow : OpenClaim := { program := "ytikomfbpaimnmaa", sum := "baedbde5a1a15bd8781a28546f20cc0f6cd39e17caf1a5769ed02224a34eb7e4", func := "weighhouse/weighhouselaw08.CallsBehind", spec := "callsBehind", unfollowed := true, recurses := true, apart := false }
def CallsBehindSaid : Prop := callsBehindRow.holds Try.pinned (OpenSpec.ofChange callsBehindSpec)

/-- ITS FALSE NEIGHBOUR: 'it returns false'. Refute it at one input. -/
def callsBehindWrong : ChangeSpec := { name := "callsBehind", fn := fun _ => fun
  | [d] => { results := [.lit (.bool false)], args := [d] }
  | _ => none }
def CallsBehindWrongFalsely : Prop := callsBehindRow.holds Try.pinned (OpenSpec.ofChange callsBehindWrong)

/-- 'weighhouselaw08.CallsRound': WHATEVER THE INPUT: true; the input reads as it did. -/
def callsRoundSpec : ChangeSpec := { name := "callsRound", fn := fun _ => fun
  | [d] => { results := [.lit (.bool true)], args := [d] }
  | _ => none }
def callsRoundRow : OpenClaim := { program := "ytikomfbpaimnmaa", sum := "baedbde5a1a15bd8781a28546f20cc0f6cd39e17caf1a5769ed02224a34eb7e4", func := "weighhouse/weighhouselaw08.CallsRound", spec := "callsRound", unfollowed := true, recurses := true, apart := false }
def CallsRoundSaid : Prop := callsRoundRow.holds Try.pinned (OpenSpec.ofChange callsRoundSpec)

/-- ITS FALSE NEIGHBOUR: 'it returns false'. Refute it at one input. -/
def callsRoundWrong : ChangeSpec := { name := "callsRound", fn := fun _ => fun
  | [d] => { results := [.lit (.bool false)], args := [d] }
  | _ => none }
def CallsRoundWrongFalsely : Prop := callsRoundRow.holds Try.pinned (OpenSpec.ofChange callsRoundWrong)

/-- 'weighhouselaw08.CallsReach': WHATEVER THE INPUT: true; the input reads as it did. -/
def callsReachSpec : ChangeSpec := { name := "callsReach", fn := fun _ => fun
  | [d1, d2] => { results := [.lit (.bool true)], args := [d1, d2] }
  | _ => none }
def callsReachRow : OpenClaim := { program := "ytikomfbpaimnmaa", sum := "baedbde5a1a15bd8781a28546f20cc0f6cd39e17caf1a5769ed02224a34eb7e4", func := "weighhouse/weighhouselaw08.CallsReach", spec := "callsReach", unfollowed := true, recurses := true, apart := false }
def CallsReachSaid : Prop := callsReachRow.holds Try.pinned (OpenSpec.ofChange callsReachSpec)

/-- ITS FALSE NEIGHBOUR: 'it returns false'. Refute it at one input. -/
def callsReachWrong : ChangeSpec := { name := "callsReach", fn := fun _ => fun
  | [d1, d2] => { results := [.lit (.bool false)], args := [d1, d2] }
  | _ => none }
def CallsReachWrongFalsely : Prop := callsReachRow.holds Try.pinned (OpenSpec.ofChange callsReachWrong)

/- THE SECOND FORM. 'bulk': how many values and letters a reading holds, each counted each time it is reached (what is shared counts as often as it is met; a slice's spare places count too). A statement '..UptoSaid' is the law's where the arguments, and the package variables that the reading takes, are together of bulk at most 1048576: NARROWER than '..Said'. Prove '..Said' where nothing that the law and all that it calls make is longer than what came in: it says more and counts as full. Else prove '..UptoSaid'. A law counts once. -/
mutual
def uptoBulk {H : Type} : DataW H → Nat
  | .lit (.string bytes) => bytes.length + 1
  | .lit _ => 1
  | .nil => 1
  | .ptr d => uptoBulk d + 1
  | .slice elems spare => uptoBulkAll elems + uptoBulkAll spare + 1
  | .agg parts => uptoBulkAll parts + 1
  | .iface _ d => uptoBulk d + 1
  | .map entries => uptoBulkEntries entries + 1
  | .held _ => 1
def uptoBulkAll {H : Type} : List (DataW H) → Nat
  | [] => 0
  | d :: r => uptoBulk d + uptoBulkAll r
def uptoBulkEntries {H : Type} : List (Lit × DataW H) → Nat
  | [] => 0
  | x :: r => uptoBulkEntry x + uptoBulkEntries r
def uptoBulkEntry {H : Type} : Lit × DataW H → Nat
  | (.string bytes, d) => bytes.length + uptoBulk d + 1
  | (_, d) => uptoBulk d + 1
 end
def uptoSmall : (H : Type) → List (DataW H) → Bool := fun _ ds => decide (uptoBulkAll ds ≤ 1048576)
def OpenSpec.upto (s : _root_.Go.ChangeSpec) : _root_.Go.OpenSpec := { _root_.Go.OpenSpec.ofChange s with cond := some uptoSmall }

/-- 'weighhouselaw08.CallsGraphs', WHERE WHAT IT READS IS OF BULK AT MOST 1048576: true; the input reads as it did. -/
def callsGraphsUptoRow : OpenClaim := { program := "ytikomfbpaimnmaa", sum := "baedbde5a1a15bd8781a28546f20cc0f6cd39e17caf1a5769ed02224a34eb7e4", func := "weighhouse/weighhouselaw08.CallsGraphs", spec := "callsGraphs", unfollowed := true, recurses := true, apart := false, narrowed := true }
def CallsGraphsUptoSaid : Prop := callsGraphsUptoRow.holds Try.pinned (OpenSpec.upto callsGraphsSpec)

/-- 'weighhouselaw08.CallsOrders', WHERE WHAT IT READS IS OF BULK AT MOST 1048576: true; the input reads as it did. -/
def callsOrdersUptoRow : OpenClaim := { program := "ytikomfbpaimnmaa", sum := "baedbde5a1a15bd8781a28546f20cc0f6cd39e17caf1a5769ed02224a34eb7e4", func := "weighhouse/weighhouselaw08.CallsOrders", spec := "callsOrders", unfollowed := true, recurses := true, apart := false, narrowed := true }
def CallsOrdersUptoSaid : Prop := callsOrdersUptoRow.holds Try.pinned (OpenSpec.upto callsOrdersSpec)

/-- 'weighhouselaw08.CallsBehind', WHERE WHAT IT READS IS OF BULK AT MOST 1048576: true; the input reads as it did. -/
def callsBehindUptoRow : OpenClaim := { program := "ytikomfbpaimnmaa", sum := "baedbde5a1a15bd8781a28546f20cc0f6cd39e17caf1a5769ed02224a34eb7e4", func := "weighhouse/weighhouselaw08.CallsBehind", spec := "callsBehind", unfollowed := true, recurses := true, apart := false, narrowed := true }
def CallsBehindUptoSaid : Prop := callsBehindUptoRow.holds Try.pinned (OpenSpec.upto callsBehindSpec)

/-- 'weighhouselaw08.CallsRound', WHERE WHAT IT READS IS OF BULK AT MOST 1048576: true; the input reads as it did. -/
def callsRoundUptoRow : OpenClaim := { program := "ytikomfbpaimnmaa", sum := "baedbde5a1a15bd8781a28546f20cc0f6cd39e17caf1a5769ed02224a34eb7e4", func := "weighhouse/weighhouselaw08.CallsRound", spec := "callsRound", unfollowed := true, recurses := true, apart := false, narrowed := true }
def CallsRoundUptoSaid : Prop := callsRoundUptoRow.holds Try.pinned (OpenSpec.upto callsRoundSpec)

/-- 'weighhouselaw08.CallsReach', WHERE WHAT IT READS IS OF BULK AT MOST 1048576: true; the input reads as it did. -/
def callsReachUptoRow : OpenClaim := { program := "ytikomfbpaimnmaa", sum := "baedbde5a1a15bd8781a28546f20cc0f6cd39e17caf1a5769ed02224a34eb7e4", func := "weighhouse/weighhouselaw08.CallsReach", spec := "callsReach", unfollowed := true, recurses := true, apart := false, narrowed := true }
def CallsReachUptoSaid : Prop := callsReachUptoRow.holds Try.pinned (OpenSpec.upto callsReachSpec)

end Rows
end Go.Proofs.Ytikomfbpaimnmaa
