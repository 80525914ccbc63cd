/-
  DERIVED. GIVEN WITH THE SEED: THE CARDS: each row of YtjnmgnnaefiegabDoorRows.lean that lists a variable, with what it lists TIED to the program's text (the seventh form; the later family's looks); each row that meets fmt, with fmt's text TOLD by the authors' own Lean function (tested against real Go, not proved from fmt's source: count such statements apart). THE CARD IS WHAT COUNTS. Prove the row's statement (the work); the ties are given (YtjnmgnnaefiegabDoorTie.lean); close each card by the builder's one call (the guide's Derived/Test/ToyasCard.lean, 'card_holds'). Laid BY PROGRAM, IN A SANDBOX (cutbox-door.mjs). By AI agents, Wed Nov 11 2026. No macro, syntax, notation, axiom, sorry.
-/
import Derived.Test.YtjnmgnnaefiegabDoorRows
import GoSem.ClaimSeven
namespace Go.Proofs.YtjnmgnnaefiegabDoor
namespace Rows

/-- THE TIED CARD OF 'weighhouselaw01.WireRow'. -/
def wireRowCard : Claim7 := { stood := { row := wireRowRow, standIns := [], harness := (true, "037a6ab6f7da03edc2718321a45781836565038c9d6712a1b7d667fc887f2f0c"), looks := false }, kinds := [], alts := [], laidByText := true, laidKinds := [.data], laidTests := true, laidLooks := .later }
def WireRowCardSaid : Prop := Claim7.holds Tryd.pinned (.plain (OpenSpec.ofChange wireRowSpec)) wireRowCard

/-- THE TIED CARD OF 'weighhouselaw01.WireRot'. -/
def wireRotCard : Claim7 := { stood := { row := wireRotRow, standIns := [], harness := (true, "037a6ab6f7da03edc2718321a45781836565038c9d6712a1b7d667fc887f2f0c"), looks := false }, kinds := [], alts := [], laidByText := true, laidKinds := [.data], laidTests := true, laidLooks := .later }
def WireRotCardSaid : Prop := Claim7.holds Tryd.pinned (.plain (OpenSpec.ofChange wireRotSpec)) wireRotCard

/-- THE TIED CARD OF 'weighhouselaw01.WireJoins'. -/
def wireJoinsCard : Claim7 := { stood := { row := wireJoinsRow, standIns := [], harness := (true, "037a6ab6f7da03edc2718321a45781836565038c9d6712a1b7d667fc887f2f0c"), looks := false }, kinds := [], alts := [], laidByText := true, laidKinds := [.data], laidTests := true, laidLooks := .later }
def WireJoinsCardSaid : Prop := Claim7.holds Tryd.pinned (.plain (OpenSpec.ofChange wireJoinsSpec)) wireJoinsCard

/-- THE SECOND FORM's CARD OF 'weighhouselaw01.WireRow'. -/
def wireRowUptoCard : Claim7 := { stood := { row := wireRowUptoRow, standIns := [], harness := (true, "037a6ab6f7da03edc2718321a45781836565038c9d6712a1b7d667fc887f2f0c"), looks := false }, kinds := [], alts := [], laidByText := true, laidKinds := [.data], laidTests := true, laidLooks := .later }
def WireRowUptoCardSaid : Prop := Claim7.holds Tryd.pinned (.plain (OpenSpec.upto wireRowSpec)) wireRowUptoCard

/-- THE SECOND FORM's CARD OF 'weighhouselaw01.WireRot'. -/
def wireRotUptoCard : Claim7 := { stood := { row := wireRotUptoRow, standIns := [], harness := (true, "037a6ab6f7da03edc2718321a45781836565038c9d6712a1b7d667fc887f2f0c"), looks := false }, kinds := [], alts := [], laidByText := true, laidKinds := [.data], laidTests := true, laidLooks := .later }
def WireRotUptoCardSaid : Prop := Claim7.holds Tryd.pinned (.plain (OpenSpec.upto wireRotSpec)) wireRotUptoCard

/-- THE SECOND FORM's CARD OF 'weighhouselaw01.WireJoins'. -/
def wireJoinsUptoCard : Claim7 := { stood := { row := wireJoinsUptoRow, standIns := [], harness := (true, "037a6ab6f7da03edc2718321a45781836565038c9d6712a1b7d667fc887f2f0c"), looks := false }, kinds := [], alts := [], laidByText := true, laidKinds := [.data], laidTests := true, laidLooks := .later }
def WireJoinsUptoCardSaid : Prop := Claim7.holds Tryd.pinned (.plain (OpenSpec.upto wireJoinsSpec)) wireJoinsUptoCard
end Rows
end Go.Proofs.YtjnmgnnaefiegabDoor
