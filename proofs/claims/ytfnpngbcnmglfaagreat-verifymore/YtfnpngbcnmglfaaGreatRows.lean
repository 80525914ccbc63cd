/-
  No cell of these rows narrows 'for every input' (looked for: loops, veiled, ifaces, maps, wideKeys, modest, calm, conditions, laid).
  DERIVED. THE GIVEN ROWS OF THIS SEAT. 6 by the template 'for every input the law returns true; each argument reads behind the call as it read before'; 0 by the template 'total and deterministic' (their statements: YtfnpngbcnmglfaaGreatTotals.lean).
  GIVEN WITH THE SEED: the statements are not yours to turn. If you find one false, say at which input.
  Laid BY PROGRAM, IN A SANDBOX (cutbox-rows.mjs): the forced cells as the released guide's own fill.sh prints them over the translation 309bceb9c8b865aa… (all of the seat's roots in one cut). By AI agents, Wed Nov 11 2026. No macro, syntax, notation, axiom, sorry.
-/
import Derived.Test.YtfnpngbcnmglfaaGreatChecked
import GoSem.Claim
import GoSem.ClaimJoined
import GoSem.ClaimMapViews
import Derived.JoinedTies
import Derived.KernelRfl
namespace Go.Proofs.YtfnpngbcnmglfaaGreat
/- THE CELL 'sum', in the pinned program and in every row, IS THE sha256 OF THE DUMP (.gsa) THAT YtfnpngbcnmglfaaGreatProg.lean LOADS. Nothing in Lean hashes anything: it is a label: what it is worth is what the hold of that sum in a sandbox is worth. -/
noncomputable def Tryz.pinned : Pinned := { name := "ytfnpngbcnmglfaagreat", sum := "309bceb9c8b865aac42fdbd9c47d13be2e9a3bfd3973f289dba022575f5ed549", checked := Tryz.checked }
namespace Rows
def none {H : Type} : Left H := { results := [], args := [] }

/-- 'weighhouselaw10.VerifyChecks': WHATEVER THE INPUT: true; the input reads as it did. -/
def verifyChecksSpec : ChangeSpec := { name := "verifyChecks", fn := fun _ => fun
  | [d] => { results := [.lit (.bool true)], args := [d] }
  | _ => none }
def verifyChecksRow : OpenClaim := { program := "ytfnpngbcnmglfaagreat", sum := "309bceb9c8b865aac42fdbd9c47d13be2e9a3bfd3973f289dba022575f5ed549", func := "weighhouse/weighhouselaw10.VerifyChecks", spec := "verifyChecks", unfollowed := true, recurses := true, apart := false }
def VerifyChecksSaid : Prop := verifyChecksRow.holds Tryz.pinned (OpenSpec.ofChange verifyChecksSpec)

/-- ITS FALSE NEIGHBOUR: 'it returns false'. Refute it at one input. -/
def verifyChecksWrong : ChangeSpec := { name := "verifyChecks", fn := fun _ => fun
  | [d] => { results := [.lit (.bool false)], args := [d] }
  | _ => none }
def VerifyChecksWrongFalsely : Prop := verifyChecksRow.holds Tryz.pinned (OpenSpec.ofChange verifyChecksWrong)

/-- 'weighhouselaw10.VerifyScripts': WHATEVER THE INPUT: true; the input reads as it did. -/
def verifyScriptsSpec : ChangeSpec := { name := "verifyScripts", fn := fun _ => fun
  | [d1, d2] => { results := [.lit (.bool true)], args := [d1, d2] }
  | _ => none }
def verifyScriptsRow : OpenClaim := { program := "ytfnpngbcnmglfaagreat", sum := "309bceb9c8b865aac42fdbd9c47d13be2e9a3bfd3973f289dba022575f5ed549", func := "weighhouse/weighhouselaw10.VerifyScripts", spec := "verifyScripts", unfollowed := true, recurses := true, apart := false }
def VerifyScriptsSaid : Prop := verifyScriptsRow.holds Tryz.pinned (OpenSpec.ofChange verifyScriptsSpec)

/-- ITS FALSE NEIGHBOUR: 'it returns false'. Refute it at one input. -/
def verifyScriptsWrong : ChangeSpec := { name := "verifyScripts", fn := fun _ => fun
  | [d1, d2] => { results := [.lit (.bool false)], args := [d1, d2] }
  | _ => none }
def VerifyScriptsWrongFalsely : Prop := verifyScriptsRow.holds Tryz.pinned (OpenSpec.ofChange verifyScriptsWrong)

/-- 'weighhouselaw10.VerifyLess': WHATEVER THE INPUT: true; the input reads as it did. -/
def verifyLessSpec : ChangeSpec := { name := "verifyLess", fn := fun _ => fun
  | [d] => { results := [.lit (.bool true)], args := [d] }
  | _ => none }
def verifyLessRow : OpenClaim := { program := "ytfnpngbcnmglfaagreat", sum := "309bceb9c8b865aac42fdbd9c47d13be2e9a3bfd3973f289dba022575f5ed549", func := "weighhouse/weighhouselaw10.VerifyLess", spec := "verifyLess", unfollowed := true, recurses := true, apart := false }
def VerifyLessSaid : Prop := verifyLessRow.holds Tryz.pinned (OpenSpec.ofChange verifyLessSpec)

/-- ITS FALSE NEIGHBOUR: 'it returns false'. Refute it at one input. -/
def verifyLessWrong : ChangeSpec := { name := "verifyLess", fn := fun _ => fun
  | [d] => { results := [.lit (.bool false)], args := [d] }
  | _ => none }
def VerifyLessWrongFalsely : Prop := verifyLessRow.holds Tryz.pinned (OpenSpec.ofChange verifyLessWrong)

/-- 'weighhouselaw10.VerifyAgain': WHATEVER THE INPUT: true; the input reads as it did. -/
def verifyAgainSpec : ChangeSpec := { name := "verifyAgain", fn := fun _ => fun
  | [d] => { results := [.lit (.bool true)], args := [d] }
  | _ => none }
def verifyAgainRow : OpenClaim := { program := "ytfnpngbcnmglfaagreat", sum := "309bceb9c8b865aac42fdbd9c47d13be2e9a3bfd3973f289dba022575f5ed549", func := "weighhouse/weighhouselaw10.VerifyAgain", spec := "verifyAgain", unfollowed := true, recurses := true, apart := false }
def VerifyAgainSaid : Prop := verifyAgainRow.holds Tryz.pinned (OpenSpec.ofChange verifyAgainSpec)

/-- ITS FALSE NEIGHBOUR: 'it returns false'. Refute it at one input. -/
def verifyAgainWrong : ChangeSpec := { name := "verifyAgain", fn := fun _ => fun
  | [d] => { results := [.lit (.bool false)], args := [d] }
  | _ => none }
def VerifyAgainWrongFalsely : Prop := verifyAgainRow.holds Tryz.pinned (OpenSpec.ofChange verifyAgainWrong)

/-- 'weighhouselaw10.VerifyRooms': WHATEVER THE INPUT: true; the input reads as it did. -/
def verifyRoomsSpec : ChangeSpec := { name := "verifyRooms", fn := fun _ => fun
  | [d] => { results := [.lit (.bool true)], args := [d] }
  | _ => none }
def verifyRoomsRow : OpenClaim := { program := "ytfnpngbcnmglfaagreat", sum := "309bceb9c8b865aac42fdbd9c47d13be2e9a3bfd3973f289dba022575f5ed549", func := "weighhouse/weighhouselaw10.VerifyRooms", spec := "verifyRooms", unfollowed := true, recurses := true, apart := false }
def VerifyRoomsSaid : Prop := verifyRoomsRow.holds Tryz.pinned (OpenSpec.ofChange verifyRoomsSpec)

/-- ITS FALSE NEIGHBOUR: 'it returns false'. Refute it at one input. -/
def verifyRoomsWrong : ChangeSpec := { name := "verifyRooms", fn := fun _ => fun
  | [d] => { results := [.lit (.bool false)], args := [d] }
  | _ => none }
def VerifyRoomsWrongFalsely : Prop := verifyRoomsRow.holds Tryz.pinned (OpenSpec.ofChange verifyRoomsWrong)

/-- 'weighhouselaw10.VerifyMore': WHATEVER THE INPUT: true; the input reads as it did. -/
def verifyMoreSpec : ChangeSpec := { name := "verifyMore", fn := fun _ => fun
  | [d1, d2] => { results := [.lit (.bool true)], args := [d1, d2] }
  | _ => none }
def verifyMoreRow : OpenClaim := { program := "ytfnpngbcnmglfaagreat", sum := "309bceb9c8b865aac42fdbd9c47d13be2e9a3bfd3973f289dba022575f5ed549", func := "weighhouse/weighhouselaw10.VerifyMore", spec := "verifyMore", unfollowed := true, recurses := true, apart := false }
def VerifyMoreSaid : Prop := verifyMoreRow.holds Tryz.pinned (OpenSpec.ofChange verifyMoreSpec)

/-- ITS FALSE NEIGHBOUR: 'it returns false'. Refute it at one input. -/
def verifyMoreWrong : ChangeSpec := { name := "verifyMore", fn := fun _ => fun
  | [d1, d2] => { results := [.lit (.bool false)], args := [d1, d2] }
  | _ => none }
def VerifyMoreWrongFalsely : Prop := verifyMoreRow.holds Tryz.pinned (OpenSpec.ofChange verifyMoreWrong)

/- THE SECOND FORM. 'bulk': how many values and letters a reading holds, each counted each time it is reached (what is shared counts as often as it is met; a slice's spare places count too). A statement '..UptoSaid' is the law's where the arguments, and the package variables that the reading takes, are together of bulk at most 1048576: NARROWER than '..Said'. Prove '..Said' where nothing that the law and all that it calls make is longer than what came in: it says more and counts as full. Else prove '..UptoSaid'. A law counts once. -/
mutual
def uptoBulk {H : Type} : DataW H → Nat
  | .lit (.string bytes) => bytes.length + 1
  | .lit _ => 1
  | .nil => 1
  | .ptr d => uptoBulk d + 1
  | .slice elems spare => uptoBulkAll elems + uptoBulkAll spare + 1
  | .agg parts => uptoBulkAll parts + 1
  | .iface _ d => uptoBulk d + 1
  | .map entries => uptoBulkEntries entries + 1
  | .held _ => 1
def uptoBulkAll {H : Type} : List (DataW H) → Nat
  | [] => 0
  | d :: r => uptoBulk d + uptoBulkAll r
def uptoBulkEntries {H : Type} : List (Lit × DataW H) → Nat
  | [] => 0
  | x :: r => uptoBulkEntry x + uptoBulkEntries r
def uptoBulkEntry {H : Type} : Lit × DataW H → Nat
  | (.string bytes, d) => bytes.length + uptoBulk d + 1
  | (_, d) => uptoBulk d + 1
 end
def uptoSmall : (H : Type) → List (DataW H) → Bool := fun _ ds => decide (uptoBulkAll ds ≤ 1048576)
def OpenSpec.upto (s : _root_.Go.ChangeSpec) : _root_.Go.OpenSpec := { _root_.Go.OpenSpec.ofChange s with cond := some uptoSmall }

/-- 'weighhouselaw10.VerifyChecks', WHERE WHAT IT READS IS OF BULK AT MOST 1048576: true; the input reads as it did. -/
def verifyChecksUptoRow : OpenClaim := { program := "ytfnpngbcnmglfaagreat", sum := "309bceb9c8b865aac42fdbd9c47d13be2e9a3bfd3973f289dba022575f5ed549", func := "weighhouse/weighhouselaw10.VerifyChecks", spec := "verifyChecks", unfollowed := true, recurses := true, apart := false, narrowed := true }
def VerifyChecksUptoSaid : Prop := verifyChecksUptoRow.holds Tryz.pinned (OpenSpec.upto verifyChecksSpec)

/-- 'weighhouselaw10.VerifyScripts', WHERE WHAT IT READS IS OF BULK AT MOST 1048576: true; the input reads as it did. -/
def verifyScriptsUptoRow : OpenClaim := { program := "ytfnpngbcnmglfaagreat", sum := "309bceb9c8b865aac42fdbd9c47d13be2e9a3bfd3973f289dba022575f5ed549", func := "weighhouse/weighhouselaw10.VerifyScripts", spec := "verifyScripts", unfollowed := true, recurses := true, apart := false, narrowed := true }
def VerifyScriptsUptoSaid : Prop := verifyScriptsUptoRow.holds Tryz.pinned (OpenSpec.upto verifyScriptsSpec)

/-- 'weighhouselaw10.VerifyLess', WHERE WHAT IT READS IS OF BULK AT MOST 1048576: true; the input reads as it did. -/
def verifyLessUptoRow : OpenClaim := { program := "ytfnpngbcnmglfaagreat", sum := "309bceb9c8b865aac42fdbd9c47d13be2e9a3bfd3973f289dba022575f5ed549", func := "weighhouse/weighhouselaw10.VerifyLess", spec := "verifyLess", unfollowed := true, recurses := true, apart := false, narrowed := true }
def VerifyLessUptoSaid : Prop := verifyLessUptoRow.holds Tryz.pinned (OpenSpec.upto verifyLessSpec)

/-- 'weighhouselaw10.VerifyAgain', WHERE WHAT IT READS IS OF BULK AT MOST 1048576: true; the input reads as it did. -/
def verifyAgainUptoRow : OpenClaim := { program := "ytfnpngbcnmglfaagreat", sum := "309bceb9c8b865aac42fdbd9c47d13be2e9a3bfd3973f289dba022575f5ed549", func := "weighhouse/weighhouselaw10.VerifyAgain", spec := "verifyAgain", unfollowed := true, recurses := true, apart := false, narrowed := true }
def VerifyAgainUptoSaid : Prop := verifyAgainUptoRow.holds Tryz.pinned (OpenSpec.upto verifyAgainSpec)

/-- 'weighhouselaw10.VerifyRooms', WHERE WHAT IT READS IS OF BULK AT MOST 1048576: true; the input reads as it did. -/
def verifyRoomsUptoRow : OpenClaim := { program := "ytfnpngbcnmglfaagreat", sum := "309bceb9c8b865aac42fdbd9c47d13be2e9a3bfd3973f289dba022575f5ed549", func := "weighhouse/weighhouselaw10.VerifyRooms", spec := "verifyRooms", unfollowed := true, recurses := true, apart := false, narrowed := true }
def VerifyRoomsUptoSaid : Prop := verifyRoomsUptoRow.holds Tryz.pinned (OpenSpec.upto verifyRoomsSpec)

/-- 'weighhouselaw10.VerifyMore', WHERE WHAT IT READS IS OF BULK AT MOST 1048576: true; the input reads as it did. -/
def verifyMoreUptoRow : OpenClaim := { program := "ytfnpngbcnmglfaagreat", sum := "309bceb9c8b865aac42fdbd9c47d13be2e9a3bfd3973f289dba022575f5ed549", func := "weighhouse/weighhouselaw10.VerifyMore", spec := "verifyMore", unfollowed := true, recurses := true, apart := false, narrowed := true }
def VerifyMoreUptoSaid : Prop := verifyMoreUptoRow.holds Tryz.pinned (OpenSpec.upto verifyMoreSpec)

end Rows
end Go.Proofs.YtfnpngbcnmglfaaGreat
