/-
  DERIVED. GIVEN WITH THE SEED: THE CARDS: each row of YtdhlfbpflngmbafDoorRows.lean that lists a variable, with what it lists TIED to the program's text (the seventh form; the later family's looks); each row that meets fmt, with fmt's text TOLD by the authors' own Lean function (tested against real Go, not proved from fmt's source: count such statements apart). THE CARD IS WHAT COUNTS. Prove the row's statement (the work); the ties are given (YtdhlfbpflngmbafDoorTie.lean); close each card by the builder's one call (the guide's Derived/Test/ToyasCard.lean, 'card_holds'). Laid BY PROGRAM, IN A SANDBOX (cutbox-door.mjs). By AI agents, Wed Nov 11 2026. No macro, syntax, notation, axiom, sorry.
-/
import Derived.Test.YtdhlfbpflngmbafDoorRows
import GoSem.ClaimSeven
namespace Go.Proofs.YtdhlfbpflngmbafDoor
namespace Rows

/-- THE TIED CARD OF 'mootlaw2.AgainPlays'. -/
def againPlaysCard : Claim7 := { stood := { row := againPlaysRow, standIns := [], harness := (true, "63d15166097212c0b574a4a27de2a7cafbe1f516a06f16339543982618f22b0b"), looks := true }, kinds := [], alts := [], laidByText := true, laidKinds := [.handle], laidTests := true, laidLooks := .later }
def AgainPlaysCardSaid : Prop := Claim7.holds Tryd.pinned (.plain (OpenSpec.ofChange againPlaysSpec)) againPlaysCard

/-- THE SECOND FORM's CARD OF 'mootlaw2.AgainPlays'. -/
def againPlaysUptoCard : Claim7 := { stood := { row := againPlaysUptoRow, standIns := [], harness := (true, "63d15166097212c0b574a4a27de2a7cafbe1f516a06f16339543982618f22b0b"), looks := true }, kinds := [], alts := [], laidByText := true, laidKinds := [.handle], laidTests := true, laidLooks := .later }
def AgainPlaysUptoCardSaid : Prop := Claim7.holds Tryd.pinned (.plain (OpenSpec.upto againPlaysSpec)) againPlaysUptoCard
end Rows
end Go.Proofs.YtdhlfbpflngmbafDoor
