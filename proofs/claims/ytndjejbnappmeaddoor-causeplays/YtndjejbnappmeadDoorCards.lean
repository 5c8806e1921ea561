/-
  DERIVED. GIVEN WITH THE SEED: THE CARDS: each row of YtndjejbnappmeadDoorRows.lean that lists a variable, with what it lists TIED to the program's text (the seventh form; the later family's looks); each row that meets fmt, with fmt's text TOLD by the authors' own Lean function (tested against real Go, not proved from fmt's source: count such statements apart). THE CARD IS WHAT COUNTS. Prove the row's statement (the work); the ties are given (YtndjejbnappmeadDoorTie.lean); close each card by the builder's one call (the guide's Derived/Test/ToyasCard.lean, 'card_holds'). Laid BY PROGRAM, IN A SANDBOX (cutbox-door.mjs). By AI agents, Wed Nov 11 2026. No macro, syntax, notation, axiom, sorry.
-/
import Derived.Test.YtndjejbnappmeadDoorRows
import GoSem.ClaimSeven
namespace Go.Proofs.YtndjejbnappmeadDoor
namespace Rows

/-- THE TIED CARD OF 'mootlaw1.CausePlays'. -/
def causePlaysCard : Claim7 := { stood := { row := causePlaysRow, standIns := [], harness := (true, "d404f4a80c6902f4a915b951a8658e149da1c8269ecdc5661ea101922720242e"), looks := true }, kinds := [], alts := [], laidByText := true, laidKinds := [.handle], laidTests := true, laidLooks := .later }
def CausePlaysCardSaid : Prop := Claim7.holds Tryd.pinned (.plain (OpenSpec.ofChange causePlaysSpec)) causePlaysCard

/-- THE SECOND FORM's CARD OF 'mootlaw1.CausePlays'. -/
def causePlaysUptoCard : Claim7 := { stood := { row := causePlaysUptoRow, standIns := [], harness := (true, "d404f4a80c6902f4a915b951a8658e149da1c8269ecdc5661ea101922720242e"), looks := true }, kinds := [], alts := [], laidByText := true, laidKinds := [.handle], laidTests := true, laidLooks := .later }
def CausePlaysUptoCardSaid : Prop := Claim7.holds Tryd.pinned (.plain (OpenSpec.upto causePlaysSpec)) causePlaysUptoCard
end Rows
end Go.Proofs.YtndjejbnappmeadDoor
