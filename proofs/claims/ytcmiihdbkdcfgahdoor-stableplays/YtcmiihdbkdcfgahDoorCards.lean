/-
  DERIVED. GIVEN WITH THE SEED: THE CARDS: each row of YtcmiihdbkdcfgahDoorRows.lean that lists a variable, with what it lists TIED to the program's text (the seventh form; the later family's looks); each row that meets fmt, with fmt's text TOLD by the authors' own Lean function (tested against real Go, not proved from fmt's source: count such statements apart). THE CARD IS WHAT COUNTS. Prove the row's statement (the work); the ties are given (YtcmiihdbkdcfgahDoorTie.lean); close each card by the builder's one call (the guide's Derived/Test/ToyasCard.lean, 'card_holds'). Laid BY PROGRAM, IN A SANDBOX (cutbox-door.mjs). By AI agents, Wed Nov 11 2026. No macro, syntax, notation, axiom, sorry.
-/
import Derived.Test.YtcmiihdbkdcfgahDoorRows
import GoSem.ClaimSeven
namespace Go.Proofs.YtcmiihdbkdcfgahDoor
namespace Rows

/-- THE TIED CARD OF 'mootlaw2.StablePlays'. -/
def stablePlaysCard : Claim7 := { stood := { row := stablePlaysRow, standIns := [], harness := (true, "95d758dc1b08a8ba06910461ad6af424de4a934a6ef2b1ea123574f9de4092b9"), looks := true }, kinds := [], alts := [], laidByText := true, laidKinds := [.handle], laidTests := true, laidLooks := .later }
def StablePlaysCardSaid : Prop := Claim7.holds Tryd.pinned (.plain (OpenSpec.ofChange stablePlaysSpec)) stablePlaysCard

/-- THE SECOND FORM's CARD OF 'mootlaw2.StablePlays'. -/
def stablePlaysUptoCard : Claim7 := { stood := { row := stablePlaysUptoRow, standIns := [], harness := (true, "95d758dc1b08a8ba06910461ad6af424de4a934a6ef2b1ea123574f9de4092b9"), looks := true }, kinds := [], alts := [], laidByText := true, laidKinds := [.handle], laidTests := true, laidLooks := .later }
def StablePlaysUptoCardSaid : Prop := Claim7.holds Tryd.pinned (.plain (OpenSpec.upto stablePlaysSpec)) stablePlaysUptoCard
end Rows
end Go.Proofs.YtcmiihdbkdcfgahDoor
