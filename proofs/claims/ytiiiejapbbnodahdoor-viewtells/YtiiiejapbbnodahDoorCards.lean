/-
  DERIVED. GIVEN WITH THE SEED: THE CARDS: each row of YtiiiejapbbnodahDoorRows.lean that lists a variable, with what it lists TIED to the program's text (the seventh form; the later family's looks); each row that meets fmt, with fmt's text TOLD by the authors' own Lean function (tested against real Go, not proved from fmt's source: count such statements apart). THE CARD IS WHAT COUNTS. Prove the row's statement (the work); the ties are given (YtiiiejapbbnodahDoorTie.lean); close each card by the builder's one call (the guide's Derived/Test/ToyasCard.lean, 'card_holds'). Laid BY PROGRAM, IN A SANDBOX (cutbox-door.mjs). By AI agents, Wed Nov 11 2026. No macro, syntax, notation, axiom, sorry.
-/
import Derived.Test.YtiiiejapbbnodahDoorRows
import GoSem.ClaimSeven
namespace Go.Proofs.YtiiiejapbbnodahDoor
namespace Rows

/-- THE TIED CARD OF 'mootlaw2.StablePlays'. -/
def stablePlaysCard : Claim7 := { stood := { row := stablePlaysRow, standIns := [], harness := (true, "1972c7e5d37ea9a3c9f7a89c3c9940098533ba19905b61c49b4922fa7f871d51"), looks := true }, kinds := [], alts := [], laidByText := true, laidKinds := [.handle], laidTests := true, laidLooks := .later }
def StablePlaysCardSaid : Prop := Claim7.holds Tryd.pinned (.plain (OpenSpec.ofChange stablePlaysSpec)) stablePlaysCard

/-- THE TIED CARD OF 'mootlaw3.ViewTells'. -/
def viewTellsCard : Claim7 := { stood := { row := viewTellsRow, standIns := [], harness := (true, "1972c7e5d37ea9a3c9f7a89c3c9940098533ba19905b61c49b4922fa7f871d51"), looks := true }, kinds := [], alts := [], laidByText := true, laidKinds := [.handle], laidTests := true, laidLooks := .later }
def ViewTellsCardSaid : Prop := Claim7.holds Tryd.pinned (.plain (OpenSpec.ofChange viewTellsSpec)) viewTellsCard

/-- THE TIED CARD OF 'mootlaw4.ViewAll'. -/
def viewAllCard : Claim7 := { stood := { row := viewAllRow, standIns := [], harness := (true, "1972c7e5d37ea9a3c9f7a89c3c9940098533ba19905b61c49b4922fa7f871d51"), looks := true }, kinds := [], alts := [], laidByText := true, laidKinds := [.handle], laidTests := true, laidLooks := .later }
def ViewAllCardSaid : Prop := Claim7.holds Tryd.pinned (.plain (OpenSpec.ofChange viewAllSpec)) viewAllCard

/-- THE SECOND FORM's CARD OF 'mootlaw2.StablePlays'. -/
def stablePlaysUptoCard : Claim7 := { stood := { row := stablePlaysUptoRow, standIns := [], harness := (true, "1972c7e5d37ea9a3c9f7a89c3c9940098533ba19905b61c49b4922fa7f871d51"), looks := true }, kinds := [], alts := [], laidByText := true, laidKinds := [.handle], laidTests := true, laidLooks := .later }
def StablePlaysUptoCardSaid : Prop := Claim7.holds Tryd.pinned (.plain (OpenSpec.upto stablePlaysSpec)) stablePlaysUptoCard

/-- THE SECOND FORM's CARD OF 'mootlaw3.ViewTells'. -/
def viewTellsUptoCard : Claim7 := { stood := { row := viewTellsUptoRow, standIns := [], harness := (true, "1972c7e5d37ea9a3c9f7a89c3c9940098533ba19905b61c49b4922fa7f871d51"), looks := true }, kinds := [], alts := [], laidByText := true, laidKinds := [.handle], laidTests := true, laidLooks := .later }
def ViewTellsUptoCardSaid : Prop := Claim7.holds Tryd.pinned (.plain (OpenSpec.upto viewTellsSpec)) viewTellsUptoCard

/-- THE SECOND FORM's CARD OF 'mootlaw4.ViewAll'. -/
def viewAllUptoCard : Claim7 := { stood := { row := viewAllUptoRow, standIns := [], harness := (true, "1972c7e5d37ea9a3c9f7a89c3c9940098533ba19905b61c49b4922fa7f871d51"), looks := true }, kinds := [], alts := [], laidByText := true, laidKinds := [.handle], laidTests := true, laidLooks := .later }
def ViewAllUptoCardSaid : Prop := Claim7.holds Tryd.pinned (.plain (OpenSpec.upto viewAllSpec)) viewAllUptoCard
end Rows
end Go.Proofs.YtiiiejapbbnodahDoor
