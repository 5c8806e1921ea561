/-
  DERIVED. GIVEN WITH THE SEED: THE CARDS: each row of YtgcdbcljneoifajDoorRows.lean that lists a variable, with what it lists TIED to the program's text (the seventh form; the later family's looks); each row that meets fmt, with fmt's text TOLD by the authors' own Lean function (tested against real Go, not proved from fmt's source: count such statements apart). THE CARD IS WHAT COUNTS. Prove the row's statement (the work); the ties are given (YtgcdbcljneoifajDoorTie.lean); close each card by the builder's one call (the guide's Derived/Test/ToyasCard.lean, 'card_holds'). Laid BY PROGRAM, IN A SANDBOX (cutbox-door.mjs). By AI agents, Wed Nov 11 2026. No macro, syntax, notation, axiom, sorry.
-/
import Derived.Test.YtgcdbcljneoifajDoorRows
import GoSem.ClaimSeven
namespace Go.Proofs.YtgcdbcljneoifajDoor
namespace Rows

/-- THE TIED CARD OF 'mootlaw3.PicturePlays'. -/
def picturePlaysCard : Claim7 := { stood := { row := picturePlaysRow, standIns := [], harness := (true, "38ef0fe56fe4865483b2127fd57d5cea58851bdad7332198b04e3d8c7f7ea05c"), looks := true }, kinds := [], alts := [], laidByText := true, laidKinds := [.handle], laidTests := true, laidLooks := .later }
def PicturePlaysCardSaid : Prop := Claim7.holds Tryd.pinned (.plain (OpenSpec.ofChange picturePlaysSpec)) picturePlaysCard

/-- THE SECOND FORM's CARD OF 'mootlaw3.PicturePlays'. -/
def picturePlaysUptoCard : Claim7 := { stood := { row := picturePlaysUptoRow, standIns := [], harness := (true, "38ef0fe56fe4865483b2127fd57d5cea58851bdad7332198b04e3d8c7f7ea05c"), looks := true }, kinds := [], alts := [], laidByText := true, laidKinds := [.handle], laidTests := true, laidLooks := .later }
def PicturePlaysUptoCardSaid : Prop := Claim7.holds Tryd.pinned (.plain (OpenSpec.upto picturePlaysSpec)) picturePlaysUptoCard
end Rows
end Go.Proofs.YtgcdbcljneoifajDoor
