/-
  DERIVED. GIVEN WITH THE SEED: THE CARDS: each row of YtdhlfbpflngmbaeDoorRows.lean that lists a variable, with what it lists TIED to the program's text (the seventh form; the later family's looks); each row that meets fmt, with fmt's text TOLD by the authors' own Lean function (tested against real Go, not proved from fmt's source: count such statements apart). THE CARD IS WHAT COUNTS. Prove the row's statement (the work); the ties are given (YtdhlfbpflngmbaeDoorTie.lean); close each card by the builder's one call (the guide's Derived/Test/ToyasCard.lean, 'card_holds'). Laid BY PROGRAM, IN A SANDBOX (cutbox-door.mjs). By AI agents, Wed Nov 11 2026. No macro, syntax, notation, axiom, sorry.
-/
import Derived.Test.YtdhlfbpflngmbaeDoorRows
import GoSem.ClaimSeven
namespace Go.Proofs.YtdhlfbpflngmbaeDoor
namespace Rows

/-- THE TIED CARD OF 'mootlaw1.CastPlays'. -/
def castPlaysCard : Claim7 := { stood := { row := castPlaysRow, standIns := [], harness := (true, "4b41bbfb3e27d899bfaf099fe1578358c21b93fde3768f9d3f291b9ccda3f02e"), looks := true }, kinds := [], alts := [], laidByText := true, laidKinds := [.handle], laidTests := true, laidLooks := .later }
def CastPlaysCardSaid : Prop := Claim7.holds Tryd.pinned (.plain (OpenSpec.ofChange castPlaysSpec)) castPlaysCard

/-- THE TIED CARD OF 'mootlaw2.PiecesTell'. -/
def piecesTellCard : Claim7 := { stood := { row := piecesTellRow, standIns := [], harness := (true, "4b41bbfb3e27d899bfaf099fe1578358c21b93fde3768f9d3f291b9ccda3f02e"), looks := true }, kinds := [], alts := [], laidByText := true, laidKinds := [.handle], laidTests := true, laidLooks := .later }
def PiecesTellCardSaid : Prop := Claim7.holds Tryd.pinned (.plain (OpenSpec.ofChange piecesTellSpec)) piecesTellCard

/-- THE TIED CARD OF 'mootlaw2.PiecesBack'. -/
def piecesBackCard : Claim7 := { stood := { row := piecesBackRow, standIns := [], harness := (true, "4b41bbfb3e27d899bfaf099fe1578358c21b93fde3768f9d3f291b9ccda3f02e"), looks := true }, kinds := [], alts := [], laidByText := true, laidKinds := [.handle], laidTests := true, laidLooks := .later }
def PiecesBackCardSaid : Prop := Claim7.holds Tryd.pinned (.plain (OpenSpec.ofChange piecesBackSpec)) piecesBackCard

/-- THE TIED CARD OF 'mootlaw4.AgainOld'. -/
def againOldCard : Claim7 := { stood := { row := againOldRow, standIns := [], harness := (true, "4b41bbfb3e27d899bfaf099fe1578358c21b93fde3768f9d3f291b9ccda3f02e"), looks := true }, kinds := [], alts := [], laidByText := true, laidKinds := [.handle], laidTests := true, laidLooks := .later }
def AgainOldCardSaid : Prop := Claim7.holds Tryd.pinned (.plain (OpenSpec.ofChange againOldSpec)) againOldCard

/-- THE SECOND FORM's CARD OF 'mootlaw1.CastPlays'. -/
def castPlaysUptoCard : Claim7 := { stood := { row := castPlaysUptoRow, standIns := [], harness := (true, "4b41bbfb3e27d899bfaf099fe1578358c21b93fde3768f9d3f291b9ccda3f02e"), looks := true }, kinds := [], alts := [], laidByText := true, laidKinds := [.handle], laidTests := true, laidLooks := .later }
def CastPlaysUptoCardSaid : Prop := Claim7.holds Tryd.pinned (.plain (OpenSpec.upto castPlaysSpec)) castPlaysUptoCard

/-- THE SECOND FORM's CARD OF 'mootlaw2.PiecesTell'. -/
def piecesTellUptoCard : Claim7 := { stood := { row := piecesTellUptoRow, standIns := [], harness := (true, "4b41bbfb3e27d899bfaf099fe1578358c21b93fde3768f9d3f291b9ccda3f02e"), looks := true }, kinds := [], alts := [], laidByText := true, laidKinds := [.handle], laidTests := true, laidLooks := .later }
def PiecesTellUptoCardSaid : Prop := Claim7.holds Tryd.pinned (.plain (OpenSpec.upto piecesTellSpec)) piecesTellUptoCard

/-- THE SECOND FORM's CARD OF 'mootlaw2.PiecesBack'. -/
def piecesBackUptoCard : Claim7 := { stood := { row := piecesBackUptoRow, standIns := [], harness := (true, "4b41bbfb3e27d899bfaf099fe1578358c21b93fde3768f9d3f291b9ccda3f02e"), looks := true }, kinds := [], alts := [], laidByText := true, laidKinds := [.handle], laidTests := true, laidLooks := .later }
def PiecesBackUptoCardSaid : Prop := Claim7.holds Tryd.pinned (.plain (OpenSpec.upto piecesBackSpec)) piecesBackUptoCard

/-- THE SECOND FORM's CARD OF 'mootlaw4.AgainOld'. -/
def againOldUptoCard : Claim7 := { stood := { row := againOldUptoRow, standIns := [], harness := (true, "4b41bbfb3e27d899bfaf099fe1578358c21b93fde3768f9d3f291b9ccda3f02e"), looks := true }, kinds := [], alts := [], laidByText := true, laidKinds := [.handle], laidTests := true, laidLooks := .later }
def AgainOldUptoCardSaid : Prop := Claim7.holds Tryd.pinned (.plain (OpenSpec.upto againOldSpec)) againOldUptoCard
end Rows
end Go.Proofs.YtdhlfbpflngmbaeDoor
