/-
  DERIVED. GIVEN WITH THE SEED: THE CARDS: each row of YtgcdbcljneoifaiDoorRows.lean that lists a variable, with what it lists TIED to the program's text (the seventh form; the later family's looks); each row that meets fmt, with fmt's text TOLD by the authors' own Lean function (tested against real Go, not proved from fmt's source: count such statements apart). THE CARD IS WHAT COUNTS. Prove the row's statement (the work); the ties are given (YtgcdbcljneoifaiDoorTie.lean); close each card by the builder's one call (the guide's Derived/Test/ToyasCard.lean, 'card_holds'). Laid BY PROGRAM, IN A SANDBOX (cutbox-door.mjs). By AI agents, Wed Nov 11 2026. No macro, syntax, notation, axiom, sorry.
-/
import Derived.Test.YtgcdbcljneoifaiDoorRows
import GoSem.ClaimSeven
namespace Go.Proofs.YtgcdbcljneoifaiDoor
namespace Rows

/-- THE TIED CARD OF 'mootlaw4.FlushLost'. -/
def flushLostCard : Claim7 := { stood := { row := flushLostRow, standIns := [], harness := (true, "1549adf1c1aace9942b76cf66e1be73a4fad39dd871c3c1c7a34bf67c8c1e6be"), looks := true }, kinds := [], alts := [], laidByText := true, laidKinds := [.handle], laidTests := true, laidLooks := .later }
def FlushLostCardSaid : Prop := Claim7.holds Tryd.pinned (.plain (OpenSpec.ofChange flushLostSpec)) flushLostCard

/-- THE TIED CARD OF 'mootlaw3.FlushPlays'. -/
def flushPlaysCard : Claim7 := { stood := { row := flushPlaysRow, standIns := [], harness := (true, "1549adf1c1aace9942b76cf66e1be73a4fad39dd871c3c1c7a34bf67c8c1e6be"), looks := true }, kinds := [], alts := [], laidByText := true, laidKinds := [.handle], laidTests := true, laidLooks := .later }
def FlushPlaysCardSaid : Prop := Claim7.holds Tryd.pinned (.plain (OpenSpec.ofChange flushPlaysSpec)) flushPlaysCard

/-- THE TIED CARD OF 'mootlaw3.PictureKeeps'. -/
def pictureKeepsCard : Claim7 := { stood := { row := pictureKeepsRow, standIns := [], harness := (true, "1549adf1c1aace9942b76cf66e1be73a4fad39dd871c3c1c7a34bf67c8c1e6be"), looks := true }, kinds := [], alts := [], laidByText := true, laidKinds := [.handle], laidTests := true, laidLooks := .later }
def PictureKeepsCardSaid : Prop := Claim7.holds Tryd.pinned (.plain (OpenSpec.ofChange pictureKeepsSpec)) pictureKeepsCard

/-- THE TIED CARD OF 'mootlaw4.PictureStill'. -/
def pictureStillCard : Claim7 := { stood := { row := pictureStillRow, standIns := [], harness := (true, "1549adf1c1aace9942b76cf66e1be73a4fad39dd871c3c1c7a34bf67c8c1e6be"), looks := true }, kinds := [], alts := [], laidByText := true, laidKinds := [.handle], laidTests := true, laidLooks := .later }
def PictureStillCardSaid : Prop := Claim7.holds Tryd.pinned (.plain (OpenSpec.ofChange pictureStillSpec)) pictureStillCard

/-- THE SECOND FORM's CARD OF 'mootlaw4.FlushLost'. -/
def flushLostUptoCard : Claim7 := { stood := { row := flushLostUptoRow, standIns := [], harness := (true, "1549adf1c1aace9942b76cf66e1be73a4fad39dd871c3c1c7a34bf67c8c1e6be"), looks := true }, kinds := [], alts := [], laidByText := true, laidKinds := [.handle], laidTests := true, laidLooks := .later }
def FlushLostUptoCardSaid : Prop := Claim7.holds Tryd.pinned (.plain (OpenSpec.upto flushLostSpec)) flushLostUptoCard

/-- THE SECOND FORM's CARD OF 'mootlaw3.FlushPlays'. -/
def flushPlaysUptoCard : Claim7 := { stood := { row := flushPlaysUptoRow, standIns := [], harness := (true, "1549adf1c1aace9942b76cf66e1be73a4fad39dd871c3c1c7a34bf67c8c1e6be"), looks := true }, kinds := [], alts := [], laidByText := true, laidKinds := [.handle], laidTests := true, laidLooks := .later }
def FlushPlaysUptoCardSaid : Prop := Claim7.holds Tryd.pinned (.plain (OpenSpec.upto flushPlaysSpec)) flushPlaysUptoCard

/-- THE SECOND FORM's CARD OF 'mootlaw3.PictureKeeps'. -/
def pictureKeepsUptoCard : Claim7 := { stood := { row := pictureKeepsUptoRow, standIns := [], harness := (true, "1549adf1c1aace9942b76cf66e1be73a4fad39dd871c3c1c7a34bf67c8c1e6be"), looks := true }, kinds := [], alts := [], laidByText := true, laidKinds := [.handle], laidTests := true, laidLooks := .later }
def PictureKeepsUptoCardSaid : Prop := Claim7.holds Tryd.pinned (.plain (OpenSpec.upto pictureKeepsSpec)) pictureKeepsUptoCard

/-- THE SECOND FORM's CARD OF 'mootlaw4.PictureStill'. -/
def pictureStillUptoCard : Claim7 := { stood := { row := pictureStillUptoRow, standIns := [], harness := (true, "1549adf1c1aace9942b76cf66e1be73a4fad39dd871c3c1c7a34bf67c8c1e6be"), looks := true }, kinds := [], alts := [], laidByText := true, laidKinds := [.handle], laidTests := true, laidLooks := .later }
def PictureStillUptoCardSaid : Prop := Claim7.holds Tryd.pinned (.plain (OpenSpec.upto pictureStillSpec)) pictureStillUptoCard
end Rows
end Go.Proofs.YtgcdbcljneoifaiDoor
