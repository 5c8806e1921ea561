/-
  DERIVED. GIVEN WITH THE SEED: THE CARDS: each row of YtcolcjnmdejfeafDoorRows.lean that lists a variable, with what it lists TIED to the program's text (the seventh form; the later family's looks); each row that meets fmt, with fmt's text TOLD by the authors' own Lean function (tested against real Go, not proved from fmt's source: count such statements apart). THE CARD IS WHAT COUNTS. Prove the row's statement (the work); the ties are given (YtcolcjnmdejfeafDoorTie.lean); close each card by the builder's one call (the guide's Derived/Test/ToyasCard.lean, 'card_holds'). Laid BY PROGRAM, IN A SANDBOX (cutbox-door.mjs). By AI agents, Wed Nov 11 2026. No macro, syntax, notation, axiom, sorry.
-/
import Derived.Test.YtcolcjnmdejfeafDoorRows
import GoSem.ClaimSeven
namespace Go.Proofs.YtcolcjnmdejfeafDoor
namespace Rows

/-- THE TIED CARD OF 'mootlaw2.AgainPlays'. -/
def againPlaysCard : Claim7 := { stood := { row := againPlaysRow, standIns := [], harness := (true, "db2d0b5bc735bbea08b9025f28f9086f7abaea04dcefc5f1c23e33bdad8f1640"), looks := true }, kinds := [], alts := [], laidByText := true, laidKinds := [.handle], laidTests := true, laidLooks := .later }
def AgainPlaysCardSaid : Prop := Claim7.holds Tryd.pinned (.plain (OpenSpec.ofChange againPlaysSpec)) againPlaysCard

/-- THE TIED CARD OF 'mootlaw2.AgreeOne'. -/
def agreeOneCard : Claim7 := { stood := { row := agreeOneRow, standIns := [], harness := (true, "db2d0b5bc735bbea08b9025f28f9086f7abaea04dcefc5f1c23e33bdad8f1640"), looks := true }, kinds := [], alts := [], laidByText := true, laidKinds := [.handle], laidTests := true, laidLooks := .later }
def AgreeOneCardSaid : Prop := Claim7.holds Tryd.pinned (.plain (OpenSpec.ofChange agreeOneSpec)) agreeOneCard

/-- THE TIED CARD OF 'mootlaw2.AgreePlays'. -/
def agreePlaysCard : Claim7 := { stood := { row := agreePlaysRow, standIns := [], harness := (true, "db2d0b5bc735bbea08b9025f28f9086f7abaea04dcefc5f1c23e33bdad8f1640"), looks := true }, kinds := [], alts := [], laidByText := true, laidKinds := [.handle], laidTests := true, laidLooks := .later }
def AgreePlaysCardSaid : Prop := Claim7.holds Tryd.pinned (.plain (OpenSpec.ofChange agreePlaysSpec)) agreePlaysCard

/-- THE SECOND FORM's CARD OF 'mootlaw2.AgainPlays'. -/
def againPlaysUptoCard : Claim7 := { stood := { row := againPlaysUptoRow, standIns := [], harness := (true, "db2d0b5bc735bbea08b9025f28f9086f7abaea04dcefc5f1c23e33bdad8f1640"), looks := true }, kinds := [], alts := [], laidByText := true, laidKinds := [.handle], laidTests := true, laidLooks := .later }
def AgainPlaysUptoCardSaid : Prop := Claim7.holds Tryd.pinned (.plain (OpenSpec.upto againPlaysSpec)) againPlaysUptoCard

/-- THE SECOND FORM's CARD OF 'mootlaw2.AgreeOne'. -/
def agreeOneUptoCard : Claim7 := { stood := { row := agreeOneUptoRow, standIns := [], harness := (true, "db2d0b5bc735bbea08b9025f28f9086f7abaea04dcefc5f1c23e33bdad8f1640"), looks := true }, kinds := [], alts := [], laidByText := true, laidKinds := [.handle], laidTests := true, laidLooks := .later }
def AgreeOneUptoCardSaid : Prop := Claim7.holds Tryd.pinned (.plain (OpenSpec.upto agreeOneSpec)) agreeOneUptoCard

/-- THE SECOND FORM's CARD OF 'mootlaw2.AgreePlays'. -/
def agreePlaysUptoCard : Claim7 := { stood := { row := agreePlaysUptoRow, standIns := [], harness := (true, "db2d0b5bc735bbea08b9025f28f9086f7abaea04dcefc5f1c23e33bdad8f1640"), looks := true }, kinds := [], alts := [], laidByText := true, laidKinds := [.handle], laidTests := true, laidLooks := .later }
def AgreePlaysUptoCardSaid : Prop := Claim7.holds Tryd.pinned (.plain (OpenSpec.upto agreePlaysSpec)) agreePlaysUptoCard
end Rows
end Go.Proofs.YtcolcjnmdejfeafDoor
