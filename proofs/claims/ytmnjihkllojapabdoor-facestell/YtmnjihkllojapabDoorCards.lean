/-
  DERIVED. GIVEN WITH THE SEED: THE CARDS: each row of YtmnjihkllojapabDoorRows.lean that lists a variable, with what it lists TIED to the program's text (the seventh form; the later family's looks); each row that meets fmt, with fmt's text TOLD by the authors' own Lean function (tested against real Go, not proved from fmt's source: count such statements apart). THE CARD IS WHAT COUNTS. Prove the row's statement (the work); the ties are given (YtmnjihkllojapabDoorTie.lean); close each card by the builder's one call (the guide's Derived/Test/ToyasCard.lean, 'card_holds'). Laid BY PROGRAM, IN A SANDBOX (cutbox-door.mjs). By AI agents, Wed Nov 11 2026. No macro, syntax, notation, axiom, sorry.
-/
import Derived.Test.YtmnjihkllojapabDoorRows
import GoSem.ClaimSeven
namespace Go.Proofs.YtmnjihkllojapabDoor
namespace Rows

/-- THE TIED CARD OF 'mootlaw4.HistoryAdds'. -/
def historyAddsCard : Claim7 := { stood := { row := historyAddsRow, standIns := [], harness := (true, "838ef55990a25cf470e5990f6937072d0eadb2fa1eb55cd3d3af58fd681053b9"), looks := true }, kinds := [], alts := [], laidByText := true, laidKinds := [.handle], laidTests := true, laidLooks := .later }
def HistoryAddsCardSaid : Prop := Claim7.holds Tryd.pinned (.plain (OpenSpec.ofChange historyAddsSpec)) historyAddsCard

/-- THE TIED CARD OF 'mootlaw1.ClockTells'. -/
def clockTellsCard : Claim7 := { stood := { row := clockTellsRow, standIns := [], harness := (true, "838ef55990a25cf470e5990f6937072d0eadb2fa1eb55cd3d3af58fd681053b9"), looks := true }, kinds := [], alts := [], laidByText := true, laidKinds := [.handle], laidTests := true, laidLooks := .later }
def ClockTellsCardSaid : Prop := Claim7.holds Tryd.pinned (.plain (OpenSpec.ofChange clockTellsSpec)) clockTellsCard

/-- THE TIED CARD OF 'mootlaw1.FacesTell'. -/
def facesTellCard : Claim7 := { stood := { row := facesTellRow, standIns := [], harness := (true, "838ef55990a25cf470e5990f6937072d0eadb2fa1eb55cd3d3af58fd681053b9"), looks := true }, kinds := [], alts := [], laidByText := true, laidKinds := [.handle], laidTests := true, laidLooks := .later }
def FacesTellCardSaid : Prop := Claim7.holds Tryd.pinned (.plain (OpenSpec.ofChange facesTellSpec)) facesTellCard

/-- THE SECOND FORM's CARD OF 'mootlaw4.HistoryAdds'. -/
def historyAddsUptoCard : Claim7 := { stood := { row := historyAddsUptoRow, standIns := [], harness := (true, "838ef55990a25cf470e5990f6937072d0eadb2fa1eb55cd3d3af58fd681053b9"), looks := true }, kinds := [], alts := [], laidByText := true, laidKinds := [.handle], laidTests := true, laidLooks := .later }
def HistoryAddsUptoCardSaid : Prop := Claim7.holds Tryd.pinned (.plain (OpenSpec.upto historyAddsSpec)) historyAddsUptoCard

/-- THE SECOND FORM's CARD OF 'mootlaw1.ClockTells'. -/
def clockTellsUptoCard : Claim7 := { stood := { row := clockTellsUptoRow, standIns := [], harness := (true, "838ef55990a25cf470e5990f6937072d0eadb2fa1eb55cd3d3af58fd681053b9"), looks := true }, kinds := [], alts := [], laidByText := true, laidKinds := [.handle], laidTests := true, laidLooks := .later }
def ClockTellsUptoCardSaid : Prop := Claim7.holds Tryd.pinned (.plain (OpenSpec.upto clockTellsSpec)) clockTellsUptoCard

/-- THE SECOND FORM's CARD OF 'mootlaw1.FacesTell'. -/
def facesTellUptoCard : Claim7 := { stood := { row := facesTellUptoRow, standIns := [], harness := (true, "838ef55990a25cf470e5990f6937072d0eadb2fa1eb55cd3d3af58fd681053b9"), looks := true }, kinds := [], alts := [], laidByText := true, laidKinds := [.handle], laidTests := true, laidLooks := .later }
def FacesTellUptoCardSaid : Prop := Claim7.holds Tryd.pinned (.plain (OpenSpec.upto facesTellSpec)) facesTellUptoCard
end Rows
end Go.Proofs.YtmnjihkllojapabDoor
