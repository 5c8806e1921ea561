/-
  DERIVED. GIVEN WITH THE SEED: THE CARDS: each row of YtejibmkcijgknacDoorRows.lean that lists a variable, with what it lists TIED to the program's text (the seventh form; the later family's looks); each row that meets fmt, with fmt's text TOLD by the authors' own Lean function (tested against real Go, not proved from fmt's source: count such statements apart). THE CARD IS WHAT COUNTS. Prove the row's statement (the work); the ties are given (YtejibmkcijgknacDoorTie.lean); close each card by the builder's one call (the guide's Derived/Test/ToyasCard.lean, 'card_holds'). Laid BY PROGRAM, IN A SANDBOX (cutbox-door.mjs). By AI agents, Wed Nov 11 2026. No macro, syntax, notation, axiom, sorry.
-/
import Derived.Test.YtejibmkcijgknacDoorRows
import GoSem.ClaimSeven
namespace Go.Proofs.YtejibmkcijgknacDoor
namespace Rows

/-- THE TIED CARD OF 'mootlaw1.FifoWhole'. -/
def fifoWholeCard : Claim7 := { stood := { row := fifoWholeRow, standIns := [], harness := (true, "2cd8d37715048a549599ea4d3cdd55641800a584b980fafebfd2975a0104a0e1"), looks := true }, kinds := [], alts := [], laidByText := true, laidKinds := [.handle], laidTests := true, laidLooks := .later }
def FifoWholeCardSaid : Prop := Claim7.holds Tryd.pinned (.plain (OpenSpec.ofChange fifoWholeSpec)) fifoWholeCard

/-- THE TIED CARD OF 'mootlaw1.FifoPlays'. -/
def fifoPlaysCard : Claim7 := { stood := { row := fifoPlaysRow, standIns := [], harness := (true, "2cd8d37715048a549599ea4d3cdd55641800a584b980fafebfd2975a0104a0e1"), looks := true }, kinds := [], alts := [], laidByText := true, laidKinds := [.handle], laidTests := true, laidLooks := .later }
def FifoPlaysCardSaid : Prop := Claim7.holds Tryd.pinned (.plain (OpenSpec.ofChange fifoPlaysSpec)) fifoPlaysCard

/-- THE SECOND FORM's CARD OF 'mootlaw1.FifoWhole'. -/
def fifoWholeUptoCard : Claim7 := { stood := { row := fifoWholeUptoRow, standIns := [], harness := (true, "2cd8d37715048a549599ea4d3cdd55641800a584b980fafebfd2975a0104a0e1"), looks := true }, kinds := [], alts := [], laidByText := true, laidKinds := [.handle], laidTests := true, laidLooks := .later }
def FifoWholeUptoCardSaid : Prop := Claim7.holds Tryd.pinned (.plain (OpenSpec.upto fifoWholeSpec)) fifoWholeUptoCard

/-- THE SECOND FORM's CARD OF 'mootlaw1.FifoPlays'. -/
def fifoPlaysUptoCard : Claim7 := { stood := { row := fifoPlaysUptoRow, standIns := [], harness := (true, "2cd8d37715048a549599ea4d3cdd55641800a584b980fafebfd2975a0104a0e1"), looks := true }, kinds := [], alts := [], laidByText := true, laidKinds := [.handle], laidTests := true, laidLooks := .later }
def FifoPlaysUptoCardSaid : Prop := Claim7.holds Tryd.pinned (.plain (OpenSpec.upto fifoPlaysSpec)) fifoPlaysUptoCard
end Rows
end Go.Proofs.YtejibmkcijgknacDoor
