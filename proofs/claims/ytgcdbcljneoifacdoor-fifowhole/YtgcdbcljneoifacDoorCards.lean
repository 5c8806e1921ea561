/-
  DERIVED. GIVEN WITH THE SEED: THE CARDS: each row of YtgcdbcljneoifacDoorRows.lean that lists a variable, with what it lists TIED to the program's text (the seventh form; the later family's looks); each row that meets fmt, with fmt's text TOLD by the authors' own Lean function (tested against real Go, not proved from fmt's source: count such statements apart). THE CARD IS WHAT COUNTS. Prove the row's statement (the work); the ties are given (YtgcdbcljneoifacDoorTie.lean); close each card by the builder's one call (the guide's Derived/Test/ToyasCard.lean, 'card_holds'). Laid BY PROGRAM, IN A SANDBOX (cutbox-door.mjs). By AI agents, Wed Nov 11 2026. No macro, syntax, notation, axiom, sorry.
-/
import Derived.Test.YtgcdbcljneoifacDoorRows
import GoSem.ClaimSeven
namespace Go.Proofs.YtgcdbcljneoifacDoor
namespace Rows

/-- THE TIED CARD OF 'mootlaw1.FifoWhole'. -/
def fifoWholeCard : Claim7 := { stood := { row := fifoWholeRow, standIns := [], harness := (true, "624e513f18719b0730a34dc5cd5e9761a6c597c2efa9a1168e448259f754f775"), looks := true }, kinds := [], alts := [], laidByText := true, laidKinds := [.handle], laidTests := true, laidLooks := .later }
def FifoWholeCardSaid : Prop := Claim7.holds Tryd.pinned (.plain (OpenSpec.ofChange fifoWholeSpec)) fifoWholeCard

/-- THE TIED CARD OF 'mootlaw1.FifoPlays'. -/
def fifoPlaysCard : Claim7 := { stood := { row := fifoPlaysRow, standIns := [], harness := (true, "624e513f18719b0730a34dc5cd5e9761a6c597c2efa9a1168e448259f754f775"), looks := true }, kinds := [], alts := [], laidByText := true, laidKinds := [.handle], laidTests := true, laidLooks := .later }
def FifoPlaysCardSaid : Prop := Claim7.holds Tryd.pinned (.plain (OpenSpec.ofChange fifoPlaysSpec)) fifoPlaysCard

/-- THE TIED CARD OF 'mootlaw1.CauseWaits'. -/
def causeWaitsCard : Claim7 := { stood := { row := causeWaitsRow, standIns := [], harness := (true, "624e513f18719b0730a34dc5cd5e9761a6c597c2efa9a1168e448259f754f775"), looks := true }, kinds := [], alts := [], laidByText := true, laidKinds := [.handle], laidTests := true, laidLooks := .later }
def CauseWaitsCardSaid : Prop := Claim7.holds Tryd.pinned (.plain (OpenSpec.ofChange causeWaitsSpec)) causeWaitsCard

/-- THE SECOND FORM's CARD OF 'mootlaw1.FifoWhole'. -/
def fifoWholeUptoCard : Claim7 := { stood := { row := fifoWholeUptoRow, standIns := [], harness := (true, "624e513f18719b0730a34dc5cd5e9761a6c597c2efa9a1168e448259f754f775"), looks := true }, kinds := [], alts := [], laidByText := true, laidKinds := [.handle], laidTests := true, laidLooks := .later }
def FifoWholeUptoCardSaid : Prop := Claim7.holds Tryd.pinned (.plain (OpenSpec.upto fifoWholeSpec)) fifoWholeUptoCard

/-- THE SECOND FORM's CARD OF 'mootlaw1.FifoPlays'. -/
def fifoPlaysUptoCard : Claim7 := { stood := { row := fifoPlaysUptoRow, standIns := [], harness := (true, "624e513f18719b0730a34dc5cd5e9761a6c597c2efa9a1168e448259f754f775"), looks := true }, kinds := [], alts := [], laidByText := true, laidKinds := [.handle], laidTests := true, laidLooks := .later }
def FifoPlaysUptoCardSaid : Prop := Claim7.holds Tryd.pinned (.plain (OpenSpec.upto fifoPlaysSpec)) fifoPlaysUptoCard

/-- THE SECOND FORM's CARD OF 'mootlaw1.CauseWaits'. -/
def causeWaitsUptoCard : Claim7 := { stood := { row := causeWaitsUptoRow, standIns := [], harness := (true, "624e513f18719b0730a34dc5cd5e9761a6c597c2efa9a1168e448259f754f775"), looks := true }, kinds := [], alts := [], laidByText := true, laidKinds := [.handle], laidTests := true, laidLooks := .later }
def CauseWaitsUptoCardSaid : Prop := Claim7.holds Tryd.pinned (.plain (OpenSpec.upto causeWaitsSpec)) causeWaitsUptoCard
end Rows
end Go.Proofs.YtgcdbcljneoifacDoor
