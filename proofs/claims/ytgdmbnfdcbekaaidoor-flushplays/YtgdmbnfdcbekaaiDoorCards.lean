/-
  DERIVED. GIVEN WITH THE SEED: THE CARDS: each row of YtgdmbnfdcbekaaiDoorRows.lean that lists a variable, with what it lists TIED to the program's text (the seventh form; the later family's looks); each row that meets fmt, with fmt's text TOLD by the authors' own Lean function (tested against real Go, not proved from fmt's source: count such statements apart). THE CARD IS WHAT COUNTS. Prove the row's statement (the work); the ties are given (YtgdmbnfdcbekaaiDoorTie.lean); close each card by the builder's one call (the guide's Derived/Test/ToyasCard.lean, 'card_holds'). Laid BY PROGRAM, IN A SANDBOX (cutbox-door.mjs). By AI agents, Wed Nov 11 2026. No macro, syntax, notation, axiom, sorry.
-/
import Derived.Test.YtgdmbnfdcbekaaiDoorRows
import GoSem.ClaimSeven
namespace Go.Proofs.YtgdmbnfdcbekaaiDoor
namespace Rows

/-- THE TIED CARD OF 'mootlaw4.FlushLost'. -/
def flushLostCard : Claim7 := { stood := { row := flushLostRow, standIns := [], harness := (true, "8db6f345103a8516d7d28b4f26025dc931dd23032b9dd167c64a8f98524e2ae6"), looks := true }, kinds := [], alts := [], laidByText := true, laidKinds := [.handle], laidTests := true, laidLooks := .later }
def FlushLostCardSaid : Prop := Claim7.holds Tryd.pinned (.plain (OpenSpec.ofChange flushLostSpec)) flushLostCard

/-- THE TIED CARD OF 'mootlaw3.FlushPlays'. -/
def flushPlaysCard : Claim7 := { stood := { row := flushPlaysRow, standIns := [], harness := (true, "8db6f345103a8516d7d28b4f26025dc931dd23032b9dd167c64a8f98524e2ae6"), looks := true }, kinds := [], alts := [], laidByText := true, laidKinds := [.handle], laidTests := true, laidLooks := .later }
def FlushPlaysCardSaid : Prop := Claim7.holds Tryd.pinned (.plain (OpenSpec.ofChange flushPlaysSpec)) flushPlaysCard

/-- THE SECOND FORM's CARD OF 'mootlaw4.FlushLost'. -/
def flushLostUptoCard : Claim7 := { stood := { row := flushLostUptoRow, standIns := [], harness := (true, "8db6f345103a8516d7d28b4f26025dc931dd23032b9dd167c64a8f98524e2ae6"), looks := true }, kinds := [], alts := [], laidByText := true, laidKinds := [.handle], laidTests := true, laidLooks := .later }
def FlushLostUptoCardSaid : Prop := Claim7.holds Tryd.pinned (.plain (OpenSpec.upto flushLostSpec)) flushLostUptoCard

/-- THE SECOND FORM's CARD OF 'mootlaw3.FlushPlays'. -/
def flushPlaysUptoCard : Claim7 := { stood := { row := flushPlaysUptoRow, standIns := [], harness := (true, "8db6f345103a8516d7d28b4f26025dc931dd23032b9dd167c64a8f98524e2ae6"), looks := true }, kinds := [], alts := [], laidByText := true, laidKinds := [.handle], laidTests := true, laidLooks := .later }
def FlushPlaysUptoCardSaid : Prop := Claim7.holds Tryd.pinned (.plain (OpenSpec.upto flushPlaysSpec)) flushPlaysUptoCard
end Rows
end Go.Proofs.YtgdmbnfdcbekaaiDoor
