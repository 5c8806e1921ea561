/-
  DERIVED. GIVEN WITH THE SEED: THE CARDS: each row of YtgnffanlgmbieaeDoorRows.lean that lists a variable, with what it lists TIED to the program's text (the seventh form; the later family's looks); each row that meets fmt, with fmt's text TOLD by the authors' own Lean function (tested against real Go, not proved from fmt's source: count such statements apart). THE CARD IS WHAT COUNTS. Prove the row's statement (the work); the ties are given (YtgnffanlgmbieaeDoorTie.lean); close each card by the builder's one call (the guide's Derived/Test/ToyasCard.lean, 'card_holds'). Laid BY PROGRAM, IN A SANDBOX (cutbox-door.mjs). By AI agents, Wed Nov 11 2026. No macro, syntax, notation, axiom, sorry.
-/
import Derived.Test.YtgnffanlgmbieaeDoorRows
import GoSem.ClaimSeven
namespace Go.Proofs.YtgnffanlgmbieaeDoor
namespace Rows

/-- THE TIED CARD OF 'mootlaw1.CastPlays'. -/
def castPlaysCard : Claim7 := { stood := { row := castPlaysRow, standIns := [], harness := (true, "e640110ad35aac7ffe3a80d4a5b13df77d0fff872c7f37c00ab86c46d7c6d2d3"), looks := true }, kinds := [], alts := [], laidByText := true, laidKinds := [.handle], laidTests := true, laidLooks := .later }
def CastPlaysCardSaid : Prop := Claim7.holds Tryd.pinned (.plain (OpenSpec.ofChange castPlaysSpec)) castPlaysCard

/-- THE SECOND FORM's CARD OF 'mootlaw1.CastPlays'. -/
def castPlaysUptoCard : Claim7 := { stood := { row := castPlaysUptoRow, standIns := [], harness := (true, "e640110ad35aac7ffe3a80d4a5b13df77d0fff872c7f37c00ab86c46d7c6d2d3"), looks := true }, kinds := [], alts := [], laidByText := true, laidKinds := [.handle], laidTests := true, laidLooks := .later }
def CastPlaysUptoCardSaid : Prop := Claim7.holds Tryd.pinned (.plain (OpenSpec.upto castPlaysSpec)) castPlaysUptoCard
end Rows
end Go.Proofs.YtgnffanlgmbieaeDoor
