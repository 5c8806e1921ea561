/-
  DERIVED. GIVEN WITH THE SEED: THE CARDS: each row of YtdhlfbpflngmbadGreatDoorRows.lean that lists a variable, with what it lists TIED to the program's text (the seventh form; the later family's looks); each row that meets fmt, with fmt's text TOLD by the authors' own Lean function (tested against real Go, not proved from fmt's source: count such statements apart). THE CARD IS WHAT COUNTS. Prove the row's statement (the work); the ties are given (YtdhlfbpflngmbadGreatDoorTie.lean); close each card by the builder's one call (the guide's Derived/Test/ToyasCard.lean, 'card_holds'). Laid BY PROGRAM, IN A SANDBOX (cutbox-door.mjs). By AI agents, Wed Nov 11 2026. No macro, syntax, notation, axiom, sorry.
-/
import Derived.Test.YtdhlfbpflngmbadGreatDoorRows
import GoSem.ClaimSeven
namespace Go.Proofs.YtdhlfbpflngmbadGreatDoor
namespace Rows

/-- THE TIED CARD OF 'mootlaw1.CastCausal'. -/
def castCausalCard : Claim7 := { stood := { row := castCausalRow, standIns := [], harness := (true, "dfec01c0bb0ab5e4c2f2a7c58dc253e2ca44b0006085868af93e4ae024e8d581"), looks := true }, kinds := [], alts := [], laidByText := true, laidKinds := [.handle], laidTests := true, laidLooks := .later }
def CastCausalCardSaid : Prop := Claim7.holds Tryz.pinned (.plain (OpenSpec.ofChange castCausalSpec)) castCausalCard

/-- THE SECOND FORM's CARD OF 'mootlaw1.CastCausal'. -/
def castCausalUptoCard : Claim7 := { stood := { row := castCausalUptoRow, standIns := [], harness := (true, "dfec01c0bb0ab5e4c2f2a7c58dc253e2ca44b0006085868af93e4ae024e8d581"), looks := true }, kinds := [], alts := [], laidByText := true, laidKinds := [.handle], laidTests := true, laidLooks := .later }
def CastCausalUptoCardSaid : Prop := Claim7.holds Tryz.pinned (.plain (OpenSpec.upto castCausalSpec)) castCausalUptoCard
end Rows
end Go.Proofs.YtdhlfbpflngmbadGreatDoor
