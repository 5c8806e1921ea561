/-
  DERIVED. GIVEN WITH THE SEED: THE CARDS: each row of YtcccheeeagphpagDoorRows.lean that lists a variable, with what it lists TIED to the program's text (the seventh form; the later family's looks); each row that meets fmt, with fmt's text TOLD by the authors' own Lean function (tested against real Go, not proved from fmt's source: count such statements apart). THE CARD IS WHAT COUNTS. Prove the row's statement (the work); the ties are given (YtcccheeeagphpagDoorTie.lean); close each card by the builder's one call (the guide's Derived/Test/ToyasCard.lean, 'card_holds'). Laid BY PROGRAM, IN A SANDBOX (cutbox-door.mjs). By AI agents, Wed Nov 11 2026. No macro, syntax, notation, axiom, sorry.
-/
import Derived.Test.YtcccheeeagphpagDoorRows
import GoSem.ClaimSeven
namespace Go.Proofs.YtcccheeeagphpagDoor
namespace Rows

/-- THE TIED CARD OF 'mootlaw2.LeaderPlays'. -/
def leaderPlaysCard : Claim7 := { stood := { row := leaderPlaysRow, standIns := [], harness := (true, "2f5a75e041a8b68e8272f4a926d04e7d46007f3a9d1d38b13083053a2e80ec6f"), looks := true }, kinds := [], alts := [], laidByText := true, laidKinds := [.handle], laidTests := true, laidLooks := .later }
def LeaderPlaysCardSaid : Prop := Claim7.holds Tryd.pinned (.plain (OpenSpec.ofChange leaderPlaysSpec)) leaderPlaysCard

/-- THE SECOND FORM's CARD OF 'mootlaw2.LeaderPlays'. -/
def leaderPlaysUptoCard : Claim7 := { stood := { row := leaderPlaysUptoRow, standIns := [], harness := (true, "2f5a75e041a8b68e8272f4a926d04e7d46007f3a9d1d38b13083053a2e80ec6f"), looks := true }, kinds := [], alts := [], laidByText := true, laidKinds := [.handle], laidTests := true, laidLooks := .later }
def LeaderPlaysUptoCardSaid : Prop := Claim7.holds Tryd.pinned (.plain (OpenSpec.upto leaderPlaysSpec)) leaderPlaysUptoCard
end Rows
end Go.Proofs.YtcccheeeagphpagDoor
