/-
  DERIVED. GIVEN WITH THE SEED: THE CARDS: each row of YtfjhjjikaodadagDoorRows.lean that lists a variable, with what it lists TIED to the program's text (the seventh form; the later family's looks); each row that meets fmt, with fmt's text TOLD by the authors' own Lean function (tested against real Go, not proved from fmt's source: count such statements apart). THE CARD IS WHAT COUNTS. Prove the row's statement (the work); the ties are given (YtfjhjjikaodadagDoorTie.lean); close each card by the builder's one call (the guide's Derived/Test/ToyasCard.lean, 'card_holds'). Laid BY PROGRAM, IN A SANDBOX (cutbox-door.mjs). By AI agents, Wed Nov 11 2026. No macro, syntax, notation, axiom, sorry.
-/
import Derived.Test.YtfjhjjikaodadagDoorRows
import GoSem.ClaimSeven
namespace Go.Proofs.YtfjhjjikaodadagDoor
namespace Rows

/-- THE TIED CARD OF 'mootlaw2.LeaderPlays'. -/
def leaderPlaysCard : Claim7 := { stood := { row := leaderPlaysRow, standIns := [], harness := (true, "6dbbd9d6bb26c4cfe6df9e36610e2ee860f80ba272dc920c7970056d364ce9c6"), looks := true }, kinds := [], alts := [], laidByText := true, laidKinds := [.handle], laidTests := true, laidLooks := .later }
def LeaderPlaysCardSaid : Prop := Claim7.holds Tryd.pinned (.plain (OpenSpec.ofChange leaderPlaysSpec)) leaderPlaysCard

/-- THE TIED CARD OF 'mootlaw2.TokenPlays'. -/
def tokenPlaysCard : Claim7 := { stood := { row := tokenPlaysRow, standIns := [], harness := (true, "6dbbd9d6bb26c4cfe6df9e36610e2ee860f80ba272dc920c7970056d364ce9c6"), looks := true }, kinds := [], alts := [], laidByText := true, laidKinds := [.handle], laidTests := true, laidLooks := .later }
def TokenPlaysCardSaid : Prop := Claim7.holds Tryd.pinned (.plain (OpenSpec.ofChange tokenPlaysSpec)) tokenPlaysCard

/-- THE SECOND FORM's CARD OF 'mootlaw2.LeaderPlays'. -/
def leaderPlaysUptoCard : Claim7 := { stood := { row := leaderPlaysUptoRow, standIns := [], harness := (true, "6dbbd9d6bb26c4cfe6df9e36610e2ee860f80ba272dc920c7970056d364ce9c6"), looks := true }, kinds := [], alts := [], laidByText := true, laidKinds := [.handle], laidTests := true, laidLooks := .later }
def LeaderPlaysUptoCardSaid : Prop := Claim7.holds Tryd.pinned (.plain (OpenSpec.upto leaderPlaysSpec)) leaderPlaysUptoCard

/-- THE SECOND FORM's CARD OF 'mootlaw2.TokenPlays'. -/
def tokenPlaysUptoCard : Claim7 := { stood := { row := tokenPlaysUptoRow, standIns := [], harness := (true, "6dbbd9d6bb26c4cfe6df9e36610e2ee860f80ba272dc920c7970056d364ce9c6"), looks := true }, kinds := [], alts := [], laidByText := true, laidKinds := [.handle], laidTests := true, laidLooks := .later }
def TokenPlaysUptoCardSaid : Prop := Claim7.holds Tryd.pinned (.plain (OpenSpec.upto tokenPlaysSpec)) tokenPlaysUptoCard
end Rows
end Go.Proofs.YtfjhjjikaodadagDoor
