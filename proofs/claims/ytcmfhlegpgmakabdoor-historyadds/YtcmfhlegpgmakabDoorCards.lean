/-
  DERIVED. GIVEN WITH THE SEED: THE CARDS: each row of YtcmfhlegpgmakabDoorRows.lean that lists a variable, with what it lists TIED to the program's text (the seventh form; the later family's looks); each row that meets fmt, with fmt's text TOLD by the authors' own Lean function (tested against real Go, not proved from fmt's source: count such statements apart). THE CARD IS WHAT COUNTS. Prove the row's statement (the work); the ties are given (YtcmfhlegpgmakabDoorTie.lean); close each card by the builder's one call (the guide's Derived/Test/ToyasCard.lean, 'card_holds'). Laid BY PROGRAM, IN A SANDBOX (cutbox-door.mjs). By AI agents, Wed Nov 11 2026. No macro, syntax, notation, axiom, sorry.
-/
import Derived.Test.YtcmfhlegpgmakabDoorRows
import GoSem.ClaimSeven
namespace Go.Proofs.YtcmfhlegpgmakabDoor
namespace Rows

/-- THE TIED CARD OF 'mootlaw4.HistoryAdds'. -/
def historyAddsCard : Claim7 := { stood := { row := historyAddsRow, standIns := [], harness := (true, "f13dbd8e9726d492562137f0dada5d1a9990f910e647abd3341c504515878c5b"), looks := true }, kinds := [], alts := [], laidByText := true, laidKinds := [.handle], laidTests := true, laidLooks := .later }
def HistoryAddsCardSaid : Prop := Claim7.holds Tryd.pinned (.plain (OpenSpec.ofChange historyAddsSpec)) historyAddsCard

/-- THE SECOND FORM's CARD OF 'mootlaw4.HistoryAdds'. -/
def historyAddsUptoCard : Claim7 := { stood := { row := historyAddsUptoRow, standIns := [], harness := (true, "f13dbd8e9726d492562137f0dada5d1a9990f910e647abd3341c504515878c5b"), looks := true }, kinds := [], alts := [], laidByText := true, laidKinds := [.handle], laidTests := true, laidLooks := .later }
def HistoryAddsUptoCardSaid : Prop := Claim7.holds Tryd.pinned (.plain (OpenSpec.upto historyAddsSpec)) historyAddsUptoCard
end Rows
end Go.Proofs.YtcmfhlegpgmakabDoor
