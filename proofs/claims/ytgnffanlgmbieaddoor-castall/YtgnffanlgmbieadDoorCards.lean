/-
  DERIVED. GIVEN WITH THE SEED: THE CARDS: each row of YtgnffanlgmbieadDoorRows.lean that lists a variable, with what it lists TIED to the program's text (the seventh form; the later family's looks); each row that meets fmt, with fmt's text TOLD by the authors' own Lean function (tested against real Go, not proved from fmt's source: count such statements apart). THE CARD IS WHAT COUNTS. Prove the row's statement (the work); the ties are given (YtgnffanlgmbieadDoorTie.lean); close each card by the builder's one call (the guide's Derived/Test/ToyasCard.lean, 'card_holds'). Laid BY PROGRAM, IN A SANDBOX (cutbox-door.mjs). By AI agents, Wed Nov 11 2026. No macro, syntax, notation, axiom, sorry.
-/
import Derived.Test.YtgnffanlgmbieadDoorRows
import GoSem.ClaimSeven
namespace Go.Proofs.YtgnffanlgmbieadDoor
namespace Rows

/-- THE TIED CARD OF 'mootlaw1.CausePlays'. -/
def causePlaysCard : Claim7 := { stood := { row := causePlaysRow, standIns := [], harness := (true, "49b435588926e69d69a91469907aa4fd29258bdf4f020cbff3d9ba195aae3a4b"), looks := true }, kinds := [], alts := [], laidByText := true, laidKinds := [.handle], laidTests := true, laidLooks := .later }
def CausePlaysCardSaid : Prop := Claim7.holds Tryd.pinned (.plain (OpenSpec.ofChange causePlaysSpec)) causePlaysCard

/-- THE TIED CARD OF 'mootlaw1.NetKeeps'. -/
def netKeepsCard : Claim7 := { stood := { row := netKeepsRow, standIns := [], harness := (true, "49b435588926e69d69a91469907aa4fd29258bdf4f020cbff3d9ba195aae3a4b"), looks := true }, kinds := [], alts := [], laidByText := true, laidKinds := [.handle], laidTests := true, laidLooks := .later }
def NetKeepsCardSaid : Prop := Claim7.holds Tryd.pinned (.plain (OpenSpec.ofChange netKeepsSpec)) netKeepsCard

/-- THE TIED CARD OF 'mootlaw4.NetFull'. -/
def netFullCard : Claim7 := { stood := { row := netFullRow, standIns := [], harness := (true, "49b435588926e69d69a91469907aa4fd29258bdf4f020cbff3d9ba195aae3a4b"), looks := true }, kinds := [], alts := [], laidByText := true, laidKinds := [.handle], laidTests := true, laidLooks := .later }
def NetFullCardSaid : Prop := Claim7.holds Tryd.pinned (.plain (OpenSpec.ofChange netFullSpec)) netFullCard

/-- THE TIED CARD OF 'mootlaw1.NetPlays'. -/
def netPlaysCard : Claim7 := { stood := { row := netPlaysRow, standIns := [], harness := (true, "49b435588926e69d69a91469907aa4fd29258bdf4f020cbff3d9ba195aae3a4b"), looks := true }, kinds := [], alts := [], laidByText := true, laidKinds := [.handle], laidTests := true, laidLooks := .later }
def NetPlaysCardSaid : Prop := Claim7.holds Tryd.pinned (.plain (OpenSpec.ofChange netPlaysSpec)) netPlaysCard

/-- THE TIED CARD OF 'mootlaw4.CastAll'. -/
def castAllCard : Claim7 := { stood := { row := castAllRow, standIns := [], harness := (true, "49b435588926e69d69a91469907aa4fd29258bdf4f020cbff3d9ba195aae3a4b"), looks := true }, kinds := [], alts := [], laidByText := true, laidKinds := [.handle], laidTests := true, laidLooks := .later }
def CastAllCardSaid : Prop := Claim7.holds Tryd.pinned (.plain (OpenSpec.ofChange castAllSpec)) castAllCard

/-- THE SECOND FORM's CARD OF 'mootlaw1.CausePlays'. -/
def causePlaysUptoCard : Claim7 := { stood := { row := causePlaysUptoRow, standIns := [], harness := (true, "49b435588926e69d69a91469907aa4fd29258bdf4f020cbff3d9ba195aae3a4b"), looks := true }, kinds := [], alts := [], laidByText := true, laidKinds := [.handle], laidTests := true, laidLooks := .later }
def CausePlaysUptoCardSaid : Prop := Claim7.holds Tryd.pinned (.plain (OpenSpec.upto causePlaysSpec)) causePlaysUptoCard

/-- THE SECOND FORM's CARD OF 'mootlaw1.NetKeeps'. -/
def netKeepsUptoCard : Claim7 := { stood := { row := netKeepsUptoRow, standIns := [], harness := (true, "49b435588926e69d69a91469907aa4fd29258bdf4f020cbff3d9ba195aae3a4b"), looks := true }, kinds := [], alts := [], laidByText := true, laidKinds := [.handle], laidTests := true, laidLooks := .later }
def NetKeepsUptoCardSaid : Prop := Claim7.holds Tryd.pinned (.plain (OpenSpec.upto netKeepsSpec)) netKeepsUptoCard

/-- THE SECOND FORM's CARD OF 'mootlaw4.NetFull'. -/
def netFullUptoCard : Claim7 := { stood := { row := netFullUptoRow, standIns := [], harness := (true, "49b435588926e69d69a91469907aa4fd29258bdf4f020cbff3d9ba195aae3a4b"), looks := true }, kinds := [], alts := [], laidByText := true, laidKinds := [.handle], laidTests := true, laidLooks := .later }
def NetFullUptoCardSaid : Prop := Claim7.holds Tryd.pinned (.plain (OpenSpec.upto netFullSpec)) netFullUptoCard

/-- THE SECOND FORM's CARD OF 'mootlaw1.NetPlays'. -/
def netPlaysUptoCard : Claim7 := { stood := { row := netPlaysUptoRow, standIns := [], harness := (true, "49b435588926e69d69a91469907aa4fd29258bdf4f020cbff3d9ba195aae3a4b"), looks := true }, kinds := [], alts := [], laidByText := true, laidKinds := [.handle], laidTests := true, laidLooks := .later }
def NetPlaysUptoCardSaid : Prop := Claim7.holds Tryd.pinned (.plain (OpenSpec.upto netPlaysSpec)) netPlaysUptoCard

/-- THE SECOND FORM's CARD OF 'mootlaw4.CastAll'. -/
def castAllUptoCard : Claim7 := { stood := { row := castAllUptoRow, standIns := [], harness := (true, "49b435588926e69d69a91469907aa4fd29258bdf4f020cbff3d9ba195aae3a4b"), looks := true }, kinds := [], alts := [], laidByText := true, laidKinds := [.handle], laidTests := true, laidLooks := .later }
def CastAllUptoCardSaid : Prop := Claim7.holds Tryd.pinned (.plain (OpenSpec.upto castAllSpec)) castAllUptoCard
end Rows
end Go.Proofs.YtgnffanlgmbieadDoor
