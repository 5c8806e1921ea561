/-
  DERIVED. GIVEN WITH THE SEED: THE CARDS: each row of YtdmniblonikjlakGreatDoorRows.lean that lists a variable, with what it lists TIED to the program's text (the seventh form; the later family's looks); each row that meets fmt, with fmt's text TOLD by the authors' own Lean function (tested against real Go, not proved from fmt's source: count such statements apart). THE CARD IS WHAT COUNTS. Prove the row's statement (the work); the ties are given (YtdmniblonikjlakGreatDoorTie.lean); close each card by the builder's one call (the guide's Derived/Test/ToyasCard.lean, 'card_holds'). Laid BY PROGRAM, IN A SANDBOX (cutbox-door.mjs). By AI agents, Wed Nov 11 2026. No macro, syntax, notation, axiom, sorry.
-/
import Derived.Test.YtdmniblonikjlakGreatDoorRows
import GoSem.ClaimSeven
namespace Go.Proofs.YtdmniblonikjlakGreatDoor
namespace Rows

/-- THE TIED CARD OF 'moottop.TopCast'. -/
def topCastCard : Claim7 := { stood := { row := topCastRow, standIns := [], harness := (true, "dc073895561529e10fdac1fa38e568331a262048e87730356af25c657178e9ee"), looks := true }, kinds := [], alts := [], laidByText := true, laidKinds := [.handle], laidTests := true, laidLooks := .later }
def TopCastCardSaid : Prop := Claim7.holds Tryz.pinned (.plain (OpenSpec.ofChange topCastSpec)) topCastCard

/-- THE TIED CARD OF 'mootlaw3.RunAnswers'. -/
def runAnswersCard : Claim7 := { stood := { row := runAnswersRow, standIns := [], harness := (true, "dc073895561529e10fdac1fa38e568331a262048e87730356af25c657178e9ee"), looks := true }, kinds := [], alts := [], laidByText := true, laidKinds := [.data, .data, .data, .data, .handle, .sentinel, .sentinel, .pinned], laidTests := true, laidLooks := .later }
def RunAnswersCardSaid : Prop := Claim7.holds Tryz.pinned (.plain (OpenSpec.ofChange runAnswersSpec)) runAnswersCard

/-- THE TIED CARD OF 'mootlaw3.RunBegins'. -/
def runBeginsCard : Claim7 := { stood := { row := runBeginsRow, standIns := [], harness := (true, "dc073895561529e10fdac1fa38e568331a262048e87730356af25c657178e9ee"), looks := true }, kinds := [], alts := [], laidByText := true, laidKinds := [.data, .data, .data, .data, .handle, .sentinel, .sentinel, .pinned], laidTests := true, laidLooks := .later }
def RunBeginsCardSaid : Prop := Claim7.holds Tryz.pinned (.plain (OpenSpec.ofChange runBeginsSpec)) runBeginsCard

/-- THE TIED CARD OF 'mootlaw3.RunCausal'. -/
def runCausalCard : Claim7 := { stood := { row := runCausalRow, standIns := [], harness := (true, "dc073895561529e10fdac1fa38e568331a262048e87730356af25c657178e9ee"), looks := true }, kinds := [], alts := [], laidByText := true, laidKinds := [.data, .data, .data, .data, .handle, .sentinel, .sentinel, .pinned], laidTests := true, laidLooks := .later }
def RunCausalCardSaid : Prop := Claim7.holds Tryz.pinned (.plain (OpenSpec.ofChange runCausalSpec)) runCausalCard

/-- THE SECOND FORM's CARD OF 'moottop.TopCast'. -/
def topCastUptoCard : Claim7 := { stood := { row := topCastUptoRow, standIns := [], harness := (true, "dc073895561529e10fdac1fa38e568331a262048e87730356af25c657178e9ee"), looks := true }, kinds := [], alts := [], laidByText := true, laidKinds := [.handle], laidTests := true, laidLooks := .later }
def TopCastUptoCardSaid : Prop := Claim7.holds Tryz.pinned (.plain (OpenSpec.upto topCastSpec)) topCastUptoCard

/-- THE SECOND FORM's CARD OF 'mootlaw3.RunAnswers'. -/
def runAnswersUptoCard : Claim7 := { stood := { row := runAnswersUptoRow, standIns := [], harness := (true, "dc073895561529e10fdac1fa38e568331a262048e87730356af25c657178e9ee"), looks := true }, kinds := [], alts := [], laidByText := true, laidKinds := [.data, .data, .data, .data, .handle, .sentinel, .sentinel, .pinned], laidTests := true, laidLooks := .later }
def RunAnswersUptoCardSaid : Prop := Claim7.holds Tryz.pinned (.plain (OpenSpec.upto runAnswersSpec)) runAnswersUptoCard

/-- THE SECOND FORM's CARD OF 'mootlaw3.RunBegins'. -/
def runBeginsUptoCard : Claim7 := { stood := { row := runBeginsUptoRow, standIns := [], harness := (true, "dc073895561529e10fdac1fa38e568331a262048e87730356af25c657178e9ee"), looks := true }, kinds := [], alts := [], laidByText := true, laidKinds := [.data, .data, .data, .data, .handle, .sentinel, .sentinel, .pinned], laidTests := true, laidLooks := .later }
def RunBeginsUptoCardSaid : Prop := Claim7.holds Tryz.pinned (.plain (OpenSpec.upto runBeginsSpec)) runBeginsUptoCard

/-- THE SECOND FORM's CARD OF 'mootlaw3.RunCausal'. -/
def runCausalUptoCard : Claim7 := { stood := { row := runCausalUptoRow, standIns := [], harness := (true, "dc073895561529e10fdac1fa38e568331a262048e87730356af25c657178e9ee"), looks := true }, kinds := [], alts := [], laidByText := true, laidKinds := [.data, .data, .data, .data, .handle, .sentinel, .sentinel, .pinned], laidTests := true, laidLooks := .later }
def RunCausalUptoCardSaid : Prop := Claim7.holds Tryz.pinned (.plain (OpenSpec.upto runCausalSpec)) runCausalUptoCard
end Rows
end Go.Proofs.YtdmniblonikjlakGreatDoor
