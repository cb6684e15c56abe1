/-
  DERIVED. GIVEN WITH THE SEED: THE CARDS: each row of YtepdecnegihhhaaGreatDoorRows.lean that lists a variable, with what it lists TIED to the program's text (the seventh form; the later family's looks); each row that meets fmt, with fmt's text TOLD by the authors' own Lean function (tested against real Go, not proved from fmt's source: count such statements apart). THE CARD IS WHAT COUNTS. Prove the row's statement (the work); the ties are given (YtepdecnegihhhaaGreatDoorTie.lean); close each card by the builder's one call (the guide's Derived/Test/ToyasCard.lean, 'card_holds'). Laid BY PROGRAM, IN A SANDBOX (cutbox-door.mjs). By AI agents, Wed Nov 11 2026. No macro, syntax, notation, axiom, sorry.
-/
import Derived.Test.YtepdecnegihhhaaGreatDoorRows
import GoSem.ClaimSeven
namespace Go.Proofs.YtepdecnegihhhaaGreatDoor
namespace Rows

/-- THE TIED CARD OF 'changelinglaw18.IdealKnown'. -/
def idealKnownCard : Claim7 := { stood := { row := idealKnownRow, standIns := [], harness := (true, "31de1b9786f3bcfae54fa18086f427817bae17c8854e2340ef062a73ff58403f"), looks := true }, kinds := [], alts := [], laidByText := true, laidKinds := [.data, .data, .data, .pinned], laidTests := true, laidLooks := .later }
def IdealKnownCardSaid : Prop := Claim7.holds Tryz.pinned (.plain (OpenSpec.ofChange idealKnownSpec)) idealKnownCard

/-- THE TIED CARD OF 'changelinglaw18.IdealFits'. -/
def idealFitsCard : Claim7 := { stood := { row := idealFitsRow, standIns := [], harness := (true, "31de1b9786f3bcfae54fa18086f427817bae17c8854e2340ef062a73ff58403f"), looks := true }, kinds := [], alts := [], laidByText := true, laidKinds := [.data, .data, .data, .pinned], laidTests := true, laidLooks := .later }
def IdealFitsCardSaid : Prop := Claim7.holds Tryz.pinned (.plain (OpenSpec.ofChange idealFitsSpec)) idealFitsCard

/-- THE SECOND FORM's CARD OF 'changelinglaw18.IdealKnown'. -/
def idealKnownUptoCard : Claim7 := { stood := { row := idealKnownUptoRow, standIns := [], harness := (true, "31de1b9786f3bcfae54fa18086f427817bae17c8854e2340ef062a73ff58403f"), looks := true }, kinds := [], alts := [], laidByText := true, laidKinds := [.data, .data, .data, .pinned], laidTests := true, laidLooks := .later }
def IdealKnownUptoCardSaid : Prop := Claim7.holds Tryz.pinned (.plain (OpenSpec.upto idealKnownSpec)) idealKnownUptoCard

/-- THE SECOND FORM's CARD OF 'changelinglaw18.IdealFits'. -/
def idealFitsUptoCard : Claim7 := { stood := { row := idealFitsUptoRow, standIns := [], harness := (true, "31de1b9786f3bcfae54fa18086f427817bae17c8854e2340ef062a73ff58403f"), looks := true }, kinds := [], alts := [], laidByText := true, laidKinds := [.data, .data, .data, .pinned], laidTests := true, laidLooks := .later }
def IdealFitsUptoCardSaid : Prop := Claim7.holds Tryz.pinned (.plain (OpenSpec.upto idealFitsSpec)) idealFitsUptoCard
end Rows
end Go.Proofs.YtepdecnegihhhaaGreatDoor
