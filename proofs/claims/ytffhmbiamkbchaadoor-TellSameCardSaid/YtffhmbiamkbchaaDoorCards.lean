/-
  DERIVED. GIVEN WITH THE SEED: THE CARDS: each row of YtffhmbiamkbchaaDoorRows.lean that lists a variable, with what it lists TIED to the program's text (the seventh form; the later family's looks); each row that meets fmt, with fmt's text TOLD by the authors' own Lean function (tested against real Go, not proved from fmt's source: count such statements apart). THE CARD IS WHAT COUNTS. Prove the row's statement (the work); the ties are given (YtffhmbiamkbchaaDoorTie.lean); close each card by the builder's one call (the guide's Derived/Test/ToyasCard.lean, 'card_holds'). Laid BY PROGRAM, IN A SANDBOX (cutbox-door.mjs). By AI agents, Wed Nov 11 2026. No macro, syntax, notation, axiom, sorry.
-/
import Derived.Test.YtffhmbiamkbchaaDoorRows
import GoSem.ClaimSeven
namespace Go.Proofs.YtffhmbiamkbchaaDoor
namespace Rows

/-- THE TIED CARD OF 'changelinglaw11.TellKnown'. -/
def tellKnownCard : Claim7 := { stood := { row := tellKnownRow, standIns := [], harness := (true, "0d10a75f62eb27473ceab643963a41fca016f561b5cae2598a5a2d390c8c213b"), looks := false }, kinds := [], alts := [], laidByText := true, laidKinds := [.data, .data, .data], laidTests := true, laidLooks := .later }
def TellKnownCardSaid : Prop := Claim7.holds Tryd.pinned (.plain (OpenSpec.ofChange tellKnownSpec)) tellKnownCard

/-- THE TIED CARD OF 'changelinglaw11.TellLines'. -/
def tellLinesCard : Claim7 := { stood := { row := tellLinesRow, standIns := [], harness := (true, "0d10a75f62eb27473ceab643963a41fca016f561b5cae2598a5a2d390c8c213b"), looks := false }, kinds := [], alts := [], laidByText := true, laidKinds := [.data, .data, .data], laidTests := true, laidLooks := .later }
def TellLinesCardSaid : Prop := Claim7.holds Tryd.pinned (.plain (OpenSpec.ofChange tellLinesSpec)) tellLinesCard

/-- THE TIED CARD OF 'changelinglaw11.TellSame'. -/
def tellSameCard : Claim7 := { stood := { row := tellSameRow, standIns := [], harness := (true, "0d10a75f62eb27473ceab643963a41fca016f561b5cae2598a5a2d390c8c213b"), looks := false }, kinds := [], alts := [], laidByText := true, laidKinds := [.data, .data, .data], laidTests := true, laidLooks := .later }
def TellSameCardSaid : Prop := Claim7.holds Tryd.pinned (.plain (OpenSpec.ofChange tellSameSpec)) tellSameCard

/-- THE TIED CARD OF 'changelinglaw11.TellBack'. -/
def tellBackCard : Claim7 := { stood := { row := tellBackRow, standIns := [], harness := (true, "0d10a75f62eb27473ceab643963a41fca016f561b5cae2598a5a2d390c8c213b"), looks := false }, kinds := [], alts := [], laidByText := true, laidKinds := [.data, .data, .data], laidTests := true, laidLooks := .later }
def TellBackCardSaid : Prop := Claim7.holds Tryd.pinned (.plain (OpenSpec.ofChange tellBackSpec)) tellBackCard

/-- THE TIED CARD OF 'changelinglaw11.TellTwice'. -/
def tellTwiceCard : Claim7 := { stood := { row := tellTwiceRow, standIns := [], harness := (true, "0d10a75f62eb27473ceab643963a41fca016f561b5cae2598a5a2d390c8c213b"), looks := false }, kinds := [], alts := [], laidByText := true, laidKinds := [.data, .data, .data], laidTests := true, laidLooks := .later }
def TellTwiceCardSaid : Prop := Claim7.holds Tryd.pinned (.plain (OpenSpec.ofChange tellTwiceSpec)) tellTwiceCard

/-- THE SECOND FORM's CARD OF 'changelinglaw11.TellKnown'. -/
def tellKnownUptoCard : Claim7 := { stood := { row := tellKnownUptoRow, standIns := [], harness := (true, "0d10a75f62eb27473ceab643963a41fca016f561b5cae2598a5a2d390c8c213b"), looks := false }, kinds := [], alts := [], laidByText := true, laidKinds := [.data, .data, .data], laidTests := true, laidLooks := .later }
def TellKnownUptoCardSaid : Prop := Claim7.holds Tryd.pinned (.plain (OpenSpec.upto tellKnownSpec)) tellKnownUptoCard

/-- THE SECOND FORM's CARD OF 'changelinglaw11.TellLines'. -/
def tellLinesUptoCard : Claim7 := { stood := { row := tellLinesUptoRow, standIns := [], harness := (true, "0d10a75f62eb27473ceab643963a41fca016f561b5cae2598a5a2d390c8c213b"), looks := false }, kinds := [], alts := [], laidByText := true, laidKinds := [.data, .data, .data], laidTests := true, laidLooks := .later }
def TellLinesUptoCardSaid : Prop := Claim7.holds Tryd.pinned (.plain (OpenSpec.upto tellLinesSpec)) tellLinesUptoCard

/-- THE SECOND FORM's CARD OF 'changelinglaw11.TellSame'. -/
def tellSameUptoCard : Claim7 := { stood := { row := tellSameUptoRow, standIns := [], harness := (true, "0d10a75f62eb27473ceab643963a41fca016f561b5cae2598a5a2d390c8c213b"), looks := false }, kinds := [], alts := [], laidByText := true, laidKinds := [.data, .data, .data], laidTests := true, laidLooks := .later }
def TellSameUptoCardSaid : Prop := Claim7.holds Tryd.pinned (.plain (OpenSpec.upto tellSameSpec)) tellSameUptoCard

/-- THE SECOND FORM's CARD OF 'changelinglaw11.TellBack'. -/
def tellBackUptoCard : Claim7 := { stood := { row := tellBackUptoRow, standIns := [], harness := (true, "0d10a75f62eb27473ceab643963a41fca016f561b5cae2598a5a2d390c8c213b"), looks := false }, kinds := [], alts := [], laidByText := true, laidKinds := [.data, .data, .data], laidTests := true, laidLooks := .later }
def TellBackUptoCardSaid : Prop := Claim7.holds Tryd.pinned (.plain (OpenSpec.upto tellBackSpec)) tellBackUptoCard

/-- THE SECOND FORM's CARD OF 'changelinglaw11.TellTwice'. -/
def tellTwiceUptoCard : Claim7 := { stood := { row := tellTwiceUptoRow, standIns := [], harness := (true, "0d10a75f62eb27473ceab643963a41fca016f561b5cae2598a5a2d390c8c213b"), looks := false }, kinds := [], alts := [], laidByText := true, laidKinds := [.data, .data, .data], laidTests := true, laidLooks := .later }
def TellTwiceUptoCardSaid : Prop := Claim7.holds Tryd.pinned (.plain (OpenSpec.upto tellTwiceSpec)) tellTwiceUptoCard
end Rows
end Go.Proofs.YtffhmbiamkbchaaDoor
