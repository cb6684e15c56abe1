/-
  DERIVED. GIVEN WITH THE SEED: THE CARDS: each row of YtjmfneljgogohaaDoorRows.lean that lists a variable, with what it lists TIED to the program's text (the seventh form; the later family's looks); each row that meets fmt, with fmt's text TOLD by the authors' own Lean function (tested against real Go, not proved from fmt's source: count such statements apart). THE CARD IS WHAT COUNTS. Prove the row's statement (the work); the ties are given (YtjmfneljgogohaaDoorTie.lean); close each card by the builder's one call (the guide's Derived/Test/ToyasCard.lean, 'card_holds'). Laid BY PROGRAM, IN A SANDBOX (cutbox-door.mjs). By AI agents, Wed Nov 11 2026. No macro, syntax, notation, axiom, sorry.
-/
import Derived.Test.YtjmfneljgogohaaDoorRows
import GoSem.ClaimSeven
namespace Go.Proofs.YtjmfneljgogohaaDoor
namespace Rows

/-- THE TIED CARD OF 'changelinglaw12.JobKnown'. -/
def jobKnownCard : Claim7 := { stood := { row := jobKnownRow, standIns := [], harness := (true, "f34e97c7233a0b7c379b59eac3d57c7bfb16fbe846fa4820a070022b96cf1c67"), looks := false }, kinds := [], alts := [], laidByText := true, laidKinds := [.data], laidTests := true, laidLooks := .later }
def JobKnownCardSaid : Prop := Claim7.holds Tryd.pinned (.plain (OpenSpec.ofChange jobKnownSpec)) jobKnownCard

/-- THE TIED CARD OF 'changelinglaw12.JobSame'. -/
def jobSameCard : Claim7 := { stood := { row := jobSameRow, standIns := [], harness := (true, "f34e97c7233a0b7c379b59eac3d57c7bfb16fbe846fa4820a070022b96cf1c67"), looks := false }, kinds := [], alts := [], laidByText := true, laidKinds := [.data], laidTests := true, laidLooks := .later }
def JobSameCardSaid : Prop := Claim7.holds Tryd.pinned (.plain (OpenSpec.ofChange jobSameSpec)) jobSameCard

/-- THE TIED CARD OF 'changelinglaw12.JobWhole'. -/
def jobWholeCard : Claim7 := { stood := { row := jobWholeRow, standIns := [], harness := (true, "f34e97c7233a0b7c379b59eac3d57c7bfb16fbe846fa4820a070022b96cf1c67"), looks := false }, kinds := [], alts := [], laidByText := true, laidKinds := [.data], laidTests := true, laidLooks := .later }
def JobWholeCardSaid : Prop := Claim7.holds Tryd.pinned (.plain (OpenSpec.ofChange jobWholeSpec)) jobWholeCard

/-- THE TIED CARD OF 'changelinglaw12.JobCounts'. -/
def jobCountsCard : Claim7 := { stood := { row := jobCountsRow, standIns := [], harness := (true, "f34e97c7233a0b7c379b59eac3d57c7bfb16fbe846fa4820a070022b96cf1c67"), looks := false }, kinds := [], alts := [], laidByText := true, laidKinds := [.data], laidTests := true, laidLooks := .later }
def JobCountsCardSaid : Prop := Claim7.holds Tryd.pinned (.plain (OpenSpec.ofChange jobCountsSpec)) jobCountsCard

/-- THE TIED CARD OF 'changelinglaw12.JobPars'. -/
def jobParsCard : Claim7 := { stood := { row := jobParsRow, standIns := [], harness := (true, "f34e97c7233a0b7c379b59eac3d57c7bfb16fbe846fa4820a070022b96cf1c67"), looks := false }, kinds := [], alts := [], laidByText := true, laidKinds := [.data], laidTests := true, laidLooks := .later }
def JobParsCardSaid : Prop := Claim7.holds Tryd.pinned (.plain (OpenSpec.ofChange jobParsSpec)) jobParsCard

/-- THE SECOND FORM's CARD OF 'changelinglaw12.JobKnown'. -/
def jobKnownUptoCard : Claim7 := { stood := { row := jobKnownUptoRow, standIns := [], harness := (true, "f34e97c7233a0b7c379b59eac3d57c7bfb16fbe846fa4820a070022b96cf1c67"), looks := false }, kinds := [], alts := [], laidByText := true, laidKinds := [.data], laidTests := true, laidLooks := .later }
def JobKnownUptoCardSaid : Prop := Claim7.holds Tryd.pinned (.plain (OpenSpec.upto jobKnownSpec)) jobKnownUptoCard

/-- THE SECOND FORM's CARD OF 'changelinglaw12.JobSame'. -/
def jobSameUptoCard : Claim7 := { stood := { row := jobSameUptoRow, standIns := [], harness := (true, "f34e97c7233a0b7c379b59eac3d57c7bfb16fbe846fa4820a070022b96cf1c67"), looks := false }, kinds := [], alts := [], laidByText := true, laidKinds := [.data], laidTests := true, laidLooks := .later }
def JobSameUptoCardSaid : Prop := Claim7.holds Tryd.pinned (.plain (OpenSpec.upto jobSameSpec)) jobSameUptoCard

/-- THE SECOND FORM's CARD OF 'changelinglaw12.JobWhole'. -/
def jobWholeUptoCard : Claim7 := { stood := { row := jobWholeUptoRow, standIns := [], harness := (true, "f34e97c7233a0b7c379b59eac3d57c7bfb16fbe846fa4820a070022b96cf1c67"), looks := false }, kinds := [], alts := [], laidByText := true, laidKinds := [.data], laidTests := true, laidLooks := .later }
def JobWholeUptoCardSaid : Prop := Claim7.holds Tryd.pinned (.plain (OpenSpec.upto jobWholeSpec)) jobWholeUptoCard

/-- THE SECOND FORM's CARD OF 'changelinglaw12.JobCounts'. -/
def jobCountsUptoCard : Claim7 := { stood := { row := jobCountsUptoRow, standIns := [], harness := (true, "f34e97c7233a0b7c379b59eac3d57c7bfb16fbe846fa4820a070022b96cf1c67"), looks := false }, kinds := [], alts := [], laidByText := true, laidKinds := [.data], laidTests := true, laidLooks := .later }
def JobCountsUptoCardSaid : Prop := Claim7.holds Tryd.pinned (.plain (OpenSpec.upto jobCountsSpec)) jobCountsUptoCard

/-- THE SECOND FORM's CARD OF 'changelinglaw12.JobPars'. -/
def jobParsUptoCard : Claim7 := { stood := { row := jobParsUptoRow, standIns := [], harness := (true, "f34e97c7233a0b7c379b59eac3d57c7bfb16fbe846fa4820a070022b96cf1c67"), looks := false }, kinds := [], alts := [], laidByText := true, laidKinds := [.data], laidTests := true, laidLooks := .later }
def JobParsUptoCardSaid : Prop := Claim7.holds Tryd.pinned (.plain (OpenSpec.upto jobParsSpec)) jobParsUptoCard
end Rows
end Go.Proofs.YtjmfneljgogohaaDoor
