/-
  DERIVED. GIVEN WITH THE SEED: THE CARDS: each row of YtdfbjmkmiaembaaGreatDoorRows.lean that lists a variable, with what it lists TIED to the program's text (the seventh form; the later family's looks); each row that meets fmt, with fmt's text TOLD by the authors' own Lean function (tested against real Go, not proved from fmt's source: count such statements apart). THE CARD IS WHAT COUNTS. Prove the row's statement (the work); the ties are given (YtdfbjmkmiaembaaGreatDoorTie.lean); close each card by the builder's one call (the guide's Derived/Test/ToyasCard.lean, 'card_holds'). Laid BY PROGRAM, IN A SANDBOX (cutbox-door.mjs). By AI agents, Wed Nov 11 2026. No macro, syntax, notation, axiom, sorry.
-/
import Derived.Test.YtdfbjmkmiaembaaGreatDoorRows
import GoSem.ClaimSeven
namespace Go.Proofs.YtdfbjmkmiaembaaGreatDoor
namespace Rows

/-- THE TIED CARD OF 'changelinglaw18.IdealKnown'. -/
def idealKnownCard : Claim7 := { stood := { row := idealKnownRow, standIns := [], harness := (true, "ea5639fe76190c5f4ac3c28ae55be6dbdb83723a8b1cb4c2ecdea594c7ba17d4"), looks := true }, kinds := [], alts := [], laidByText := true, laidKinds := [.data, .data, .data, .pinned], laidTests := true, laidLooks := .later }
def IdealKnownCardSaid : Prop := Claim7.holds Tryz.pinned (.plain (OpenSpec.ofChange idealKnownSpec)) idealKnownCard

/-- THE TIED CARD OF 'changelinglaw18.IdealFeeds'. -/
def idealFeedsCard : Claim7 := { stood := { row := idealFeedsRow, standIns := [], harness := (true, "ea5639fe76190c5f4ac3c28ae55be6dbdb83723a8b1cb4c2ecdea594c7ba17d4"), looks := true }, kinds := [], alts := [], laidByText := true, laidKinds := [.data, .data, .data, .pinned], laidTests := true, laidLooks := .later }
def IdealFeedsCardSaid : Prop := Claim7.holds Tryz.pinned (.plain (OpenSpec.ofChange idealFeedsSpec)) idealFeedsCard

/-- THE TIED CARD OF 'changelinglaw18.IdealFits'. -/
def idealFitsCard : Claim7 := { stood := { row := idealFitsRow, standIns := [], harness := (true, "ea5639fe76190c5f4ac3c28ae55be6dbdb83723a8b1cb4c2ecdea594c7ba17d4"), looks := true }, kinds := [], alts := [], laidByText := true, laidKinds := [.data, .data, .data, .pinned], laidTests := true, laidLooks := .later }
def IdealFitsCardSaid : Prop := Claim7.holds Tryz.pinned (.plain (OpenSpec.ofChange idealFitsSpec)) idealFitsCard

/-- THE TIED CARD OF 'changelinglaw18.IdealGoes'. -/
def idealGoesCard : Claim7 := { stood := { row := idealGoesRow, standIns := [], harness := (true, "ea5639fe76190c5f4ac3c28ae55be6dbdb83723a8b1cb4c2ecdea594c7ba17d4"), looks := true }, kinds := [], alts := [], laidByText := true, laidKinds := [.data, .data, .data, .pinned], laidTests := true, laidLooks := .later }
def IdealGoesCardSaid : Prop := Claim7.holds Tryz.pinned (.plain (OpenSpec.ofChange idealGoesSpec)) idealGoesCard

/-- THE TIED CARD OF 'changelinglaw18.IdealPar'. -/
def idealParCard : Claim7 := { stood := { row := idealParRow, standIns := [], harness := (true, "ea5639fe76190c5f4ac3c28ae55be6dbdb83723a8b1cb4c2ecdea594c7ba17d4"), looks := true }, kinds := [], alts := [], laidByText := true, laidKinds := [.data, .data, .data, .pinned], laidTests := true, laidLooks := .later }
def IdealParCardSaid : Prop := Claim7.holds Tryz.pinned (.plain (OpenSpec.ofChange idealParSpec)) idealParCard

/-- THE TIED CARD OF 'changelinglaw18.IdealOwn'. -/
def idealOwnCard : Claim7 := { stood := { row := idealOwnRow, standIns := [], harness := (true, "ea5639fe76190c5f4ac3c28ae55be6dbdb83723a8b1cb4c2ecdea594c7ba17d4"), looks := true }, kinds := [], alts := [], laidByText := true, laidKinds := [.data, .data, .data, .pinned], laidTests := true, laidLooks := .later }
def IdealOwnCardSaid : Prop := Claim7.holds Tryz.pinned (.plain (OpenSpec.ofChange idealOwnSpec)) idealOwnCard

/-- THE TIED CARD OF 'changelinglaw18.IdealRises'. -/
def idealRisesCard : Claim7 := { stood := { row := idealRisesRow, standIns := [], harness := (true, "ea5639fe76190c5f4ac3c28ae55be6dbdb83723a8b1cb4c2ecdea594c7ba17d4"), looks := true }, kinds := [], alts := [], laidByText := true, laidKinds := [.data, .data, .data, .pinned], laidTests := true, laidLooks := .later }
def IdealRisesCardSaid : Prop := Claim7.holds Tryz.pinned (.plain (OpenSpec.ofChange idealRisesSpec)) idealRisesCard

/-- THE SECOND FORM's CARD OF 'changelinglaw18.IdealKnown'. -/
def idealKnownUptoCard : Claim7 := { stood := { row := idealKnownUptoRow, standIns := [], harness := (true, "ea5639fe76190c5f4ac3c28ae55be6dbdb83723a8b1cb4c2ecdea594c7ba17d4"), looks := true }, kinds := [], alts := [], laidByText := true, laidKinds := [.data, .data, .data, .pinned], laidTests := true, laidLooks := .later }
def IdealKnownUptoCardSaid : Prop := Claim7.holds Tryz.pinned (.plain (OpenSpec.upto idealKnownSpec)) idealKnownUptoCard

/-- THE SECOND FORM's CARD OF 'changelinglaw18.IdealFeeds'. -/
def idealFeedsUptoCard : Claim7 := { stood := { row := idealFeedsUptoRow, standIns := [], harness := (true, "ea5639fe76190c5f4ac3c28ae55be6dbdb83723a8b1cb4c2ecdea594c7ba17d4"), looks := true }, kinds := [], alts := [], laidByText := true, laidKinds := [.data, .data, .data, .pinned], laidTests := true, laidLooks := .later }
def IdealFeedsUptoCardSaid : Prop := Claim7.holds Tryz.pinned (.plain (OpenSpec.upto idealFeedsSpec)) idealFeedsUptoCard

/-- THE SECOND FORM's CARD OF 'changelinglaw18.IdealFits'. -/
def idealFitsUptoCard : Claim7 := { stood := { row := idealFitsUptoRow, standIns := [], harness := (true, "ea5639fe76190c5f4ac3c28ae55be6dbdb83723a8b1cb4c2ecdea594c7ba17d4"), looks := true }, kinds := [], alts := [], laidByText := true, laidKinds := [.data, .data, .data, .pinned], laidTests := true, laidLooks := .later }
def IdealFitsUptoCardSaid : Prop := Claim7.holds Tryz.pinned (.plain (OpenSpec.upto idealFitsSpec)) idealFitsUptoCard

/-- THE SECOND FORM's CARD OF 'changelinglaw18.IdealGoes'. -/
def idealGoesUptoCard : Claim7 := { stood := { row := idealGoesUptoRow, standIns := [], harness := (true, "ea5639fe76190c5f4ac3c28ae55be6dbdb83723a8b1cb4c2ecdea594c7ba17d4"), looks := true }, kinds := [], alts := [], laidByText := true, laidKinds := [.data, .data, .data, .pinned], laidTests := true, laidLooks := .later }
def IdealGoesUptoCardSaid : Prop := Claim7.holds Tryz.pinned (.plain (OpenSpec.upto idealGoesSpec)) idealGoesUptoCard

/-- THE SECOND FORM's CARD OF 'changelinglaw18.IdealPar'. -/
def idealParUptoCard : Claim7 := { stood := { row := idealParUptoRow, standIns := [], harness := (true, "ea5639fe76190c5f4ac3c28ae55be6dbdb83723a8b1cb4c2ecdea594c7ba17d4"), looks := true }, kinds := [], alts := [], laidByText := true, laidKinds := [.data, .data, .data, .pinned], laidTests := true, laidLooks := .later }
def IdealParUptoCardSaid : Prop := Claim7.holds Tryz.pinned (.plain (OpenSpec.upto idealParSpec)) idealParUptoCard

/-- THE SECOND FORM's CARD OF 'changelinglaw18.IdealOwn'. -/
def idealOwnUptoCard : Claim7 := { stood := { row := idealOwnUptoRow, standIns := [], harness := (true, "ea5639fe76190c5f4ac3c28ae55be6dbdb83723a8b1cb4c2ecdea594c7ba17d4"), looks := true }, kinds := [], alts := [], laidByText := true, laidKinds := [.data, .data, .data, .pinned], laidTests := true, laidLooks := .later }
def IdealOwnUptoCardSaid : Prop := Claim7.holds Tryz.pinned (.plain (OpenSpec.upto idealOwnSpec)) idealOwnUptoCard

/-- THE SECOND FORM's CARD OF 'changelinglaw18.IdealRises'. -/
def idealRisesUptoCard : Claim7 := { stood := { row := idealRisesUptoRow, standIns := [], harness := (true, "ea5639fe76190c5f4ac3c28ae55be6dbdb83723a8b1cb4c2ecdea594c7ba17d4"), looks := true }, kinds := [], alts := [], laidByText := true, laidKinds := [.data, .data, .data, .pinned], laidTests := true, laidLooks := .later }
def IdealRisesUptoCardSaid : Prop := Claim7.holds Tryz.pinned (.plain (OpenSpec.upto idealRisesSpec)) idealRisesUptoCard
end Rows
end Go.Proofs.YtdfbjmkmiaembaaGreatDoor
