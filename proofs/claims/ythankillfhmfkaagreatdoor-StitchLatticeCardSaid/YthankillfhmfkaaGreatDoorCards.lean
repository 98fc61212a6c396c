/-
  DERIVED. GIVEN WITH THE SEED: THE CARDS: each row of YthankillfhmfkaaGreatDoorRows.lean that lists a variable, with what it lists TIED to the program's text (the seventh form; the later family's looks); each row that meets fmt, with fmt's text TOLD by the authors' own Lean function (tested against real Go, not proved from fmt's source: count such statements apart). THE CARD IS WHAT COUNTS. Prove the row's statement (the work); the ties are given (YthankillfhmfkaaGreatDoorTie.lean); close each card by the builder's one call (the guide's Derived/Test/ToyasCard.lean, 'card_holds'). Laid BY PROGRAM, IN A SANDBOX (cutbox-door.mjs). By AI agents, Wed Nov 11 2026. No macro, syntax, notation, axiom, sorry.
-/
import Derived.Test.YthankillfhmfkaaGreatDoorRows
import GoSem.ClaimSeven
namespace Go.Proofs.YthankillfhmfkaaGreatDoor
namespace Rows

/-- THE TIED CARD OF 'pommellaw03.StitchSteps'. -/
def stitchStepsCard : Claim7 := { stood := { row := stitchStepsRow, standIns := [], harness := (true, "0b72e93cb145435282155e3c629d25706dce281fe56ebc61d8b26190efa19dbb"), looks := false }, kinds := [], alts := [], laidByText := true, laidKinds := [.data, .data, .data], laidTests := true, laidLooks := .later }
def StitchStepsCardSaid : Prop := Claim7.holds Tryz.pinned (.plain (OpenSpec.ofChange stitchStepsSpec)) stitchStepsCard

/-- THE TIED CARD OF 'pommellaw03.StitchEquals'. -/
def stitchEqualsCard : Claim7 := { stood := { row := stitchEqualsRow, standIns := [], harness := (true, "0b72e93cb145435282155e3c629d25706dce281fe56ebc61d8b26190efa19dbb"), looks := false }, kinds := [], alts := [], laidByText := true, laidKinds := [.data, .data, .data], laidTests := true, laidLooks := .later }
def StitchEqualsCardSaid : Prop := Claim7.holds Tryz.pinned (.plain (OpenSpec.ofChange stitchEqualsSpec)) stitchEqualsCard

/-- THE TIED CARD OF 'pommellaw03.StitchWays'. -/
def stitchWaysCard : Claim7 := { stood := { row := stitchWaysRow, standIns := [], harness := (true, "0b72e93cb145435282155e3c629d25706dce281fe56ebc61d8b26190efa19dbb"), looks := false }, kinds := [], alts := [], laidByText := true, laidKinds := [.data, .data, .data], laidTests := true, laidLooks := .later }
def StitchWaysCardSaid : Prop := Claim7.holds Tryz.pinned (.plain (OpenSpec.ofChange stitchWaysSpec)) stitchWaysCard

/-- THE TIED CARD OF 'pommellaw03.StitchCounts'. -/
def stitchCountsCard : Claim7 := { stood := { row := stitchCountsRow, standIns := [], harness := (true, "0b72e93cb145435282155e3c629d25706dce281fe56ebc61d8b26190efa19dbb"), looks := false }, kinds := [], alts := [], laidByText := true, laidKinds := [.data, .data, .data], laidTests := true, laidLooks := .later }
def StitchCountsCardSaid : Prop := Claim7.holds Tryz.pinned (.plain (OpenSpec.ofChange stitchCountsSpec)) stitchCountsCard

/-- THE TIED CARD OF 'pommellaw03.StitchRests'. -/
def stitchRestsCard : Claim7 := { stood := { row := stitchRestsRow, standIns := [], harness := (true, "0b72e93cb145435282155e3c629d25706dce281fe56ebc61d8b26190efa19dbb"), looks := false }, kinds := [], alts := [], laidByText := true, laidKinds := [.data, .data, .data], laidTests := true, laidLooks := .later }
def StitchRestsCardSaid : Prop := Claim7.holds Tryz.pinned (.plain (OpenSpec.ofChange stitchRestsSpec)) stitchRestsCard

/-- THE TIED CARD OF 'pommellaw03.StitchMeets'. -/
def stitchMeetsCard : Claim7 := { stood := { row := stitchMeetsRow, standIns := [], harness := (true, "0b72e93cb145435282155e3c629d25706dce281fe56ebc61d8b26190efa19dbb"), looks := false }, kinds := [], alts := [], laidByText := true, laidKinds := [.data, .data, .data], laidTests := true, laidLooks := .later }
def StitchMeetsCardSaid : Prop := Claim7.holds Tryz.pinned (.plain (OpenSpec.ofChange stitchMeetsSpec)) stitchMeetsCard

/-- THE TIED CARD OF 'pommellaw03.StitchParts'. -/
def stitchPartsCard : Claim7 := { stood := { row := stitchPartsRow, standIns := [], harness := (true, "0b72e93cb145435282155e3c629d25706dce281fe56ebc61d8b26190efa19dbb"), looks := false }, kinds := [], alts := [], laidByText := true, laidKinds := [.data, .data, .data], laidTests := true, laidLooks := .later }
def StitchPartsCardSaid : Prop := Claim7.holds Tryz.pinned (.plain (OpenSpec.ofChange stitchPartsSpec)) stitchPartsCard

/-- THE TIED CARD OF 'pommellaw03.StitchForms'. -/
def stitchFormsCard : Claim7 := { stood := { row := stitchFormsRow, standIns := [], harness := (true, "0b72e93cb145435282155e3c629d25706dce281fe56ebc61d8b26190efa19dbb"), looks := false }, kinds := [], alts := [], laidByText := true, laidKinds := [.data, .data, .data], laidTests := true, laidLooks := .later }
def StitchFormsCardSaid : Prop := Claim7.holds Tryz.pinned (.plain (OpenSpec.ofChange stitchFormsSpec)) stitchFormsCard

/-- THE TIED CARD OF 'pommellaw03.StitchPairs'. -/
def stitchPairsCard : Claim7 := { stood := { row := stitchPairsRow, standIns := [], harness := (true, "0b72e93cb145435282155e3c629d25706dce281fe56ebc61d8b26190efa19dbb"), looks := false }, kinds := [], alts := [], laidByText := true, laidKinds := [.data, .data, .data], laidTests := true, laidLooks := .later }
def StitchPairsCardSaid : Prop := Claim7.holds Tryz.pinned (.plain (OpenSpec.ofChange stitchPairsSpec)) stitchPairsCard

/-- THE TIED CARD OF 'pommellaw03.StitchCartier'. -/
def stitchCartierCard : Claim7 := { stood := { row := stitchCartierRow, standIns := [], harness := (true, "0b72e93cb145435282155e3c629d25706dce281fe56ebc61d8b26190efa19dbb"), looks := false }, kinds := [], alts := [], laidByText := true, laidKinds := [.data, .data, .data], laidTests := true, laidLooks := .later }
def StitchCartierCardSaid : Prop := Claim7.holds Tryz.pinned (.plain (OpenSpec.ofChange stitchCartierSpec)) stitchCartierCard

/-- THE TIED CARD OF 'pommellaw03.StitchRest'. -/
def stitchRestCard : Claim7 := { stood := { row := stitchRestRow, standIns := [], harness := (true, "0b72e93cb145435282155e3c629d25706dce281fe56ebc61d8b26190efa19dbb"), looks := false }, kinds := [], alts := [], laidByText := true, laidKinds := [.data, .data, .data], laidTests := true, laidLooks := .later }
def StitchRestCardSaid : Prop := Claim7.holds Tryz.pinned (.plain (OpenSpec.ofChange stitchRestSpec)) stitchRestCard

/-- THE TIED CARD OF 'pommellaw03.StitchLattice'. -/
def stitchLatticeCard : Claim7 := { stood := { row := stitchLatticeRow, standIns := [], harness := (true, "0b72e93cb145435282155e3c629d25706dce281fe56ebc61d8b26190efa19dbb"), looks := false }, kinds := [], alts := [], laidByText := true, laidKinds := [.data, .data, .data], laidTests := true, laidLooks := .later }
def StitchLatticeCardSaid : Prop := Claim7.holds Tryz.pinned (.plain (OpenSpec.ofChange stitchLatticeSpec)) stitchLatticeCard

/-- THE TIED CARD OF 'pommellaw03.StitchLevi'. -/
def stitchLeviCard : Claim7 := { stood := { row := stitchLeviRow, standIns := [], harness := (true, "0b72e93cb145435282155e3c629d25706dce281fe56ebc61d8b26190efa19dbb"), looks := false }, kinds := [], alts := [], laidByText := true, laidKinds := [.data, .data, .data], laidTests := true, laidLooks := .later }
def StitchLeviCardSaid : Prop := Claim7.holds Tryz.pinned (.plain (OpenSpec.ofChange stitchLeviSpec)) stitchLeviCard

/-- THE TIED CARD OF 'pommellaw03.StitchApart'. -/
def stitchApartCard : Claim7 := { stood := { row := stitchApartRow, standIns := [], harness := (true, "0b72e93cb145435282155e3c629d25706dce281fe56ebc61d8b26190efa19dbb"), looks := false }, kinds := [], alts := [], laidByText := true, laidKinds := [.data, .data, .data], laidTests := true, laidLooks := .later }
def StitchApartCardSaid : Prop := Claim7.holds Tryz.pinned (.plain (OpenSpec.ofChange stitchApartSpec)) stitchApartCard

/-- THE TIED CARD OF 'pommellaw03.StitchFree'. -/
def stitchFreeCard : Claim7 := { stood := { row := stitchFreeRow, standIns := [], harness := (true, "0b72e93cb145435282155e3c629d25706dce281fe56ebc61d8b26190efa19dbb"), looks := false }, kinds := [], alts := [], laidByText := true, laidKinds := [.data, .data, .data], laidTests := true, laidLooks := .later }
def StitchFreeCardSaid : Prop := Claim7.holds Tryz.pinned (.plain (OpenSpec.ofChange stitchFreeSpec)) stitchFreeCard

/-- THE SECOND FORM's CARD OF 'pommellaw03.StitchSteps'. -/
def stitchStepsUptoCard : Claim7 := { stood := { row := stitchStepsUptoRow, standIns := [], harness := (true, "0b72e93cb145435282155e3c629d25706dce281fe56ebc61d8b26190efa19dbb"), looks := false }, kinds := [], alts := [], laidByText := true, laidKinds := [.data, .data, .data], laidTests := true, laidLooks := .later }
def StitchStepsUptoCardSaid : Prop := Claim7.holds Tryz.pinned (.plain (OpenSpec.upto stitchStepsSpec)) stitchStepsUptoCard

/-- THE SECOND FORM's CARD OF 'pommellaw03.StitchEquals'. -/
def stitchEqualsUptoCard : Claim7 := { stood := { row := stitchEqualsUptoRow, standIns := [], harness := (true, "0b72e93cb145435282155e3c629d25706dce281fe56ebc61d8b26190efa19dbb"), looks := false }, kinds := [], alts := [], laidByText := true, laidKinds := [.data, .data, .data], laidTests := true, laidLooks := .later }
def StitchEqualsUptoCardSaid : Prop := Claim7.holds Tryz.pinned (.plain (OpenSpec.upto stitchEqualsSpec)) stitchEqualsUptoCard

/-- THE SECOND FORM's CARD OF 'pommellaw03.StitchWays'. -/
def stitchWaysUptoCard : Claim7 := { stood := { row := stitchWaysUptoRow, standIns := [], harness := (true, "0b72e93cb145435282155e3c629d25706dce281fe56ebc61d8b26190efa19dbb"), looks := false }, kinds := [], alts := [], laidByText := true, laidKinds := [.data, .data, .data], laidTests := true, laidLooks := .later }
def StitchWaysUptoCardSaid : Prop := Claim7.holds Tryz.pinned (.plain (OpenSpec.upto stitchWaysSpec)) stitchWaysUptoCard

/-- THE SECOND FORM's CARD OF 'pommellaw03.StitchCounts'. -/
def stitchCountsUptoCard : Claim7 := { stood := { row := stitchCountsUptoRow, standIns := [], harness := (true, "0b72e93cb145435282155e3c629d25706dce281fe56ebc61d8b26190efa19dbb"), looks := false }, kinds := [], alts := [], laidByText := true, laidKinds := [.data, .data, .data], laidTests := true, laidLooks := .later }
def StitchCountsUptoCardSaid : Prop := Claim7.holds Tryz.pinned (.plain (OpenSpec.upto stitchCountsSpec)) stitchCountsUptoCard

/-- THE SECOND FORM's CARD OF 'pommellaw03.StitchRests'. -/
def stitchRestsUptoCard : Claim7 := { stood := { row := stitchRestsUptoRow, standIns := [], harness := (true, "0b72e93cb145435282155e3c629d25706dce281fe56ebc61d8b26190efa19dbb"), looks := false }, kinds := [], alts := [], laidByText := true, laidKinds := [.data, .data, .data], laidTests := true, laidLooks := .later }
def StitchRestsUptoCardSaid : Prop := Claim7.holds Tryz.pinned (.plain (OpenSpec.upto stitchRestsSpec)) stitchRestsUptoCard

/-- THE SECOND FORM's CARD OF 'pommellaw03.StitchMeets'. -/
def stitchMeetsUptoCard : Claim7 := { stood := { row := stitchMeetsUptoRow, standIns := [], harness := (true, "0b72e93cb145435282155e3c629d25706dce281fe56ebc61d8b26190efa19dbb"), looks := false }, kinds := [], alts := [], laidByText := true, laidKinds := [.data, .data, .data], laidTests := true, laidLooks := .later }
def StitchMeetsUptoCardSaid : Prop := Claim7.holds Tryz.pinned (.plain (OpenSpec.upto stitchMeetsSpec)) stitchMeetsUptoCard

/-- THE SECOND FORM's CARD OF 'pommellaw03.StitchParts'. -/
def stitchPartsUptoCard : Claim7 := { stood := { row := stitchPartsUptoRow, standIns := [], harness := (true, "0b72e93cb145435282155e3c629d25706dce281fe56ebc61d8b26190efa19dbb"), looks := false }, kinds := [], alts := [], laidByText := true, laidKinds := [.data, .data, .data], laidTests := true, laidLooks := .later }
def StitchPartsUptoCardSaid : Prop := Claim7.holds Tryz.pinned (.plain (OpenSpec.upto stitchPartsSpec)) stitchPartsUptoCard

/-- THE SECOND FORM's CARD OF 'pommellaw03.StitchForms'. -/
def stitchFormsUptoCard : Claim7 := { stood := { row := stitchFormsUptoRow, standIns := [], harness := (true, "0b72e93cb145435282155e3c629d25706dce281fe56ebc61d8b26190efa19dbb"), looks := false }, kinds := [], alts := [], laidByText := true, laidKinds := [.data, .data, .data], laidTests := true, laidLooks := .later }
def StitchFormsUptoCardSaid : Prop := Claim7.holds Tryz.pinned (.plain (OpenSpec.upto stitchFormsSpec)) stitchFormsUptoCard

/-- THE SECOND FORM's CARD OF 'pommellaw03.StitchPairs'. -/
def stitchPairsUptoCard : Claim7 := { stood := { row := stitchPairsUptoRow, standIns := [], harness := (true, "0b72e93cb145435282155e3c629d25706dce281fe56ebc61d8b26190efa19dbb"), looks := false }, kinds := [], alts := [], laidByText := true, laidKinds := [.data, .data, .data], laidTests := true, laidLooks := .later }
def StitchPairsUptoCardSaid : Prop := Claim7.holds Tryz.pinned (.plain (OpenSpec.upto stitchPairsSpec)) stitchPairsUptoCard

/-- THE SECOND FORM's CARD OF 'pommellaw03.StitchCartier'. -/
def stitchCartierUptoCard : Claim7 := { stood := { row := stitchCartierUptoRow, standIns := [], harness := (true, "0b72e93cb145435282155e3c629d25706dce281fe56ebc61d8b26190efa19dbb"), looks := false }, kinds := [], alts := [], laidByText := true, laidKinds := [.data, .data, .data], laidTests := true, laidLooks := .later }
def StitchCartierUptoCardSaid : Prop := Claim7.holds Tryz.pinned (.plain (OpenSpec.upto stitchCartierSpec)) stitchCartierUptoCard

/-- THE SECOND FORM's CARD OF 'pommellaw03.StitchRest'. -/
def stitchRestUptoCard : Claim7 := { stood := { row := stitchRestUptoRow, standIns := [], harness := (true, "0b72e93cb145435282155e3c629d25706dce281fe56ebc61d8b26190efa19dbb"), looks := false }, kinds := [], alts := [], laidByText := true, laidKinds := [.data, .data, .data], laidTests := true, laidLooks := .later }
def StitchRestUptoCardSaid : Prop := Claim7.holds Tryz.pinned (.plain (OpenSpec.upto stitchRestSpec)) stitchRestUptoCard

/-- THE SECOND FORM's CARD OF 'pommellaw03.StitchLattice'. -/
def stitchLatticeUptoCard : Claim7 := { stood := { row := stitchLatticeUptoRow, standIns := [], harness := (true, "0b72e93cb145435282155e3c629d25706dce281fe56ebc61d8b26190efa19dbb"), looks := false }, kinds := [], alts := [], laidByText := true, laidKinds := [.data, .data, .data], laidTests := true, laidLooks := .later }
def StitchLatticeUptoCardSaid : Prop := Claim7.holds Tryz.pinned (.plain (OpenSpec.upto stitchLatticeSpec)) stitchLatticeUptoCard

/-- THE SECOND FORM's CARD OF 'pommellaw03.StitchLevi'. -/
def stitchLeviUptoCard : Claim7 := { stood := { row := stitchLeviUptoRow, standIns := [], harness := (true, "0b72e93cb145435282155e3c629d25706dce281fe56ebc61d8b26190efa19dbb"), looks := false }, kinds := [], alts := [], laidByText := true, laidKinds := [.data, .data, .data], laidTests := true, laidLooks := .later }
def StitchLeviUptoCardSaid : Prop := Claim7.holds Tryz.pinned (.plain (OpenSpec.upto stitchLeviSpec)) stitchLeviUptoCard

/-- THE SECOND FORM's CARD OF 'pommellaw03.StitchApart'. -/
def stitchApartUptoCard : Claim7 := { stood := { row := stitchApartUptoRow, standIns := [], harness := (true, "0b72e93cb145435282155e3c629d25706dce281fe56ebc61d8b26190efa19dbb"), looks := false }, kinds := [], alts := [], laidByText := true, laidKinds := [.data, .data, .data], laidTests := true, laidLooks := .later }
def StitchApartUptoCardSaid : Prop := Claim7.holds Tryz.pinned (.plain (OpenSpec.upto stitchApartSpec)) stitchApartUptoCard

/-- THE SECOND FORM's CARD OF 'pommellaw03.StitchFree'. -/
def stitchFreeUptoCard : Claim7 := { stood := { row := stitchFreeUptoRow, standIns := [], harness := (true, "0b72e93cb145435282155e3c629d25706dce281fe56ebc61d8b26190efa19dbb"), looks := false }, kinds := [], alts := [], laidByText := true, laidKinds := [.data, .data, .data], laidTests := true, laidLooks := .later }
def StitchFreeUptoCardSaid : Prop := Claim7.holds Tryz.pinned (.plain (OpenSpec.upto stitchFreeSpec)) stitchFreeUptoCard
end Rows
end Go.Proofs.YthankillfhmfkaaGreatDoor
