/-
  DERIVED. GIVEN WITH THE SEED: THE CARDS: each row of YtngpoamjhngcgaaGreatDoorRows.lean that lists a variable, with what it lists TIED to the program's text (the seventh form; the later family's looks); each row that meets fmt, with fmt's text TOLD by the authors' own Lean function (tested against real Go, not proved from fmt's source: count such statements apart). THE CARD IS WHAT COUNTS. Prove the row's statement (the work); the ties are given (YtngpoamjhngcgaaGreatDoorTie.lean); close each card by the builder's one call (the guide's Derived/Test/ToyasCard.lean, 'card_holds'). Laid BY PROGRAM, IN A SANDBOX (cutbox-door.mjs). By AI agents, Wed Nov 11 2026. No macro, syntax, notation, axiom, sorry.
-/
import Derived.Test.YtngpoamjhngcgaaGreatDoorRows
import GoSem.ClaimSeven
namespace Go.Proofs.YtngpoamjhngcgaaGreatDoor
namespace Rows

/-- THE TIED CARD OF 'pommellaw01.DebtProves'. -/
def debtProvesCard : Claim7 := { stood := { row := debtProvesRow, standIns := [], harness := (true, "026cd1ab985b63ea3d163144d32a094a81a28905e7e321110557a3f9771e2029"), looks := false }, kinds := [], alts := [], laidByText := true, laidKinds := [.data, .data, .data], laidTests := true, laidLooks := .later }
def DebtProvesCardSaid : Prop := Claim7.holds Tryz.pinned (.plain (OpenSpec.ofChange debtProvesSpec)) debtProvesCard

/-- THE TIED CARD OF 'pommellaw01.DebtCancels'. -/
def debtCancelsCard : Claim7 := { stood := { row := debtCancelsRow, standIns := [], harness := (true, "026cd1ab985b63ea3d163144d32a094a81a28905e7e321110557a3f9771e2029"), looks := false }, kinds := [], alts := [], laidByText := true, laidKinds := [.data, .data, .data], laidTests := true, laidLooks := .later }
def DebtCancelsCardSaid : Prop := Claim7.holds Tryz.pinned (.plain (OpenSpec.ofChange debtCancelsSpec)) debtCancelsCard

/-- THE TIED CARD OF 'pommellaw01.DebtRings'. -/
def debtRingsCard : Claim7 := { stood := { row := debtRingsRow, standIns := [], harness := (true, "026cd1ab985b63ea3d163144d32a094a81a28905e7e321110557a3f9771e2029"), looks := false }, kinds := [], alts := [], laidByText := true, laidKinds := [.data, .data, .data], laidTests := true, laidLooks := .later }
def DebtRingsCardSaid : Prop := Claim7.holds Tryz.pinned (.plain (OpenSpec.ofChange debtRingsSpec)) debtRingsCard

/-- THE TIED CARD OF 'pommellaw01.DebtProof'. -/
def debtProofCard : Claim7 := { stood := { row := debtProofRow, standIns := [], harness := (true, "026cd1ab985b63ea3d163144d32a094a81a28905e7e321110557a3f9771e2029"), looks := false }, kinds := [], alts := [], laidByText := true, laidKinds := [.data, .data, .data], laidTests := true, laidLooks := .later }
def DebtProofCardSaid : Prop := Claim7.holds Tryz.pinned (.plain (OpenSpec.ofChange debtProofSpec)) debtProofCard

/-- THE TIED CARD OF 'pommellaw01.DebtGroups'. -/
def debtGroupsCard : Claim7 := { stood := { row := debtGroupsRow, standIns := [], harness := (true, "026cd1ab985b63ea3d163144d32a094a81a28905e7e321110557a3f9771e2029"), looks := false }, kinds := [], alts := [], laidByText := true, laidKinds := [.data, .data, .data], laidTests := true, laidLooks := .later }
def DebtGroupsCardSaid : Prop := Claim7.holds Tryz.pinned (.plain (OpenSpec.ofChange debtGroupsSpec)) debtGroupsCard

/-- THE TIED CARD OF 'pommellaw01.DebtFew'. -/
def debtFewCard : Claim7 := { stood := { row := debtFewRow, standIns := [], harness := (true, "026cd1ab985b63ea3d163144d32a094a81a28905e7e321110557a3f9771e2029"), looks := false }, kinds := [], alts := [], laidByText := true, laidKinds := [.data, .data, .data], laidTests := true, laidLooks := .later }
def DebtFewCardSaid : Prop := Claim7.holds Tryz.pinned (.plain (OpenSpec.ofChange debtFewSpec)) debtFewCard

/-- THE TIED CARD OF 'pommellaw01.DebtChecks'. -/
def debtChecksCard : Claim7 := { stood := { row := debtChecksRow, standIns := [], harness := (true, "026cd1ab985b63ea3d163144d32a094a81a28905e7e321110557a3f9771e2029"), looks := false }, kinds := [], alts := [], laidByText := true, laidKinds := [.data, .data, .data], laidTests := true, laidLooks := .later }
def DebtChecksCardSaid : Prop := Claim7.holds Tryz.pinned (.plain (OpenSpec.ofChange debtChecksSpec)) debtChecksCard

/-- THE TIED CARD OF 'pommellaw01.DebtFails'. -/
def debtFailsCard : Claim7 := { stood := { row := debtFailsRow, standIns := [], harness := (true, "026cd1ab985b63ea3d163144d32a094a81a28905e7e321110557a3f9771e2029"), looks := false }, kinds := [], alts := [], laidByText := true, laidKinds := [.data, .data, .data], laidTests := true, laidLooks := .later }
def DebtFailsCardSaid : Prop := Claim7.holds Tryz.pinned (.plain (OpenSpec.ofChange debtFailsSpec)) debtFailsCard

/-- THE TIED CARD OF 'pommellaw01.DebtClears'. -/
def debtClearsCard : Claim7 := { stood := { row := debtClearsRow, standIns := [], harness := (true, "026cd1ab985b63ea3d163144d32a094a81a28905e7e321110557a3f9771e2029"), looks := false }, kinds := [], alts := [], laidByText := true, laidKinds := [.data, .data, .data], laidTests := true, laidLooks := .later }
def DebtClearsCardSaid : Prop := Claim7.holds Tryz.pinned (.plain (OpenSpec.ofChange debtClearsSpec)) debtClearsCard

/-- THE TIED CARD OF 'pommellaw01.DebtBetween'. -/
def debtBetweenCard : Claim7 := { stood := { row := debtBetweenRow, standIns := [], harness := (true, "026cd1ab985b63ea3d163144d32a094a81a28905e7e321110557a3f9771e2029"), looks := false }, kinds := [], alts := [], laidByText := true, laidKinds := [.data, .data, .data], laidTests := true, laidLooks := .later }
def DebtBetweenCardSaid : Prop := Claim7.holds Tryz.pinned (.plain (OpenSpec.ofChange debtBetweenSpec)) debtBetweenCard

/-- THE TIED CARD OF 'pommellaw01.DebtMore'. -/
def debtMoreCard : Claim7 := { stood := { row := debtMoreRow, standIns := [], harness := (true, "026cd1ab985b63ea3d163144d32a094a81a28905e7e321110557a3f9771e2029"), looks := false }, kinds := [], alts := [], laidByText := true, laidKinds := [.data, .data, .data], laidTests := true, laidLooks := .later }
def DebtMoreCardSaid : Prop := Claim7.holds Tryz.pinned (.plain (OpenSpec.ofChange debtMoreSpec)) debtMoreCard

/-- THE TIED CARD OF 'pommellaw01.DebtRounds'. -/
def debtRoundsCard : Claim7 := { stood := { row := debtRoundsRow, standIns := [], harness := (true, "026cd1ab985b63ea3d163144d32a094a81a28905e7e321110557a3f9771e2029"), looks := false }, kinds := [], alts := [], laidByText := true, laidKinds := [.data, .data, .data], laidTests := true, laidLooks := .later }
def DebtRoundsCardSaid : Prop := Claim7.holds Tryz.pinned (.plain (OpenSpec.ofChange debtRoundsSpec)) debtRoundsCard

/-- THE TIED CARD OF 'pommellaw01.DebtKept'. -/
def debtKeptCard : Claim7 := { stood := { row := debtKeptRow, standIns := [], harness := (true, "026cd1ab985b63ea3d163144d32a094a81a28905e7e321110557a3f9771e2029"), looks := false }, kinds := [], alts := [], laidByText := true, laidKinds := [.data, .data, .data], laidTests := true, laidLooks := .later }
def DebtKeptCardSaid : Prop := Claim7.holds Tryz.pinned (.plain (OpenSpec.ofChange debtKeptSpec)) debtKeptCard

/-- THE SECOND FORM's CARD OF 'pommellaw01.DebtProves'. -/
def debtProvesUptoCard : Claim7 := { stood := { row := debtProvesUptoRow, standIns := [], harness := (true, "026cd1ab985b63ea3d163144d32a094a81a28905e7e321110557a3f9771e2029"), looks := false }, kinds := [], alts := [], laidByText := true, laidKinds := [.data, .data, .data], laidTests := true, laidLooks := .later }
def DebtProvesUptoCardSaid : Prop := Claim7.holds Tryz.pinned (.plain (OpenSpec.upto debtProvesSpec)) debtProvesUptoCard

/-- THE SECOND FORM's CARD OF 'pommellaw01.DebtCancels'. -/
def debtCancelsUptoCard : Claim7 := { stood := { row := debtCancelsUptoRow, standIns := [], harness := (true, "026cd1ab985b63ea3d163144d32a094a81a28905e7e321110557a3f9771e2029"), looks := false }, kinds := [], alts := [], laidByText := true, laidKinds := [.data, .data, .data], laidTests := true, laidLooks := .later }
def DebtCancelsUptoCardSaid : Prop := Claim7.holds Tryz.pinned (.plain (OpenSpec.upto debtCancelsSpec)) debtCancelsUptoCard

/-- THE SECOND FORM's CARD OF 'pommellaw01.DebtRings'. -/
def debtRingsUptoCard : Claim7 := { stood := { row := debtRingsUptoRow, standIns := [], harness := (true, "026cd1ab985b63ea3d163144d32a094a81a28905e7e321110557a3f9771e2029"), looks := false }, kinds := [], alts := [], laidByText := true, laidKinds := [.data, .data, .data], laidTests := true, laidLooks := .later }
def DebtRingsUptoCardSaid : Prop := Claim7.holds Tryz.pinned (.plain (OpenSpec.upto debtRingsSpec)) debtRingsUptoCard

/-- THE SECOND FORM's CARD OF 'pommellaw01.DebtProof'. -/
def debtProofUptoCard : Claim7 := { stood := { row := debtProofUptoRow, standIns := [], harness := (true, "026cd1ab985b63ea3d163144d32a094a81a28905e7e321110557a3f9771e2029"), looks := false }, kinds := [], alts := [], laidByText := true, laidKinds := [.data, .data, .data], laidTests := true, laidLooks := .later }
def DebtProofUptoCardSaid : Prop := Claim7.holds Tryz.pinned (.plain (OpenSpec.upto debtProofSpec)) debtProofUptoCard

/-- THE SECOND FORM's CARD OF 'pommellaw01.DebtGroups'. -/
def debtGroupsUptoCard : Claim7 := { stood := { row := debtGroupsUptoRow, standIns := [], harness := (true, "026cd1ab985b63ea3d163144d32a094a81a28905e7e321110557a3f9771e2029"), looks := false }, kinds := [], alts := [], laidByText := true, laidKinds := [.data, .data, .data], laidTests := true, laidLooks := .later }
def DebtGroupsUptoCardSaid : Prop := Claim7.holds Tryz.pinned (.plain (OpenSpec.upto debtGroupsSpec)) debtGroupsUptoCard

/-- THE SECOND FORM's CARD OF 'pommellaw01.DebtFew'. -/
def debtFewUptoCard : Claim7 := { stood := { row := debtFewUptoRow, standIns := [], harness := (true, "026cd1ab985b63ea3d163144d32a094a81a28905e7e321110557a3f9771e2029"), looks := false }, kinds := [], alts := [], laidByText := true, laidKinds := [.data, .data, .data], laidTests := true, laidLooks := .later }
def DebtFewUptoCardSaid : Prop := Claim7.holds Tryz.pinned (.plain (OpenSpec.upto debtFewSpec)) debtFewUptoCard

/-- THE SECOND FORM's CARD OF 'pommellaw01.DebtChecks'. -/
def debtChecksUptoCard : Claim7 := { stood := { row := debtChecksUptoRow, standIns := [], harness := (true, "026cd1ab985b63ea3d163144d32a094a81a28905e7e321110557a3f9771e2029"), looks := false }, kinds := [], alts := [], laidByText := true, laidKinds := [.data, .data, .data], laidTests := true, laidLooks := .later }
def DebtChecksUptoCardSaid : Prop := Claim7.holds Tryz.pinned (.plain (OpenSpec.upto debtChecksSpec)) debtChecksUptoCard

/-- THE SECOND FORM's CARD OF 'pommellaw01.DebtFails'. -/
def debtFailsUptoCard : Claim7 := { stood := { row := debtFailsUptoRow, standIns := [], harness := (true, "026cd1ab985b63ea3d163144d32a094a81a28905e7e321110557a3f9771e2029"), looks := false }, kinds := [], alts := [], laidByText := true, laidKinds := [.data, .data, .data], laidTests := true, laidLooks := .later }
def DebtFailsUptoCardSaid : Prop := Claim7.holds Tryz.pinned (.plain (OpenSpec.upto debtFailsSpec)) debtFailsUptoCard

/-- THE SECOND FORM's CARD OF 'pommellaw01.DebtClears'. -/
def debtClearsUptoCard : Claim7 := { stood := { row := debtClearsUptoRow, standIns := [], harness := (true, "026cd1ab985b63ea3d163144d32a094a81a28905e7e321110557a3f9771e2029"), looks := false }, kinds := [], alts := [], laidByText := true, laidKinds := [.data, .data, .data], laidTests := true, laidLooks := .later }
def DebtClearsUptoCardSaid : Prop := Claim7.holds Tryz.pinned (.plain (OpenSpec.upto debtClearsSpec)) debtClearsUptoCard

/-- THE SECOND FORM's CARD OF 'pommellaw01.DebtBetween'. -/
def debtBetweenUptoCard : Claim7 := { stood := { row := debtBetweenUptoRow, standIns := [], harness := (true, "026cd1ab985b63ea3d163144d32a094a81a28905e7e321110557a3f9771e2029"), looks := false }, kinds := [], alts := [], laidByText := true, laidKinds := [.data, .data, .data], laidTests := true, laidLooks := .later }
def DebtBetweenUptoCardSaid : Prop := Claim7.holds Tryz.pinned (.plain (OpenSpec.upto debtBetweenSpec)) debtBetweenUptoCard

/-- THE SECOND FORM's CARD OF 'pommellaw01.DebtMore'. -/
def debtMoreUptoCard : Claim7 := { stood := { row := debtMoreUptoRow, standIns := [], harness := (true, "026cd1ab985b63ea3d163144d32a094a81a28905e7e321110557a3f9771e2029"), looks := false }, kinds := [], alts := [], laidByText := true, laidKinds := [.data, .data, .data], laidTests := true, laidLooks := .later }
def DebtMoreUptoCardSaid : Prop := Claim7.holds Tryz.pinned (.plain (OpenSpec.upto debtMoreSpec)) debtMoreUptoCard

/-- THE SECOND FORM's CARD OF 'pommellaw01.DebtRounds'. -/
def debtRoundsUptoCard : Claim7 := { stood := { row := debtRoundsUptoRow, standIns := [], harness := (true, "026cd1ab985b63ea3d163144d32a094a81a28905e7e321110557a3f9771e2029"), looks := false }, kinds := [], alts := [], laidByText := true, laidKinds := [.data, .data, .data], laidTests := true, laidLooks := .later }
def DebtRoundsUptoCardSaid : Prop := Claim7.holds Tryz.pinned (.plain (OpenSpec.upto debtRoundsSpec)) debtRoundsUptoCard

/-- THE SECOND FORM's CARD OF 'pommellaw01.DebtKept'. -/
def debtKeptUptoCard : Claim7 := { stood := { row := debtKeptUptoRow, standIns := [], harness := (true, "026cd1ab985b63ea3d163144d32a094a81a28905e7e321110557a3f9771e2029"), looks := false }, kinds := [], alts := [], laidByText := true, laidKinds := [.data, .data, .data], laidTests := true, laidLooks := .later }
def DebtKeptUptoCardSaid : Prop := Claim7.holds Tryz.pinned (.plain (OpenSpec.upto debtKeptSpec)) debtKeptUptoCard
end Rows
end Go.Proofs.YtngpoamjhngcgaaGreatDoor
