/-
  DERIVED. GIVEN WITH THE SEED: THE CARDS: each row of YthiodndhokooiaaGreatDoorRows.lean that lists a variable, with what it lists TIED to the program's text (the seventh form; the later family's looks); each row that meets fmt, with fmt's text TOLD by the authors' own Lean function (tested against real Go, not proved from fmt's source: count such statements apart). THE CARD IS WHAT COUNTS. Prove the row's statement (the work); the ties are given (YthiodndhokooiaaGreatDoorTie.lean); close each card by the builder's one call (the guide's Derived/Test/ToyasCard.lean, 'card_holds'). Laid BY PROGRAM, IN A SANDBOX (cutbox-door.mjs). By AI agents, Wed Nov 11 2026. No macro, syntax, notation, axiom, sorry.
-/
import Derived.Test.YthiodndhokooiaaGreatDoorRows
import GoSem.ClaimSeven
namespace Go.Proofs.YthiodndhokooiaaGreatDoor
namespace Rows

/-- THE TIED CARD OF 'pommellaw06.MendCosts'. -/
def mendCostsCard : Claim7 := { stood := { row := mendCostsRow, standIns := [], harness := (true, "3b7eb08d488bf954ab3c766ea958075be6a6147aaa83fc7b9d11e1642e263c6a"), looks := false }, kinds := [], alts := [], laidByText := true, laidKinds := [.data, .data, .data], laidTests := true, laidLooks := .later }
def MendCostsCardSaid : Prop := Claim7.holds Tryz.pinned (.plain (OpenSpec.ofChange mendCostsSpec)) mendCostsCard

/-- THE TIED CARD OF 'pommellaw06.MendBests'. -/
def mendBestsCard : Claim7 := { stood := { row := mendBestsRow, standIns := [], harness := (true, "3b7eb08d488bf954ab3c766ea958075be6a6147aaa83fc7b9d11e1642e263c6a"), looks := false }, kinds := [], alts := [], laidByText := true, laidKinds := [.data, .data, .data], laidTests := true, laidLooks := .later }
def MendBestsCardSaid : Prop := Claim7.holds Tryz.pinned (.plain (OpenSpec.ofChange mendBestsSpec)) mendBestsCard

/-- THE TIED CARD OF 'pommellaw06.MendLeast'. -/
def mendLeastCard : Claim7 := { stood := { row := mendLeastRow, standIns := [], harness := (true, "3b7eb08d488bf954ab3c766ea958075be6a6147aaa83fc7b9d11e1642e263c6a"), looks := false }, kinds := [], alts := [], laidByText := true, laidKinds := [.data, .data, .data], laidTests := true, laidLooks := .later }
def MendLeastCardSaid : Prop := Claim7.holds Tryz.pinned (.plain (OpenSpec.ofChange mendLeastSpec)) mendLeastCard

/-- THE TIED CARD OF 'pommellaw06.MendSmith'. -/
def mendSmithCard : Claim7 := { stood := { row := mendSmithRow, standIns := [], harness := (true, "3b7eb08d488bf954ab3c766ea958075be6a6147aaa83fc7b9d11e1642e263c6a"), looks := false }, kinds := [], alts := [], laidByText := true, laidKinds := [.data, .data, .data], laidTests := true, laidLooks := .later }
def MendSmithCardSaid : Prop := Claim7.holds Tryz.pinned (.plain (OpenSpec.ofChange mendSmithSpec)) mendSmithCard

/-- THE TIED CARD OF 'pommellaw06.MendPairs'. -/
def mendPairsCard : Claim7 := { stood := { row := mendPairsRow, standIns := [], harness := (true, "3b7eb08d488bf954ab3c766ea958075be6a6147aaa83fc7b9d11e1642e263c6a"), looks := false }, kinds := [], alts := [], laidByText := true, laidKinds := [.data, .data, .data], laidTests := true, laidLooks := .later }
def MendPairsCardSaid : Prop := Claim7.holds Tryz.pinned (.plain (OpenSpec.ofChange mendPairsSpec)) mendPairsCard

/-- THE TIED CARD OF 'pommellaw06.MendTurned'. -/
def mendTurnedCard : Claim7 := { stood := { row := mendTurnedRow, standIns := [], harness := (true, "3b7eb08d488bf954ab3c766ea958075be6a6147aaa83fc7b9d11e1642e263c6a"), looks := false }, kinds := [], alts := [], laidByText := true, laidKinds := [.data, .data, .data], laidTests := true, laidLooks := .later }
def MendTurnedCardSaid : Prop := Claim7.holds Tryz.pinned (.plain (OpenSpec.ofChange mendTurnedSpec)) mendTurnedCard

/-- THE TIED CARD OF 'pommellaw06.MendBlocks'. -/
def mendBlocksCard : Claim7 := { stood := { row := mendBlocksRow, standIns := [], harness := (true, "3b7eb08d488bf954ab3c766ea958075be6a6147aaa83fc7b9d11e1642e263c6a"), looks := false }, kinds := [], alts := [], laidByText := true, laidKinds := [.data, .data, .data], laidTests := true, laidLooks := .later }
def MendBlocksCardSaid : Prop := Claim7.holds Tryz.pinned (.plain (OpenSpec.ofChange mendBlocksSpec)) mendBlocksCard

/-- THE SECOND FORM's CARD OF 'pommellaw06.MendCosts'. -/
def mendCostsUptoCard : Claim7 := { stood := { row := mendCostsUptoRow, standIns := [], harness := (true, "3b7eb08d488bf954ab3c766ea958075be6a6147aaa83fc7b9d11e1642e263c6a"), looks := false }, kinds := [], alts := [], laidByText := true, laidKinds := [.data, .data, .data], laidTests := true, laidLooks := .later }
def MendCostsUptoCardSaid : Prop := Claim7.holds Tryz.pinned (.plain (OpenSpec.upto mendCostsSpec)) mendCostsUptoCard

/-- THE SECOND FORM's CARD OF 'pommellaw06.MendBests'. -/
def mendBestsUptoCard : Claim7 := { stood := { row := mendBestsUptoRow, standIns := [], harness := (true, "3b7eb08d488bf954ab3c766ea958075be6a6147aaa83fc7b9d11e1642e263c6a"), looks := false }, kinds := [], alts := [], laidByText := true, laidKinds := [.data, .data, .data], laidTests := true, laidLooks := .later }
def MendBestsUptoCardSaid : Prop := Claim7.holds Tryz.pinned (.plain (OpenSpec.upto mendBestsSpec)) mendBestsUptoCard

/-- THE SECOND FORM's CARD OF 'pommellaw06.MendLeast'. -/
def mendLeastUptoCard : Claim7 := { stood := { row := mendLeastUptoRow, standIns := [], harness := (true, "3b7eb08d488bf954ab3c766ea958075be6a6147aaa83fc7b9d11e1642e263c6a"), looks := false }, kinds := [], alts := [], laidByText := true, laidKinds := [.data, .data, .data], laidTests := true, laidLooks := .later }
def MendLeastUptoCardSaid : Prop := Claim7.holds Tryz.pinned (.plain (OpenSpec.upto mendLeastSpec)) mendLeastUptoCard

/-- THE SECOND FORM's CARD OF 'pommellaw06.MendSmith'. -/
def mendSmithUptoCard : Claim7 := { stood := { row := mendSmithUptoRow, standIns := [], harness := (true, "3b7eb08d488bf954ab3c766ea958075be6a6147aaa83fc7b9d11e1642e263c6a"), looks := false }, kinds := [], alts := [], laidByText := true, laidKinds := [.data, .data, .data], laidTests := true, laidLooks := .later }
def MendSmithUptoCardSaid : Prop := Claim7.holds Tryz.pinned (.plain (OpenSpec.upto mendSmithSpec)) mendSmithUptoCard

/-- THE SECOND FORM's CARD OF 'pommellaw06.MendPairs'. -/
def mendPairsUptoCard : Claim7 := { stood := { row := mendPairsUptoRow, standIns := [], harness := (true, "3b7eb08d488bf954ab3c766ea958075be6a6147aaa83fc7b9d11e1642e263c6a"), looks := false }, kinds := [], alts := [], laidByText := true, laidKinds := [.data, .data, .data], laidTests := true, laidLooks := .later }
def MendPairsUptoCardSaid : Prop := Claim7.holds Tryz.pinned (.plain (OpenSpec.upto mendPairsSpec)) mendPairsUptoCard

/-- THE SECOND FORM's CARD OF 'pommellaw06.MendTurned'. -/
def mendTurnedUptoCard : Claim7 := { stood := { row := mendTurnedUptoRow, standIns := [], harness := (true, "3b7eb08d488bf954ab3c766ea958075be6a6147aaa83fc7b9d11e1642e263c6a"), looks := false }, kinds := [], alts := [], laidByText := true, laidKinds := [.data, .data, .data], laidTests := true, laidLooks := .later }
def MendTurnedUptoCardSaid : Prop := Claim7.holds Tryz.pinned (.plain (OpenSpec.upto mendTurnedSpec)) mendTurnedUptoCard

/-- THE SECOND FORM's CARD OF 'pommellaw06.MendBlocks'. -/
def mendBlocksUptoCard : Claim7 := { stood := { row := mendBlocksUptoRow, standIns := [], harness := (true, "3b7eb08d488bf954ab3c766ea958075be6a6147aaa83fc7b9d11e1642e263c6a"), looks := false }, kinds := [], alts := [], laidByText := true, laidKinds := [.data, .data, .data], laidTests := true, laidLooks := .later }
def MendBlocksUptoCardSaid : Prop := Claim7.holds Tryz.pinned (.plain (OpenSpec.upto mendBlocksSpec)) mendBlocksUptoCard
end Rows
end Go.Proofs.YthiodndhokooiaaGreatDoor
