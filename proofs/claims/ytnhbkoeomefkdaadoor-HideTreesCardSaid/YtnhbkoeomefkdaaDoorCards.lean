/-
  DERIVED. GIVEN WITH THE SEED: THE CARDS: each row of YtnhbkoeomefkdaaDoorRows.lean that lists a variable, with what it lists TIED to the program's text (the seventh form; the later family's looks); each row that meets fmt, with fmt's text TOLD by the authors' own Lean function (tested against real Go, not proved from fmt's source: count such statements apart). THE CARD IS WHAT COUNTS. Prove the row's statement (the work); the ties are given (YtnhbkoeomefkdaaDoorTie.lean); close each card by the builder's one call (the guide's Derived/Test/ToyasCard.lean, 'card_holds'). Laid BY PROGRAM, IN A SANDBOX (cutbox-door.mjs). By AI agents, Wed Nov 11 2026. No macro, syntax, notation, axiom, sorry.
-/
import Derived.Test.YtnhbkoeomefkdaaDoorRows
import GoSem.ClaimSeven
namespace Go.Proofs.YtnhbkoeomefkdaaDoor
namespace Rows

/-- THE TIED CARD OF 'pommellaw02.HideMeasures'. -/
def hideMeasuresCard : Claim7 := { stood := { row := hideMeasuresRow, standIns := [], harness := (true, "7d7ca629727a67c69697fa99562906d96e4e42d85834df43ec9eacad5958850a"), looks := false }, kinds := [], alts := [], laidByText := true, laidKinds := [.data, .data, .data], laidTests := true, laidLooks := .later }
def HideMeasuresCardSaid : Prop := Claim7.holds Tryd.pinned (.plain (OpenSpec.ofChange hideMeasuresSpec)) hideMeasuresCard

/-- THE TIED CARD OF 'pommellaw02.HideLays'. -/
def hideLaysCard : Claim7 := { stood := { row := hideLaysRow, standIns := [], harness := (true, "7d7ca629727a67c69697fa99562906d96e4e42d85834df43ec9eacad5958850a"), looks := false }, kinds := [], alts := [], laidByText := true, laidKinds := [.data, .data, .data], laidTests := true, laidLooks := .later }
def HideLaysCardSaid : Prop := Claim7.holds Tryd.pinned (.plain (OpenSpec.ofChange hideLaysSpec)) hideLaysCard

/-- THE TIED CARD OF 'pommellaw02.HideNets'. -/
def hideNetsCard : Claim7 := { stood := { row := hideNetsRow, standIns := [], harness := (true, "7d7ca629727a67c69697fa99562906d96e4e42d85834df43ec9eacad5958850a"), looks := false }, kinds := [], alts := [], laidByText := true, laidKinds := [.data, .data, .data], laidTests := true, laidLooks := .later }
def HideNetsCardSaid : Prop := Claim7.holds Tryd.pinned (.plain (OpenSpec.ofChange hideNetsSpec)) hideNetsCard

/-- THE TIED CARD OF 'pommellaw02.HideCompounds'. -/
def hideCompoundsCard : Claim7 := { stood := { row := hideCompoundsRow, standIns := [], harness := (true, "7d7ca629727a67c69697fa99562906d96e4e42d85834df43ec9eacad5958850a"), looks := false }, kinds := [], alts := [], laidByText := true, laidKinds := [.data, .data, .data], laidTests := true, laidLooks := .later }
def HideCompoundsCardSaid : Prop := Claim7.holds Tryd.pinned (.plain (OpenSpec.ofChange hideCompoundsSpec)) hideCompoundsCard

/-- THE TIED CARD OF 'pommellaw02.HideFewest'. -/
def hideFewestCard : Claim7 := { stood := { row := hideFewestRow, standIns := [], harness := (true, "7d7ca629727a67c69697fa99562906d96e4e42d85834df43ec9eacad5958850a"), looks := false }, kinds := [], alts := [], laidByText := true, laidKinds := [.data, .data, .data], laidTests := true, laidLooks := .later }
def HideFewestCardSaid : Prop := Claim7.holds Tryd.pinned (.plain (OpenSpec.ofChange hideFewestSpec)) hideFewestCard

/-- THE TIED CARD OF 'pommellaw02.HideEuclids'. -/
def hideEuclidsCard : Claim7 := { stood := { row := hideEuclidsRow, standIns := [], harness := (true, "7d7ca629727a67c69697fa99562906d96e4e42d85834df43ec9eacad5958850a"), looks := false }, kinds := [], alts := [], laidByText := true, laidKinds := [.data, .data, .data], laidTests := true, laidLooks := .later }
def HideEuclidsCardSaid : Prop := Claim7.holds Tryd.pinned (.plain (OpenSpec.ofChange hideEuclidsSpec)) hideEuclidsCard

/-- THE TIED CARD OF 'pommellaw02.HideCodes'. -/
def hideCodesCard : Claim7 := { stood := { row := hideCodesRow, standIns := [], harness := (true, "7d7ca629727a67c69697fa99562906d96e4e42d85834df43ec9eacad5958850a"), looks := false }, kinds := [], alts := [], laidByText := true, laidKinds := [.data, .data, .data], laidTests := true, laidLooks := .later }
def HideCodesCardSaid : Prop := Claim7.holds Tryd.pinned (.plain (OpenSpec.ofChange hideCodesSpec)) hideCodesCard

/-- THE TIED CARD OF 'pommellaw02.HideLess'. -/
def hideLessCard : Claim7 := { stood := { row := hideLessRow, standIns := [], harness := (true, "7d7ca629727a67c69697fa99562906d96e4e42d85834df43ec9eacad5958850a"), looks := false }, kinds := [], alts := [], laidByText := true, laidKinds := [.data, .data, .data], laidTests := true, laidLooks := .later }
def HideLessCardSaid : Prop := Claim7.holds Tryd.pinned (.plain (OpenSpec.ofChange hideLessSpec)) hideLessCard

/-- THE TIED CARD OF 'pommellaw02.HideMirrored'. -/
def hideMirroredCard : Claim7 := { stood := { row := hideMirroredRow, standIns := [], harness := (true, "7d7ca629727a67c69697fa99562906d96e4e42d85834df43ec9eacad5958850a"), looks := false }, kinds := [], alts := [], laidByText := true, laidKinds := [.data, .data, .data], laidTests := true, laidLooks := .later }
def HideMirroredCardSaid : Prop := Claim7.holds Tryd.pinned (.plain (OpenSpec.ofChange hideMirroredSpec)) hideMirroredCard

/-- THE TIED CARD OF 'pommellaw02.HideTrees'. -/
def hideTreesCard : Claim7 := { stood := { row := hideTreesRow, standIns := [], harness := (true, "7d7ca629727a67c69697fa99562906d96e4e42d85834df43ec9eacad5958850a"), looks := false }, kinds := [], alts := [], laidByText := true, laidKinds := [.data, .data, .data], laidTests := true, laidLooks := .later }
def HideTreesCardSaid : Prop := Claim7.holds Tryd.pinned (.plain (OpenSpec.ofChange hideTreesSpec)) hideTreesCard

/-- THE SECOND FORM's CARD OF 'pommellaw02.HideMeasures'. -/
def hideMeasuresUptoCard : Claim7 := { stood := { row := hideMeasuresUptoRow, standIns := [], harness := (true, "7d7ca629727a67c69697fa99562906d96e4e42d85834df43ec9eacad5958850a"), looks := false }, kinds := [], alts := [], laidByText := true, laidKinds := [.data, .data, .data], laidTests := true, laidLooks := .later }
def HideMeasuresUptoCardSaid : Prop := Claim7.holds Tryd.pinned (.plain (OpenSpec.upto hideMeasuresSpec)) hideMeasuresUptoCard

/-- THE SECOND FORM's CARD OF 'pommellaw02.HideLays'. -/
def hideLaysUptoCard : Claim7 := { stood := { row := hideLaysUptoRow, standIns := [], harness := (true, "7d7ca629727a67c69697fa99562906d96e4e42d85834df43ec9eacad5958850a"), looks := false }, kinds := [], alts := [], laidByText := true, laidKinds := [.data, .data, .data], laidTests := true, laidLooks := .later }
def HideLaysUptoCardSaid : Prop := Claim7.holds Tryd.pinned (.plain (OpenSpec.upto hideLaysSpec)) hideLaysUptoCard

/-- THE SECOND FORM's CARD OF 'pommellaw02.HideNets'. -/
def hideNetsUptoCard : Claim7 := { stood := { row := hideNetsUptoRow, standIns := [], harness := (true, "7d7ca629727a67c69697fa99562906d96e4e42d85834df43ec9eacad5958850a"), looks := false }, kinds := [], alts := [], laidByText := true, laidKinds := [.data, .data, .data], laidTests := true, laidLooks := .later }
def HideNetsUptoCardSaid : Prop := Claim7.holds Tryd.pinned (.plain (OpenSpec.upto hideNetsSpec)) hideNetsUptoCard

/-- THE SECOND FORM's CARD OF 'pommellaw02.HideCompounds'. -/
def hideCompoundsUptoCard : Claim7 := { stood := { row := hideCompoundsUptoRow, standIns := [], harness := (true, "7d7ca629727a67c69697fa99562906d96e4e42d85834df43ec9eacad5958850a"), looks := false }, kinds := [], alts := [], laidByText := true, laidKinds := [.data, .data, .data], laidTests := true, laidLooks := .later }
def HideCompoundsUptoCardSaid : Prop := Claim7.holds Tryd.pinned (.plain (OpenSpec.upto hideCompoundsSpec)) hideCompoundsUptoCard

/-- THE SECOND FORM's CARD OF 'pommellaw02.HideFewest'. -/
def hideFewestUptoCard : Claim7 := { stood := { row := hideFewestUptoRow, standIns := [], harness := (true, "7d7ca629727a67c69697fa99562906d96e4e42d85834df43ec9eacad5958850a"), looks := false }, kinds := [], alts := [], laidByText := true, laidKinds := [.data, .data, .data], laidTests := true, laidLooks := .later }
def HideFewestUptoCardSaid : Prop := Claim7.holds Tryd.pinned (.plain (OpenSpec.upto hideFewestSpec)) hideFewestUptoCard

/-- THE SECOND FORM's CARD OF 'pommellaw02.HideEuclids'. -/
def hideEuclidsUptoCard : Claim7 := { stood := { row := hideEuclidsUptoRow, standIns := [], harness := (true, "7d7ca629727a67c69697fa99562906d96e4e42d85834df43ec9eacad5958850a"), looks := false }, kinds := [], alts := [], laidByText := true, laidKinds := [.data, .data, .data], laidTests := true, laidLooks := .later }
def HideEuclidsUptoCardSaid : Prop := Claim7.holds Tryd.pinned (.plain (OpenSpec.upto hideEuclidsSpec)) hideEuclidsUptoCard

/-- THE SECOND FORM's CARD OF 'pommellaw02.HideCodes'. -/
def hideCodesUptoCard : Claim7 := { stood := { row := hideCodesUptoRow, standIns := [], harness := (true, "7d7ca629727a67c69697fa99562906d96e4e42d85834df43ec9eacad5958850a"), looks := false }, kinds := [], alts := [], laidByText := true, laidKinds := [.data, .data, .data], laidTests := true, laidLooks := .later }
def HideCodesUptoCardSaid : Prop := Claim7.holds Tryd.pinned (.plain (OpenSpec.upto hideCodesSpec)) hideCodesUptoCard

/-- THE SECOND FORM's CARD OF 'pommellaw02.HideLess'. -/
def hideLessUptoCard : Claim7 := { stood := { row := hideLessUptoRow, standIns := [], harness := (true, "7d7ca629727a67c69697fa99562906d96e4e42d85834df43ec9eacad5958850a"), looks := false }, kinds := [], alts := [], laidByText := true, laidKinds := [.data, .data, .data], laidTests := true, laidLooks := .later }
def HideLessUptoCardSaid : Prop := Claim7.holds Tryd.pinned (.plain (OpenSpec.upto hideLessSpec)) hideLessUptoCard

/-- THE SECOND FORM's CARD OF 'pommellaw02.HideMirrored'. -/
def hideMirroredUptoCard : Claim7 := { stood := { row := hideMirroredUptoRow, standIns := [], harness := (true, "7d7ca629727a67c69697fa99562906d96e4e42d85834df43ec9eacad5958850a"), looks := false }, kinds := [], alts := [], laidByText := true, laidKinds := [.data, .data, .data], laidTests := true, laidLooks := .later }
def HideMirroredUptoCardSaid : Prop := Claim7.holds Tryd.pinned (.plain (OpenSpec.upto hideMirroredSpec)) hideMirroredUptoCard

/-- THE SECOND FORM's CARD OF 'pommellaw02.HideTrees'. -/
def hideTreesUptoCard : Claim7 := { stood := { row := hideTreesUptoRow, standIns := [], harness := (true, "7d7ca629727a67c69697fa99562906d96e4e42d85834df43ec9eacad5958850a"), looks := false }, kinds := [], alts := [], laidByText := true, laidKinds := [.data, .data, .data], laidTests := true, laidLooks := .later }
def HideTreesUptoCardSaid : Prop := Claim7.holds Tryd.pinned (.plain (OpenSpec.upto hideTreesSpec)) hideTreesUptoCard
end Rows
end Go.Proofs.YtnhbkoeomefkdaaDoor
