/-
  DERIVED. GIVEN WITH THE SEED: THE CARDS: each row of YtihmbbgnielbnaaGreatDoorRows.lean that lists a variable, with what it lists TIED to the program's text (the seventh form; the later family's looks); each row that meets fmt, with fmt's text TOLD by the authors' own Lean function (tested against real Go, not proved from fmt's source: count such statements apart). THE CARD IS WHAT COUNTS. Prove the row's statement (the work); the ties are given (YtihmbbgnielbnaaGreatDoorTie.lean); close each card by the builder's one call (the guide's Derived/Test/ToyasCard.lean, 'card_holds'). Laid BY PROGRAM, IN A SANDBOX (cutbox-door.mjs). By AI agents, Wed Nov 11 2026. No macro, syntax, notation, axiom, sorry.
-/
import Derived.Test.YtihmbbgnielbnaaGreatDoorRows
import GoSem.ClaimSeven
namespace Go.Proofs.YtihmbbgnielbnaaGreatDoor
namespace Rows

/-- THE TIED CARD OF 'pommellaw01.DebtProves'. -/
def debtProvesCard : Claim7 := { stood := { row := debtProvesRow, standIns := [], harness := (true, "21a4446bf7d2eeb26a8f2178aca3d946c30737fd55f062f7ded9bb2578606576"), looks := false }, kinds := [], alts := [], laidByText := true, laidKinds := [.data, .data, .data], laidTests := true, laidLooks := .later }
def DebtProvesCardSaid : Prop := Claim7.holds Tryz.pinned (.plain (OpenSpec.ofChange debtProvesSpec)) debtProvesCard

/-- THE SECOND FORM's CARD OF 'pommellaw01.DebtProves'. -/
def debtProvesUptoCard : Claim7 := { stood := { row := debtProvesUptoRow, standIns := [], harness := (true, "21a4446bf7d2eeb26a8f2178aca3d946c30737fd55f062f7ded9bb2578606576"), looks := false }, kinds := [], alts := [], laidByText := true, laidKinds := [.data, .data, .data], laidTests := true, laidLooks := .later }
def DebtProvesUptoCardSaid : Prop := Claim7.holds Tryz.pinned (.plain (OpenSpec.upto debtProvesSpec)) debtProvesUptoCard
end Rows
end Go.Proofs.YtihmbbgnielbnaaGreatDoor
