/-
  DERIVED. GIVEN WITH THE SEED: THE CARDS: each row of YtdgdemiifloliaaGreatDoorRows.lean that lists a variable, with what it lists TIED to the program's text (the seventh form; the later family's looks); each row that meets fmt, with fmt's text TOLD by the authors' own Lean function (tested against real Go, not proved from fmt's source: count such statements apart). THE CARD IS WHAT COUNTS. Prove the row's statement (the work); the ties are given (YtdgdemiifloliaaGreatDoorTie.lean); close each card by the builder's one call (the guide's Derived/Test/ToyasCard.lean, 'card_holds'). Laid BY PROGRAM, IN A SANDBOX (cutbox-door.mjs). By AI agents, Wed Nov 11 2026. No macro, syntax, notation, axiom, sorry.
-/
import Derived.Test.YtdgdemiifloliaaGreatDoorRows
import GoSem.ClaimSeven
namespace Go.Proofs.YtdgdemiifloliaaGreatDoor
namespace Rows

/-- THE TIED CARD OF 'pommellaw05.KinFits'. -/
def kinFitsCard : Claim7 := { stood := { row := kinFitsRow, standIns := [], harness := (true, "e3afcfd4a6b98de5dfdcea649eaf1160872ad9daca197c5d68b1f16f29b984b9"), looks := false }, kinds := [], alts := [], laidByText := true, laidKinds := [.data, .data, .data], laidTests := true, laidLooks := .later }
def KinFitsCardSaid : Prop := Claim7.holds Tryz.pinned (.plain (OpenSpec.ofChange kinFitsSpec)) kinFitsCard

/-- THE TIED CARD OF 'pommellaw05.KinTrees'. -/
def kinTreesCard : Claim7 := { stood := { row := kinTreesRow, standIns := [], harness := (true, "e3afcfd4a6b98de5dfdcea649eaf1160872ad9daca197c5d68b1f16f29b984b9"), looks := false }, kinds := [], alts := [], laidByText := true, laidKinds := [.data, .data, .data], laidTests := true, laidLooks := .later }
def KinTreesCardSaid : Prop := Claim7.holds Tryz.pinned (.plain (OpenSpec.ofChange kinTreesSpec)) kinTreesCard

/-- THE TIED CARD OF 'pommellaw05.KinJoins'. -/
def kinJoinsCard : Claim7 := { stood := { row := kinJoinsRow, standIns := [], harness := (true, "e3afcfd4a6b98de5dfdcea649eaf1160872ad9daca197c5d68b1f16f29b984b9"), looks := false }, kinds := [], alts := [], laidByText := true, laidKinds := [.data, .data, .data], laidTests := true, laidLooks := .later }
def KinJoinsCardSaid : Prop := Claim7.holds Tryz.pinned (.plain (OpenSpec.ofChange kinJoinsSpec)) kinJoinsCard

/-- THE TIED CARD OF 'pommellaw05.KinDistances'. -/
def kinDistancesCard : Claim7 := { stood := { row := kinDistancesRow, standIns := [], harness := (true, "e3afcfd4a6b98de5dfdcea649eaf1160872ad9daca197c5d68b1f16f29b984b9"), looks := false }, kinds := [], alts := [], laidByText := true, laidKinds := [.data, .data, .data], laidTests := true, laidLooks := .later }
def KinDistancesCardSaid : Prop := Claim7.holds Tryz.pinned (.plain (OpenSpec.ofChange kinDistancesSpec)) kinDistancesCard

/-- THE TIED CARD OF 'pommellaw05.KinBuneman'. -/
def kinBunemanCard : Claim7 := { stood := { row := kinBunemanRow, standIns := [], harness := (true, "e3afcfd4a6b98de5dfdcea649eaf1160872ad9daca197c5d68b1f16f29b984b9"), looks := false }, kinds := [], alts := [], laidByText := true, laidKinds := [.data, .data, .data], laidTests := true, laidLooks := .later }
def KinBunemanCardSaid : Prop := Claim7.holds Tryz.pinned (.plain (OpenSpec.ofChange kinBunemanSpec)) kinBunemanCard

/-- THE TIED CARD OF 'pommellaw05.KinDress'. -/
def kinDressCard : Claim7 := { stood := { row := kinDressRow, standIns := [], harness := (true, "e3afcfd4a6b98de5dfdcea649eaf1160872ad9daca197c5d68b1f16f29b984b9"), looks := false }, kinds := [], alts := [], laidByText := true, laidKinds := [.data, .data, .data], laidTests := true, laidLooks := .later }
def KinDressCardSaid : Prop := Claim7.holds Tryz.pinned (.plain (OpenSpec.ofChange kinDressSpec)) kinDressCard

/-- THE TIED CARD OF 'pommellaw05.KinNeighbours'. -/
def kinNeighboursCard : Claim7 := { stood := { row := kinNeighboursRow, standIns := [], harness := (true, "e3afcfd4a6b98de5dfdcea649eaf1160872ad9daca197c5d68b1f16f29b984b9"), looks := false }, kinds := [], alts := [], laidByText := true, laidKinds := [.data, .data, .data], laidTests := true, laidLooks := .later }
def KinNeighboursCardSaid : Prop := Claim7.holds Tryz.pinned (.plain (OpenSpec.ofChange kinNeighboursSpec)) kinNeighboursCard

/-- THE TIED CARD OF 'pommellaw05.KinDepths'. -/
def kinDepthsCard : Claim7 := { stood := { row := kinDepthsRow, standIns := [], harness := (true, "e3afcfd4a6b98de5dfdcea649eaf1160872ad9daca197c5d68b1f16f29b984b9"), looks := false }, kinds := [], alts := [], laidByText := true, laidKinds := [.data, .data, .data], laidTests := true, laidLooks := .later }
def KinDepthsCardSaid : Prop := Claim7.holds Tryz.pinned (.plain (OpenSpec.ofChange kinDepthsSpec)) kinDepthsCard

/-- THE TIED CARD OF 'pommellaw05.KinMoved'. -/
def kinMovedCard : Claim7 := { stood := { row := kinMovedRow, standIns := [], harness := (true, "e3afcfd4a6b98de5dfdcea649eaf1160872ad9daca197c5d68b1f16f29b984b9"), looks := false }, kinds := [], alts := [], laidByText := true, laidKinds := [.data, .data, .data], laidTests := true, laidLooks := .later }
def KinMovedCardSaid : Prop := Claim7.holds Tryz.pinned (.plain (OpenSpec.ofChange kinMovedSpec)) kinMovedCard

/-- THE TIED CARD OF 'pommellaw05.KinTwice'. -/
def kinTwiceCard : Claim7 := { stood := { row := kinTwiceRow, standIns := [], harness := (true, "e3afcfd4a6b98de5dfdcea649eaf1160872ad9daca197c5d68b1f16f29b984b9"), looks := false }, kinds := [], alts := [], laidByText := true, laidKinds := [.data, .data, .data], laidTests := true, laidLooks := .later }
def KinTwiceCardSaid : Prop := Claim7.holds Tryz.pinned (.plain (OpenSpec.ofChange kinTwiceSpec)) kinTwiceCard

/-- THE TIED CARD OF 'pommeltop.TopHoles'. -/
def topHolesCard : Claim7 := { stood := { row := topHolesRow, standIns := [], harness := (true, "e3afcfd4a6b98de5dfdcea649eaf1160872ad9daca197c5d68b1f16f29b984b9"), looks := false }, kinds := [], alts := [], laidByText := true, laidKinds := [.data, .data, .data], laidTests := true, laidLooks := .later }
def TopHolesCardSaid : Prop := Claim7.holds Tryz.pinned (.plain (OpenSpec.ofChange topHolesSpec)) topHolesCard

/-- THE SECOND FORM's CARD OF 'pommellaw05.KinFits'. -/
def kinFitsUptoCard : Claim7 := { stood := { row := kinFitsUptoRow, standIns := [], harness := (true, "e3afcfd4a6b98de5dfdcea649eaf1160872ad9daca197c5d68b1f16f29b984b9"), looks := false }, kinds := [], alts := [], laidByText := true, laidKinds := [.data, .data, .data], laidTests := true, laidLooks := .later }
def KinFitsUptoCardSaid : Prop := Claim7.holds Tryz.pinned (.plain (OpenSpec.upto kinFitsSpec)) kinFitsUptoCard

/-- THE SECOND FORM's CARD OF 'pommellaw05.KinTrees'. -/
def kinTreesUptoCard : Claim7 := { stood := { row := kinTreesUptoRow, standIns := [], harness := (true, "e3afcfd4a6b98de5dfdcea649eaf1160872ad9daca197c5d68b1f16f29b984b9"), looks := false }, kinds := [], alts := [], laidByText := true, laidKinds := [.data, .data, .data], laidTests := true, laidLooks := .later }
def KinTreesUptoCardSaid : Prop := Claim7.holds Tryz.pinned (.plain (OpenSpec.upto kinTreesSpec)) kinTreesUptoCard

/-- THE SECOND FORM's CARD OF 'pommellaw05.KinJoins'. -/
def kinJoinsUptoCard : Claim7 := { stood := { row := kinJoinsUptoRow, standIns := [], harness := (true, "e3afcfd4a6b98de5dfdcea649eaf1160872ad9daca197c5d68b1f16f29b984b9"), looks := false }, kinds := [], alts := [], laidByText := true, laidKinds := [.data, .data, .data], laidTests := true, laidLooks := .later }
def KinJoinsUptoCardSaid : Prop := Claim7.holds Tryz.pinned (.plain (OpenSpec.upto kinJoinsSpec)) kinJoinsUptoCard

/-- THE SECOND FORM's CARD OF 'pommellaw05.KinDistances'. -/
def kinDistancesUptoCard : Claim7 := { stood := { row := kinDistancesUptoRow, standIns := [], harness := (true, "e3afcfd4a6b98de5dfdcea649eaf1160872ad9daca197c5d68b1f16f29b984b9"), looks := false }, kinds := [], alts := [], laidByText := true, laidKinds := [.data, .data, .data], laidTests := true, laidLooks := .later }
def KinDistancesUptoCardSaid : Prop := Claim7.holds Tryz.pinned (.plain (OpenSpec.upto kinDistancesSpec)) kinDistancesUptoCard

/-- THE SECOND FORM's CARD OF 'pommellaw05.KinBuneman'. -/
def kinBunemanUptoCard : Claim7 := { stood := { row := kinBunemanUptoRow, standIns := [], harness := (true, "e3afcfd4a6b98de5dfdcea649eaf1160872ad9daca197c5d68b1f16f29b984b9"), looks := false }, kinds := [], alts := [], laidByText := true, laidKinds := [.data, .data, .data], laidTests := true, laidLooks := .later }
def KinBunemanUptoCardSaid : Prop := Claim7.holds Tryz.pinned (.plain (OpenSpec.upto kinBunemanSpec)) kinBunemanUptoCard

/-- THE SECOND FORM's CARD OF 'pommellaw05.KinDress'. -/
def kinDressUptoCard : Claim7 := { stood := { row := kinDressUptoRow, standIns := [], harness := (true, "e3afcfd4a6b98de5dfdcea649eaf1160872ad9daca197c5d68b1f16f29b984b9"), looks := false }, kinds := [], alts := [], laidByText := true, laidKinds := [.data, .data, .data], laidTests := true, laidLooks := .later }
def KinDressUptoCardSaid : Prop := Claim7.holds Tryz.pinned (.plain (OpenSpec.upto kinDressSpec)) kinDressUptoCard

/-- THE SECOND FORM's CARD OF 'pommellaw05.KinNeighbours'. -/
def kinNeighboursUptoCard : Claim7 := { stood := { row := kinNeighboursUptoRow, standIns := [], harness := (true, "e3afcfd4a6b98de5dfdcea649eaf1160872ad9daca197c5d68b1f16f29b984b9"), looks := false }, kinds := [], alts := [], laidByText := true, laidKinds := [.data, .data, .data], laidTests := true, laidLooks := .later }
def KinNeighboursUptoCardSaid : Prop := Claim7.holds Tryz.pinned (.plain (OpenSpec.upto kinNeighboursSpec)) kinNeighboursUptoCard

/-- THE SECOND FORM's CARD OF 'pommellaw05.KinDepths'. -/
def kinDepthsUptoCard : Claim7 := { stood := { row := kinDepthsUptoRow, standIns := [], harness := (true, "e3afcfd4a6b98de5dfdcea649eaf1160872ad9daca197c5d68b1f16f29b984b9"), looks := false }, kinds := [], alts := [], laidByText := true, laidKinds := [.data, .data, .data], laidTests := true, laidLooks := .later }
def KinDepthsUptoCardSaid : Prop := Claim7.holds Tryz.pinned (.plain (OpenSpec.upto kinDepthsSpec)) kinDepthsUptoCard

/-- THE SECOND FORM's CARD OF 'pommellaw05.KinMoved'. -/
def kinMovedUptoCard : Claim7 := { stood := { row := kinMovedUptoRow, standIns := [], harness := (true, "e3afcfd4a6b98de5dfdcea649eaf1160872ad9daca197c5d68b1f16f29b984b9"), looks := false }, kinds := [], alts := [], laidByText := true, laidKinds := [.data, .data, .data], laidTests := true, laidLooks := .later }
def KinMovedUptoCardSaid : Prop := Claim7.holds Tryz.pinned (.plain (OpenSpec.upto kinMovedSpec)) kinMovedUptoCard

/-- THE SECOND FORM's CARD OF 'pommellaw05.KinTwice'. -/
def kinTwiceUptoCard : Claim7 := { stood := { row := kinTwiceUptoRow, standIns := [], harness := (true, "e3afcfd4a6b98de5dfdcea649eaf1160872ad9daca197c5d68b1f16f29b984b9"), looks := false }, kinds := [], alts := [], laidByText := true, laidKinds := [.data, .data, .data], laidTests := true, laidLooks := .later }
def KinTwiceUptoCardSaid : Prop := Claim7.holds Tryz.pinned (.plain (OpenSpec.upto kinTwiceSpec)) kinTwiceUptoCard

/-- THE SECOND FORM's CARD OF 'pommeltop.TopHoles'. -/
def topHolesUptoCard : Claim7 := { stood := { row := topHolesUptoRow, standIns := [], harness := (true, "e3afcfd4a6b98de5dfdcea649eaf1160872ad9daca197c5d68b1f16f29b984b9"), looks := false }, kinds := [], alts := [], laidByText := true, laidKinds := [.data, .data, .data], laidTests := true, laidLooks := .later }
def TopHolesUptoCardSaid : Prop := Claim7.holds Tryz.pinned (.plain (OpenSpec.upto topHolesSpec)) topHolesUptoCard
end Rows
end Go.Proofs.YtdgdemiifloliaaGreatDoor
