/- The tables that the program's package-level variables hold: none. -/
import Derived.Test.YtoeblkenmjbfiaaDoorPmEvL
namespace Go.Proofs.YtoeblkenmjbfiaaDoor.Ev
open Go
noncomputable def tabs : List (Nat × List Value) := []
end Go.Proofs.YtoeblkenmjbfiaaDoor.Ev

