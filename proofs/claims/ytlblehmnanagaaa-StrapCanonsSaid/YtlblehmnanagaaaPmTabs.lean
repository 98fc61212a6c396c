/- The tables that the program's package-level variables hold: none. -/
import Derived.Test.YtlblehmnanagaaaPmEvL
namespace Go.Proofs.Ytlblehmnanagaaa.Ev
open Go
noncomputable def tabs : List (Nat × List Value) := []
end Go.Proofs.Ytlblehmnanagaaa.Ev

