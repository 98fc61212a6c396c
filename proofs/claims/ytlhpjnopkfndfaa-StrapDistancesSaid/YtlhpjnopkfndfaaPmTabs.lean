/- The tables that the program's package-level variables hold: none. -/
import Derived.Test.YtlhpjnopkfndfaaPmEvL
namespace Go.Proofs.Ytlhpjnopkfndfaa.Ev
open Go
noncomputable def tabs : List (Nat × List Value) := []
end Go.Proofs.Ytlhpjnopkfndfaa.Ev
