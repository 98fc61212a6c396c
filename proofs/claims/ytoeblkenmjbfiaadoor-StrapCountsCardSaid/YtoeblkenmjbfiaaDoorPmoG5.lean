/- Lists that are the same; holes. -/
import Derived.Test.YtoeblkenmjbfiaaDoorPmoG4
set_option linter.unusedSimpArgs false
set_option linter.unusedVariables false
namespace Go.Proofs.YtoeblkenmjbfiaaDoor.Ev
open Go Go.Proofs
noncomputable section

/-- the holes that bytes make -/
def hol (x : List UInt8) : Nat → Int
  | 0 => 0
  | i + 1 => hol x i + ((x.getD i 0).toNat % 20 : Nat) + 1
end
end Go.Proofs.YtoeblkenmjbfiaaDoor.Ev


