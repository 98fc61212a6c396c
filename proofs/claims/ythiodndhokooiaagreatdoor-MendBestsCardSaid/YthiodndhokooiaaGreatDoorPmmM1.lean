/- The law's maker of jobs and pairs. -/
import Derived.Test.YthiodndhokooiaaGreatDoorPmmB4
import Derived.Test.YthiodndhokooiaaGreatDoorPmmA8
set_option linter.unusedSimpArgs false
namespace Go.Proofs.YthiodndhokooiaaGreatDoor.Ev
open Go Go.Proofs
noncomputable section

/-- bytes by twos -/
def prB (xs : List (Nat × Nat)) : List Value := xs.flatMap fun p => [.int .u8 (p.1 : Nat), .int .u8 (p.2 : Nat)]
end
end Go.Proofs.YthiodndhokooiaaGreatDoor.Ev

