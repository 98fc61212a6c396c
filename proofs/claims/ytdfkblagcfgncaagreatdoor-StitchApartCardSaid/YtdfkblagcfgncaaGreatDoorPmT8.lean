/- Steps of a seam. Mathematics alone. -/
import Derived.Test.YtdfkblagcfgncaaGreatDoorPmT6
import Derived.Test.YtdfkblagcfgncaaGreatDoorPmT7
namespace Go.Proofs.YtdfkblagcfgncaaGreatDoor.Ev
variable {cm : Nat → Nat → Bool}

/-- the letters of a height, of the first i -/
def sp (cm : Nat → Nat → Bool) (l : List UInt8) (n : Nat) : Nat → List UInt8
  | 0 => []
  | i + 1 => if ht cm l i = n then sp cm l n i ++ [l.getD i 0] else sp cm l n i
/-- the greatest height of the first i -/
def mx (cm : Nat → Nat → Bool) (l : List UInt8) : Nat → Nat
  | 0 => 0
  | i + 1 => max (mx cm l i) (ht cm l i)
end Go.Proofs.YtdfkblagcfgncaaGreatDoor.Ev

