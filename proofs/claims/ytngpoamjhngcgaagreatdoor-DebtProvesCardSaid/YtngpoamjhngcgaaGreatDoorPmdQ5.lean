/- Debts without rings: firm after firm goes. Mathematics alone. -/
import Derived.Test.YtngpoamjhngcgaaGreatDoorPmdQ4
namespace Go.Proofs.YtngpoamjhngcgaaGreatDoor.Ev

/-- what one owes to those that are not gone -/
def owes (n : Nat) (r : Nat → Nat → Int) (G : Nat → Bool) (i : Nat) : Int := sm n fun j => if G j = true then 0 else r i j
end Go.Proofs.YtngpoamjhngcgaaGreatDoor.Ev

