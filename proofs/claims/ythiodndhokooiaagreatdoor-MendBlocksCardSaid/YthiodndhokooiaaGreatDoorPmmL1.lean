/- The reference's Least. -/
import Derived.Test.YthiodndhokooiaaGreatDoorPmmB3
import Derived.Test.YthiodndhokooiaaGreatDoorPmmA8
import Derived.Test.YthiodndhokooiaaGreatDoorPmmQ4
set_option linter.unusedSimpArgs false
namespace Go.Proofs.YthiodndhokooiaaGreatDoor.Ev
open Go Go.Proofs
noncomputable section

theorem cnt_small {bf : Nat → Nat} {n S : Nat} (hn : 1 ≤ n) (hn2 : n ≤ 10) (hS : S < 2 ^ n) : cnt bf n S ≤ 10000000000 := by
  unfold cnt
  cases e : cg bf n S S with
  | none => simp
  | some c => exact cg_small hn hn2 (Nat.le_refl _) hS e
end
end Go.Proofs.YthiodndhokooiaaGreatDoor.Ev

