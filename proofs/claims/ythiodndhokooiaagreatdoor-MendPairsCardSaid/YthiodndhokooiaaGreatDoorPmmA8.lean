/- The reference's Valid. -/
import Derived.Test.YthiodndhokooiaaGreatDoorPmmA6
set_option linter.unusedSimpArgs false
namespace Go.Proofs.YthiodndhokooiaaGreatDoor.Ev
open Go Go.Proofs
noncomputable section

theorem bfP_tb {j i : Nat} : ∀ {ps : List (Int × Int)} {s : Nat}, (ps.foldl (fun s p => if p.2 = (j : Int) then s ||| 2 ^ p.1.toNat else s) s).testBit i = (s.testBit i || ps.any fun p => decide (p.2 = (j : Int) ∧ p.1.toNat = i))
  | [], s => by simp
  | p :: ps, s => by
    rw [List.foldl_cons, bfP_tb, List.any_cons]
    by_cases e : p.2 = (j : Int)
    · rw [if_pos e, or_tb]
      by_cases e2 : p.1.toNat = i
      · simp [e, e2]
      · simp [e, e2]
    · rw [if_neg e]
      simp [e]
end
end Go.Proofs.YthiodndhokooiaaGreatDoor.Ev

