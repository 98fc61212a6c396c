/- One pair more: mathematics. -/
import Derived.Test.YthiodndhokooiaaGreatDoorPmmM1
import Derived.Test.YthiodndhokooiaaGreatDoorPmmA9
import Derived.Test.YthiodndhokooiaaGreatDoorPmmQ4
set_option linter.unusedSimpArgs false
namespace Go.Proofs.YthiodndhokooiaaGreatDoor.Ev
open Go Go.Proofs
noncomputable section

theorem rdy_sum {bf : Nat → Nat} {S : Nat} {g : Nat → Nat} : ∀ {n : Nat}, ((rdy bf n S).map g).sum = sumR n fun j => if S.testBit j = false ∧ an (bf j) S = 0 then g j else 0
  | 0 => rfl
  | n + 1 => by
    rw [sumR_succ, ← rdy_sum (n := n)]
    have e : rdy bf (n + 1) S = if S.testBit n = false ∧ an (bf n) S = 0 then rdy bf n S ++ [n] else rdy bf n S := rdyI_succ
    rw [e]
    by_cases c : S.testBit n = false ∧ an (bf n) S = 0
    · rw [if_pos c, if_pos c]; simp
    · rw [if_neg c, if_neg c]; simp
theorem nOrd_fwd {ps : List (Int × Int)} {n : Nat} : nOrd ps n = fwd (bfP ps) n n 0 := cg_all
end
end Go.Proofs.YthiodndhokooiaaGreatDoor.Ev

