/- What is the least part; mirrored within its rectangle it makes a cut again. Mathematics alone. -/
import Derived.Test.YtnhbkoeomefkdaaDoorPmhNN
import Derived.Test.YtnhbkoeomefkdaaDoorPmhA7
set_option linter.unusedVariables false
set_option linter.unusedSimpArgs false
namespace Go.Proofs.YtnhbkoeomefkdaaDoor.Ev.L
open Go Go.Proofs.YtnhbkoeomefkdaaDoor.Ev
noncomputable section

theorem apart_of {O : List Sq} (h : O.Pairwise fun a b => ¬ ovl a b) {a b : Sq} (ha : a ∈ O) (hb : b ∈ O) (hne : a ≠ b) : ¬ ovl a b := by
  obtain ⟨i, hi, rfl⟩ := List.mem_iff_getElem.1 ha
  obtain ⟨j, hj, rfl⟩ := List.mem_iff_getElem.1 hb
  rcases Nat.lt_trichotomy i j with g | g | g
  · exact List.pairwise_iff_getElem.1 h i j hi hj g
  · subst g; exact absurd rfl hne
  · exact fun ho => List.pairwise_iff_getElem.1 h j i hj hi g (ovl_symm ho)

end
end Go.Proofs.YtnhbkoeomefkdaaDoor.Ev.L

/- A set of squares of a cut that is a rectangle is what lies between two of them. Mathematics alone. -/
set_option linter.unusedVariables false
set_option linter.unusedSimpArgs false
namespace Go.Proofs.YtnhbkoeomefkdaaDoor.Ev.L
open Go Go.Proofs.YtnhbkoeomefkdaaDoor.Ev
noncomputable section

/-- the squares of these numbers -/
def pick (O : List Sq) (p : Nat → Bool) : List Sq := ((List.range O.length).filter p).map fun i => O.getD i (0, 0, 0)
end
end Go.Proofs.YtnhbkoeomefkdaaDoor.Ev.L

