/- The document's Compound: all sets of squares are tried. -/
import Derived.Test.YtnhbkoeomefkdaaDoorPmhQQ
import Derived.Test.YtnhbkoeomefkdaaDoorPmBt
import Derived.Test.YtnhbkoeomefkdaaDoorPmSS
import Derived.Test.YtnhbkoeomefkdaaDoorPmhHH
set_option linter.unusedVariables false
set_option linter.unusedSimpArgs false
namespace Go.Proofs.YtnhbkoeomefkdaaDoor.Ev.L
open Go Go.Proofs Go.Proofs.YtnhbkoeomefkdaaDoor.Ev
noncomputable section

theorem neqNil27 {P : Program} {G n c : Nat} {A : Option Addr} : binO P (En G) .neq 27 (some (.slice A n c)) (some (.slice none 0 0)) = some (.bool A.isSome) := by
  have h : evNil (En G) 27 (.slice A n c) (.slice none 0 0) = some A.isNone := by
    simp only [evNil, u27]
    cases A <;> rfl
  have hp : (plainA (.slice A n c) && plainA (.slice none 0 0)) = false := rfl
  simp only [binO, hp, h]
  cases A <;> rfl
end
end Go.Proofs.YtnhbkoeomefkdaaDoor.Ev.L

