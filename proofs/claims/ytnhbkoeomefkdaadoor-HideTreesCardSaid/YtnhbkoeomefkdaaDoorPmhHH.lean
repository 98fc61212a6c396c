/- Euclid: the program's and the reference's. -/
import Derived.Test.YtnhbkoeomefkdaaDoorPmhA3
set_option linter.unusedSimpArgs false
set_option linter.unusedVariables false
namespace Go.Proofs.YtnhbkoeomefkdaaDoor.Ev.L
open Go Go.Proofs Go.Proofs.YtnhbkoeomefkdaaDoor.Ev
noncomputable section

/-- the sizes that are cut off -/
def eu : Nat → Int → Int → List Int
  | 0, _, _ => []
  | k + 1, w, h => if 0 < w ∧ 0 < h then min w h :: (if h < w then eu k (w - min w h) h else eu k w (h - min w h)) else []
end
end Go.Proofs.YtnhbkoeomefkdaaDoor.Ev.L

