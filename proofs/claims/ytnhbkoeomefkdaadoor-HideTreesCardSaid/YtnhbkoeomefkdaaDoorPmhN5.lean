/- The document's Compound: all sets of squares are tried. -/
import Derived.Test.YtnhbkoeomefkdaaDoorPmhQQ
import Derived.Test.YtnhbkoeomefkdaaDoorPmBt
import Derived.Test.YtnhbkoeomefkdaaDoorPmSS
import Derived.Test.YtnhbkoeomefkdaaDoorPmhHH
set_option linter.unusedVariables false
set_option linter.unusedSimpArgs false
namespace Go.Proofs.YtnhbkoeomefkdaaDoor.Ev.L
open Go Go.Proofs Go.Proofs.YtnhbkoeomefkdaaDoor.Ev
noncomputable section

theorem bit_and {G m i : Nat} (hm : m < 1048576) : binO Tryd.prog (En G) .and 3 (some (.int .i64 ((m >>> i : Nat) : Int))) (some (.int .i64 1)) = some (.int .i64 ((m >>> i &&& 1 : Nat) : Int)) :=
  bin_and (a := m >>> i) (b := 1) (by have := Nat.shiftRight_le m i; omega) (by decide)
end
end Go.Proofs.YtnhbkoeomefkdaaDoor.Ev.L

