/- The law's maker of cuts. -/
import Derived.Test.YtnhbkoeomefkdaaDoorPmhQ3
import Derived.Test.YtnhbkoeomefkdaaDoorPmhA8
set_option linter.unusedVariables false
set_option linter.unusedSimpArgs false
namespace Go.Proofs.YtnhbkoeomefkdaaDoor.Ev.L
open Go Go.Proofs Go.Proofs.YtnhbkoeomefkdaaDoor.Ev
noncomputable section

section
variable {P : Program} {E : Env} {n : Nat} {a b c : Code} {k : List Frm} {α : Tr Value} {h : H} {R : Rt}
end
theorem wrap_u8 {x : Int} (h1 : 0 ≤ x) (h2 : x ≤ 255) : IntKind.u8.wrap x = x := by
  unfold IntKind.wrap
  simp [IntKind.bits, IntKind.signed]
  omega
/-- the list while squares are scaled, one after the other -/
def part (m : Int) (k : Nat) (L : List Sq) : List Sq := (L.take k).map (scl m) ++ L.drop k
end
end Go.Proofs.YtnhbkoeomefkdaaDoor.Ev.L

