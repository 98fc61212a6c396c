/- The law's maker of cuts. -/
import Derived.Test.YtnhbkoeomefkdaaDoorPmhQ3
import Derived.Test.YtnhbkoeomefkdaaDoorPmhA5
import Derived.Test.YtnhbkoeomefkdaaDoorPmSS
set_option linter.unusedVariables false
set_option linter.unusedSimpArgs false
namespace Go.Proofs.YtnhbkoeomefkdaaDoor.Ev.L
open Go Go.Proofs Go.Proofs.YtnhbkoeomefkdaaDoor.Ev
noncomputable section

section
variable {P : Program} {E : Env} {n : Nat} {a b c : Code} {k : List Frm} {α : Tr Value} {h : H} {R : Rt}
end
theorem wrap_u8 {x : Int} (h1 : 0 ≤ x) (h2 : x ≤ 255) : IntKind.u8.wrap x = x := by
  unfold IntKind.wrap
  simp [IntKind.bits, IntKind.signed]
  omega
theorem conv53 {P : Program} {G z : Nat} {B : Tr Blk} (h : z ≤ 255) : convO P (En G) B 5 3 (some (.int .u8 (z : Int))) = some (.int .i64 z) := by
  rw [convO_int u5 u3, wrap_i64 (by omega) (by omega)]
/-- the list while squares are scaled, one after the other -/
def part (m : Int) (k : Nat) (L : List Sq) : List Sq := (L.take k).map (scl m) ++ L.drop k
end
end Go.Proofs.YtnhbkoeomefkdaaDoor.Ev.L

