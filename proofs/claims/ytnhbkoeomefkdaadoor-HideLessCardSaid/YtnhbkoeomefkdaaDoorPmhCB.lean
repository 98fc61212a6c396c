/- Arguments: bytes. -/
import Derived.Test.YtnhbkoeomefkdaaDoorPmhCA
import Derived.Test.YtnhbkoeomefkdaaDoorPmhM1
set_option linter.unusedVariables false
set_option linter.unusedSimpArgs false
namespace Go.Proofs.YtnhbkoeomefkdaaDoor.PmC
open Go.ChangeShapes Go.WideShapes Go.ChangeAt Go.RowKit
open Go.Proofs Go.Proofs.YtnhbkoeomefkdaaDoor
open Go.Proofs.YtnhbkoeomefkdaaDoor.Ev (TabsW TabsIn tabs VR VRs Phi ArgB heapA phiA ArgsIn cells_world SlV Blk Tr)
theorem wf_u8 {z : Int} (h : (Lit.int .u8 z).wf = true) : 0 ≤ z ∧ z ≤ 255 := by
  simp only [Lit.wf, Bool.and_eq_true, decide_eq_true_eq] at h
  simp [IntKind.min, IntKind.max, IntKind.signed, IntKind.bits] at h
  omega
end Go.Proofs.YtnhbkoeomefkdaaDoor.PmC

