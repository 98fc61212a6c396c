/- A law's call whose arguments lie in memory, out of the evaluator's run. -/
import Derived.Test.YtnhbkoeomefkdaaDoorPmhC0b
import Derived.Test.YtnhbkoeomefkdaaDoorPmArg
import Derived.Carry
import Derived.SizedLaws
import Derived.Deep.Slices
import Derived.Test.YtnhbkoeomefkdaaDoorPmhQ1
set_option linter.unusedVariables false
set_option linter.unusedSimpArgs false
namespace Go.Proofs.YtnhbkoeomefkdaaDoor.PmC
open Go.ChangeShapes Go.WideShapes Go.ChangeAt Go.RowKit
open Go.Proofs Go.Proofs.YtnhbkoeomefkdaaDoor
open Go.Proofs.YtnhbkoeomefkdaaDoor.Ev (TabsW TabsIn tabs vals0 vals1 vals2 En H CallsE callRun Hok HR Tr VR VRs Phi ArgB heapA phiA ArgsIn heapA_rel heapA_ok heapA_low heapA_arg phiA_fresh phiA_arg cells_world SlV Blk)

/-- a slice that came in is what was read of it, so long -/
def Long {H : Type} (d : DataW H) (n : Nat) : Prop := n = 0 ∨ ∃ elems spare, d = .slice elems spare ∧ elems.length = n
theorem Long.top {H : Type} {d : DataW H} {n : Nat} (h : Long d n) (hs : ∀ elems spare, d = .slice elems spare → (elems.length + spare.length) * Tryd.prog.bytesOf 61 ≤ reachBytes) : n < 4611686018427387904 := by
  rcases h with rfl | ⟨e, s, hd, rfl⟩
  · decide
  · have h1 := hs e s hd
    have hb : Tryd.prog.bytesOf 61 = 24 := by kernel_rfl
    rw [hb] at h1
    have h2 := reachBytes_lt
    omega
end Go.Proofs.YtnhbkoeomefkdaaDoor.PmC

