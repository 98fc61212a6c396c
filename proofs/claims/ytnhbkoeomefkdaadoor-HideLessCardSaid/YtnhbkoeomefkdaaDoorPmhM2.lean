/- The law HideCodes. -/
import Derived.Test.YtnhbkoeomefkdaaDoorPmhM1
import Derived.Test.YtnhbkoeomefkdaaDoorPmhLL
import Derived.Laws.StructEq
set_option linter.unusedVariables false
set_option linter.unusedSimpArgs false
namespace Go.Proofs.YtnhbkoeomefkdaaDoor.Ev.L
open Go Go.Proofs Go.Proofs.YtnhbkoeomefkdaaDoor.Ev
noncomputable section

theorem sqCells_toL : ∀ {O : List Sq}, (∀ q ∈ O, 0 ≤ q.1) → sqCells (O.map toL) = sqc O
  | [], _ => rfl
  | q :: O, h => by
    have h0 := h q List.mem_cons_self
    have ih := sqCells_toL (O := O) fun p hp => h p (List.mem_cons_of_mem _ hp)
    have e1 : sqCells ((q :: O).map toL) = [.int .i64 ((q.1.toNat : Nat) : Int), .int .i64 q.2.1, .int .i64 q.2.2] ++ sqCells (O.map toL) := rfl
    have e2 : sqc (q :: O) = [.int .i64 q.1, .int .i64 q.2.1, .int .i64 q.2.2] ++ sqc O := rfl
    rw [e1, e2, ih, show ((q.1.toNat : Nat) : Int) = q.1 by omega]

end
end Go.Proofs.YtnhbkoeomefkdaaDoor.Ev.L

