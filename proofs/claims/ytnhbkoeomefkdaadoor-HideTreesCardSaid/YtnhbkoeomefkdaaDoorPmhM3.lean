/- The law HideMirrored. -/
import Derived.Test.YtnhbkoeomefkdaaDoorPmhQQ
import Derived.Test.YtnhbkoeomefkdaaDoorPmhM1
import Derived.Test.YtnhbkoeomefkdaaDoorPmhLL
import Derived.Laws.StructEq
set_option linter.unusedVariables false
set_option linter.unusedSimpArgs false
namespace Go.Proofs.YtnhbkoeomefkdaaDoor.Ev.L
open Go Go.Proofs Go.Proofs.YtnhbkoeomefkdaaDoor.Ev
noncomputable section

theorem sqc_get3 {M : List Sq} {e : Nat} {q : Sq} (h : M[e]? = some q) : sqc M = sqc (M.take e) ++ tri q.1 q.2.1 q.2.2 ++ sqc (M.drop (e + 1)) := by
  have hd : M = M.take e ++ q :: M.drop (e + 1) := by
    obtain ⟨g, rfl⟩ := List.getElem?_eq_some_iff.1 h
    rw [← List.drop_eq_getElem_cons g, List.take_append_drop]
  conv => lhs; rw [hd]
  rw [sqc_app]
  have : sqc (q :: M.drop (e + 1)) = tri q.1 q.2.1 q.2.2 ++ sqc (M.drop (e + 1)) := rfl
  rw [this, List.append_assoc]
end
end Go.Proofs.YtnhbkoeomefkdaaDoor.Ev.L

