/- Structs compared. -/
import Derived.Test.YtnhbkoeomefkdaaDoorPmhLL
import Derived.Laws.StructEq
set_option linter.unusedSimpArgs false
set_option linter.unusedVariables false
namespace Go.Proofs.YtnhbkoeomefkdaaDoor.Ev.L
open Go Go.Proofs Go.Proofs.YtnhbkoeomefkdaaDoor.Ev
noncomputable section

theorem pureRun_bindS {α β : Type} {P : Program} : ∀ (m : Sem α) (f : α → Sem β), pureRun P (m >>= f) = (pureRun P m).bind fun a => pureRun P (f a) := by
  intro m
  induction m with
  | pure a => intro f; rfl
  | program k ih => intro f; exact ih P f
  | _ => intro f; rfl
theorem pureRun_pure {α : Type} {P : Program} {a : α} : pureRun P (pure a) = some a := rfl
theorem eq3 {d : Nat} {a b : Int} : pureRun Tryd.prog (Op.equalIn (d + 1) 3 (.int .i64 a) (.int .i64 b)) = some (a == b) := by kernel_rfl
theorem pureProg {P : Program} : pureRun P program = some P := rfl
end
end Go.Proofs.YtnhbkoeomefkdaaDoor.Ev.L

