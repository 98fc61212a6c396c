/- Structs compared. -/
import Derived.Test.YtnhbkoeomefkdaaDoorPmhLL
import Derived.Laws.StructEq
set_option linter.unusedSimpArgs false
set_option linter.unusedVariables false
namespace Go.Proofs.YtnhbkoeomefkdaaDoor.Ev.L
open Go Go.Proofs Go.Proofs.YtnhbkoeomefkdaaDoor.Ev
noncomputable section

theorem pureRun_bindS {α β : Type} {P : Program} : ∀ (m : Sem α) (f : α → Sem β), pureRun P (m >>= f) = (pureRun P m).bind fun a => pureRun P (f a) := by
  intro m
  induction m with
  | pure a => intro f; rfl
  | program k ih => intro f; exact ih P f
  | _ => intro f; rfl
theorem pureRun_pure {α : Type} {P : Program} {a : α} : pureRun P (pure a) = some a := rfl
theorem eq3 {d : Nat} {a b : Int} : pureRun Tryd.prog (Op.equalIn (d + 1) 3 (.int .i64 a) (.int .i64 b)) = some (a == b) := by kernel_rfl
theorem und61 : pureRun Tryd.prog (underlying 61) = some (.struct (Tryd.prog.fieldsOf 61)) := by kernel_rfl
theorem flds61 : (Tryd.prog.fieldsOf 61).toList = [{ name := "X", type := 3, offset := 0, embedded := false, tag := "", pkgPath := "", byteOffset := 0 },
        { name := "Y", type := 3, offset := 1, embedded := false, tag := "", pkgPath := "", byteOffset := 8 },
        { name := "Size", type := 3, offset := 2, embedded := false, tag := "", pkgPath := "", byteOffset := 16 }] := by kernel_rfl
theorem held61 : Tryd.prog.stoodInHeld 61 = false := by kernel_rfl
theorem guard61 : Tryd.prog.eqGuardType Tryd.prog.depth 61 = false := by kernel_rfl
theorem pureProg {P : Program} : pureRun P program = some P := rfl
theorem part3_0 {x : Int} {y s : Value} : pureRun Tryd.prog (part 3 #[.int .i64 x, y, s] 0) = some (.int .i64 x) := by kernel_rfl
theorem part3_1 {y : Int} {x s : Value} : pureRun Tryd.prog (part 3 #[x, .int .i64 y, s] 1) = some (.int .i64 y) := by kernel_rfl
theorem part3_2 {s : Int} {x y : Value} : pureRun Tryd.prog (part 3 #[x, y, .int .i64 s] 2) = some (.int .i64 s) := by kernel_rfl
end
end Go.Proofs.YtnhbkoeomefkdaaDoor.Ev.L

