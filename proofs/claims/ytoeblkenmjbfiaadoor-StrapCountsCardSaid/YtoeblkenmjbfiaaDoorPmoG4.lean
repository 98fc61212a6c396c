/- The first distance that comes twice; the calls with their errors. -/
import Derived.Test.YtoeblkenmjbfiaaDoorPmoG1
set_option linter.unusedSimpArgs false
set_option linter.unusedVariables false
namespace Go.Proofs.YtoeblkenmjbfiaaDoor.Ev
open Go Go.Proofs
noncomputable section

theorem nil_some {P : Program} {E : Env} {t e : TypeId} (hu : E.u t = some (.slice e)) {a : Addr} {n c : Nat} : binO P E .eql t (some (.slice (some a) n c)) (some (.slice none 0 0)) = some (.bool false) := by
  simp [binO, evNil, hu, Ev.plainA, plain]
theorem nil_nil {P : Program} {E : Env} {t e : TypeId} (hu : E.u t = some (.slice e)) : binO P E .eql t (some (.slice none 0 0)) (some (.slice none 0 0)) = some (.bool true) := by
  simp [binO, evNil, hu, Ev.plainA, plain]
end
end Go.Proofs.YtoeblkenmjbfiaaDoor.Ev


