/- Differences on a round strap; whether each comes equally often. -/
import Derived.Test.YtlblehmnanagaaaPmG8
set_option linter.unusedSimpArgs false
set_option linter.unusedVariables false
namespace Go.Proofs.Ytlblehmnanagaaa.Ev
open Go Go.Proofs
noncomputable section

theorem roundE_zero {v : Int} {n : Nat} {f : Nat → Int} (h : roundE v n f 0) : n ≤ 31 ∧ (2 ≤ v ∧ v ≤ 31) ∧ RiseP n (v - 1) f := by
  rcases h with ⟨_, e⟩ | ⟨_, _, e⟩ | ⟨_, _, _, e⟩ | ⟨a, b, c, _⟩
  · omega
  · omega
  · omega
  · exact ⟨a, b, c⟩

end
end Go.Proofs.Ytlblehmnanagaaa.Ev

