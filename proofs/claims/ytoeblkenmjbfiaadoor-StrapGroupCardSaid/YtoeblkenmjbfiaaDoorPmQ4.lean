/- Multiplied and moved sets: what stays the same. Mathematics alone. -/
import Derived.Test.YtoeblkenmjbfiaaDoorPmQ3
set_option linter.unusedVariables false
set_option linter.unusedSimpArgs false
namespace Go.Proofs.YtoeblkenmjbfiaaDoor.Ev

theorem inv_tab : ∀ V : Fin 32, ∀ t : Fin 32, 2 ≤ V.val → t.val < V.val → Nat.gcd t.val V.val = 1 → ∃ r : Fin 32, r.val < V.val ∧ Nat.gcd r.val V.val = 1 ∧ (t.val * r.val) % V.val = 1 := by decide +kernel
theorem inv_ex {V t : Nat} (hV : 2 ≤ V) (hV2 : V ≤ 31) (ht : t < V) (hg : Nat.gcd t V = 1) : ∃ r : Nat, r < V ∧ Nat.gcd r V = 1 ∧ (t * r) % V = 1 := by
  obtain ⟨r, h1, h2, h3⟩ := inv_tab ⟨V, by omega⟩ ⟨t, by omega⟩ hV ht hg
  exact ⟨r.val, h1, h2, h3⟩
theorem gcd_mul_mod {V t u : Nat} (ht : Nat.gcd t V = 1) (hu : Nat.gcd u V = 1) : Nat.gcd ((t * u) % V) V = 1 := by
  rw [← Nat.gcd_rec, Nat.gcd_comm]
  exact Nat.Coprime.mul_left ht hu
end Go.Proofs.YtoeblkenmjbfiaaDoor.Ev

