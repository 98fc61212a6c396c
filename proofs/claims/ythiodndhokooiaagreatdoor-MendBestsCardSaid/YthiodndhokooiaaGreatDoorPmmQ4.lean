/- The least cost, by the last jobs. Mathematics alone. -/
import Derived.Test.YthiodndhokooiaaGreatDoorPmmQ3
namespace Go.Proofs.YthiodndhokooiaaGreatDoor.Ev

section
variable {bf ln wt : Nat → Nat} {n : Nat}
theorem sumR_ne {g : Nat → Nat} : ∀ {N : Nat}, sumR N g ≠ 0 → ∃ x, x < N ∧ g x ≠ 0
  | 0, h => absurd rfl h
  | N + 1, h => by
    rw [sumR_succ] at h
    by_cases e : g N = 0
    · obtain ⟨x, hx, hg⟩ := sumR_ne (g := g) (N := N) (by omega)
      exact ⟨x, by omega, hg⟩
    · exact ⟨N, by omega, e⟩
theorem sumR_ge {g : Nat → Nat} {x : Nat} : ∀ {N : Nat}, x < N → g x ≤ sumR N g
  | 0, h => by omega
  | N + 1, h => by
    rw [sumR_succ]
    by_cases e : x = N
    · subst e; omega
    · have := sumR_ge (g := g) (x := x) (N := N) (by omega)
      omega
theorem cnt_ne : ∀ {S : Nat}, S < 2 ^ n → (cnt bf n S ≠ 0 ↔ HasO bf n S) := by
  intro S
  induction S using Nat.strongRecOn with
  | _ S ih =>
    intro hS
    by_cases h0 : S = 0
    · subst h0
      exact ⟨fun _ => ⟨[], .nil⟩, fun _ => by rw [cnt_zero]; decide⟩
    · rw [cnt_step (by omega) hS]
      constructor
      · intro h
        obtain ⟨j, hj, hg⟩ := sumR_ne h
        split at hg
        · rename_i c
          have hlt := an_lt c.1
          obtain ⟨l, hl⟩ := (ih _ hlt (by omega)).1 hg
          have := hl.snoc (mem_rdy.2 ⟨hj, an_self, c.2⟩)
          rw [or_an c.1] at this
          exact ⟨_, this⟩
        · exact absurd rfl hg
      · rintro ⟨l, hl⟩
        rcases hl.cases_snoc with ⟨_, h0'⟩ | ⟨l', P, j, _, rfl, ho, hj⟩
        · exact absurd h0' h0
        · obtain ⟨j1, j2, j3⟩ := mem_rdy.1 hj
          have hP : P < P ||| 2 ^ j := or_gt j2
          have hc := (ih P hP (by omega)).2 ⟨l', ho⟩
          have := sumR_ge (g := fun i => if (P ||| 2 ^ j).testBit i = true ∧ an (bf i) (an (P ||| 2 ^ j) (2 ^ i)) = 0 then cnt bf n (an (P ||| 2 ^ j) (2 ^ i)) else 0) j1
          simp only [an_or j2] at this
          rw [if_pos ⟨by rw [or_tb]; simp, j3⟩] at this
          omega

/-- is a job a last one of a set? -/
def vld (bf : Nat → Nat) (n S j : Nat) : Prop := S.testBit j = true ∧ cnt bf n (an S (2 ^ j)) ≠ 0 ∧ an (bf j) (an S (2 ^ j)) = 0
instance {S j : Nat} : Decidable (vld bf n S j) := inferInstanceAs (Decidable (_ ∧ _ ∧ _))
end
end Go.Proofs.YthiodndhokooiaaGreatDoor.Ev

