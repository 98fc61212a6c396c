/- What prices prove. Mathematics alone. -/
import Derived.Test.YtngpoamjhngcgaaGreatDoorPmdQ3
namespace Go.Proofs.YtngpoamjhngcgaaGreatDoor.Ev

/-- the sum of a matrix -/
def tot (n : Nat) (r : Nat → Nat → Int) : Int := sm n fun i => sm n (r i)
/-- prices that prove -/
def Pri (d r : Nat → Nat → Int) (n : Nat) (p : Nat → Int) : Prop := ∀ i j, i < n → j < n → i ≠ j → (0 < r i j → 1 ≤ p j - p i) ∧ (r i j < d i j → p j - p i ≤ 1)
theorem Pot.pri {d r : Nat → Nat → Int} {n : Nat} {p : Nat → Int} (h : Pot d r n p) : Pri d r n p := fun i j hi hj _ => by
  refine ⟨fun g => ?_, fun g => ?_⟩
  · have := h j i (-1) hj hi (by unfold stp; rw [if_pos g])
    omega
  · by_cases h0 : 0 < r j i
    · have := h i j (-1) hi hj (by unfold stp; rw [if_pos h0])
      omega
    · have := h i j 1 hi hj (by unfold stp; rw [if_neg h0, if_pos g])
      omega
theorem tot_sub {n : Nat} {r r' : Nat → Nat → Int} : tot n (fun i j => r i j - r' i j) = tot n r - tot n r' := by
  unfold tot
  rw [← sm_sub]
  exact sm_congr n fun i _ => sm_sub n
/-- prices weigh balances -/
theorem tot_price {n : Nat} {r : Nat → Nat → Int} {p : Nat → Int} : (sm n fun i => sm n fun j => r i j * (p j - p i)) = - sm n fun k => p k * bl n r k := by
  have a1 : (sm n fun i => sm n fun j => r i j * (p j - p i)) = (sm n fun i => sm n fun j => r i j * p j) - sm n fun i => sm n fun j => r i j * p i := by
    rw [← sm_sub]
    refine sm_congr n fun i _ => ?_
    rw [← sm_sub]
    exact sm_congr n fun j _ => Int.mul_sub ..
  have a2 : (sm n fun k => p k * bl n r k) = (sm n fun k => sm n fun j => r k j * p k) - sm n fun k => sm n fun i => r i k * p k := by
    rw [← sm_sub]
    refine sm_congr n fun k _ => ?_
    unfold bl
    rw [Int.mul_sub, ← sm_mul, ← sm_mul]
    congr 1
    · exact sm_congr n fun j _ => Int.mul_comm ..
    · exact sm_congr n fun j _ => Int.mul_comm ..
  have a3 : (sm n fun i => sm n fun j => r i j * p j) = sm n fun k => sm n fun i => r i k * p k := sm_swap n
  rw [a1, a2, a3]
  omega
theorem bl_sub {n k : Nat} {r r' : Nat → Nat → Int} : bl n (fun i j => r i j - r' i j) k = bl n r k - bl n r' k := by
  unfold bl
  rw [sm_sub, sm_sub]
  omega
/-- what prices prove least has no greater sum than another of the same balances -/
theorem Pri.least {d r r' : Nat → Nat → Int} {n : Nat} {p : Nat → Int} (hp : Pri d r n p) (hb : Bd d r n) (hb' : Bd d r' n) (hd : ∀ i, i < n → d i i = 0) (he : ∀ k, k < n → bl n r' k = bl n r k) : tot n r ≤ tot n r' := by
  have h1 : (0 : Int) ≤ sm n fun i => sm n fun j => (r' i j - r i j) * (1 - (p j - p i)) := sm_nonneg n fun i hi => sm_nonneg n fun j hj => by
    have b1 := hb i j hi hj
    have b2 := hb' i j hi hj
    by_cases hij : i = j
    · subst hij
      have := hd i hi
      have : r' i i - r i i = 0 := by omega
      rw [this, Int.zero_mul]
      exact Int.le_refl _
    · obtain ⟨q1, q2⟩ := hp i j hi hj hij
      rcases Int.lt_trichotomy (r' i j) (r i j) with g | g | g
      · have := q1 (by omega)
        exact Int.mul_nonneg_of_nonpos_of_nonpos (by omega) (by omega)
      · have : r' i j - r i j = 0 := by omega
        rw [this, Int.zero_mul]
        exact Int.le_refl _
      · have := q2 (by omega)
        exact Int.mul_nonneg (by omega) (by omega)
  have h2 : (sm n fun i => sm n fun j => (r' i j - r i j) * (1 - (p j - p i))) = (sm n fun i => sm n fun j => r' i j - r i j) - sm n fun i => sm n fun j => (r' i j - r i j) * (p j - p i) := by
    rw [← sm_sub]
    refine sm_congr n fun i _ => ?_
    rw [← sm_sub]
    exact sm_congr n fun j _ => by rw [Int.mul_sub, Int.mul_one]
  have h3 : (sm n fun i => sm n fun j => (r' i j - r i j) * (p j - p i)) = 0 := by
    rw [tot_price (r := fun i j => r' i j - r i j)]
    rw [sm_congr (g := fun _ => 0) n fun k hk => by rw [bl_sub, he k hk, Int.sub_self, Int.mul_zero], sm_zero]
    rfl
  have h4 : (sm n fun i => sm n fun j => r' i j - r i j) = tot n r' - tot n r := tot_sub
  rw [h2, h3, h4] at h1
  omega
end Go.Proofs.YtngpoamjhngcgaaGreatDoor.Ev

