/- Prices of one least remainder prove every other. Mathematics alone. -/
import Derived.Test.YtngpoamjhngcgaaGreatDoorPmdQ6
namespace Go.Proofs.YtngpoamjhngcgaaGreatDoor.Ev

theorem prod_zero_sum {n : Nat} {f : Nat → Nat → Int} (h0 : ∀ i j, i < n → j < n → 0 ≤ f i j) (hs : (sm n fun i => sm n (f i)) ≤ 0) : ∀ i j, i < n → j < n → f i j = 0 := fun i j hi hj => by
  have h1 := sm_none n (f := fun i => sm n (f i)) (fun i hi => sm_nonneg n fun j hj => h0 i j hi hj) hs i hi
  exact sm_none n (fun j hj => h0 i j hi hj) (by have h2 : sm n (f i) = 0 := h1; omega) j hj
theorem Pri.any {d r r' : Nat → Nat → Int} {n : Nat} {p : Nat → Int} (hp : Pri d r n p) (hb : Bd d r n) (hb' : Bd d r' n) (hd : ∀ i, i < n → d i i = 0) (he : ∀ k, k < n → bl n r' k = bl n r k) (ht : tot n r' ≤ tot n r) : Pri d r' n p := by
  have h0 : ∀ i j, i < n → j < n → 0 ≤ (r' i j - r i j) * (1 - (p j - p i)) := fun i j hi hj => by
    have b1 := hb i j hi hj
    have b2 := hb' i j hi hj
    by_cases hij : i = j
    · subst hij
      have := hd i hi
      have : r' i i - r i i = 0 := by omega
      rw [this, Int.zero_mul]
      exact Int.le_refl _
    · obtain ⟨q1, q2⟩ := hp i j hi hj hij
      rcases Int.lt_trichotomy (r' i j) (r i j) with g | g | g
      · have := q1 (by omega)
        exact Int.mul_nonneg_of_nonpos_of_nonpos (by omega) (by omega)
      · have : r' i j - r i j = 0 := by omega
        rw [this, Int.zero_mul]
        exact Int.le_refl _
      · have := q2 (by omega)
        exact Int.mul_nonneg (by omega) (by omega)
  have h2 : (sm n fun i => sm n fun j => (r' i j - r i j) * (1 - (p j - p i))) = (sm n fun i => sm n fun j => r' i j - r i j) - sm n fun i => sm n fun j => (r' i j - r i j) * (p j - p i) := by
    rw [← sm_sub]
    refine sm_congr n fun i _ => ?_
    rw [← sm_sub]
    exact sm_congr n fun j _ => by rw [Int.mul_sub, Int.mul_one]
  have h3 : (sm n fun i => sm n fun j => (r' i j - r i j) * (p j - p i)) = 0 := by
    rw [tot_price (r := fun i j => r' i j - r i j)]
    rw [sm_congr (g := fun _ => 0) n fun k hk => by rw [bl_sub, he k hk, Int.sub_self, Int.mul_zero], sm_zero]
    rfl
  have h4 : (sm n fun i => sm n fun j => r' i j - r i j) = tot n r' - tot n r := tot_sub
  have hz := prod_zero_sum h0 (by rw [h2, h3, h4]; omega)
  intro i j hi hj hij
  have hzij := hz i j hi hj
  have b1 := hb i j hi hj
  have b2 := hb' i j hi hj
  obtain ⟨q1, q2⟩ := hp i j hi hj hij
  refine ⟨fun g => ?_, fun g => ?_⟩
  · refine Classical.byContradiction fun k => ?_
    have hr : ¬ 0 < r i j := fun h => k (q1 h)
    rcases Int.mul_eq_zero.1 hzij with z | z <;> omega
  · refine Classical.byContradiction fun k => ?_
    have hr : ¬ r i j < d i j := fun h => k (q2 h)
    rcases Int.mul_eq_zero.1 hzij with z | z <;> omega
/-- all least remainders are proved by the same prices -/
theorem Can.pri {d r r' : Nat → Nat → Int} {n : Nat} {p : Nat → Int} (h : Can d r n) (h' : Can d r' n) (hp : Pot d r n p) (hd : ∀ i, i < n → d i i = 0) (he : ∀ k, k < n → bl n r' k = bl n r k) : Pri d r' n p := by
  obtain ⟨q, hq⟩ := h'.pot
  exact hp.pri.any h.bd h'.bd hd he (hq.pri.least h'.bd h.bd hd fun k hk => (he k hk).symm)
/-- costs from everywhere are prices -/
theorem Cheap.pot {d r : Nat → Nat → Int} {n : Nat} {st c b : Nat → Int} {T : Nat → Nat} (h : Cheap d r n st c b T) (hst : ∀ v, v < n → st v = 0) : Pot d r n c ∧ ∀ v, v < n → -1000 ≤ c v ∧ c v ≤ 1000 := by
  have hlt : ∀ v, v < n → c v < 1000 := fun v hv => by
    rcases h.from_ v hv with ⟨_, g⟩ | ⟨u, s, hu, _, hs, h1, h2, _⟩
    · rw [g, hst v hv]; decide
    · have := stp_val hs
      have := h.bd u hu
      omega
  exact ⟨fun i j s hi hj hs => h.fix i j s hi hj hs (hlt i hi), fun v hv => by have := h.bd v hv; omega⟩
end Go.Proofs.YtngpoamjhngcgaaGreatDoor.Ev

