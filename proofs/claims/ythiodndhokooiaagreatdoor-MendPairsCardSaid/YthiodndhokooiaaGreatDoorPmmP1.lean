/- One pair more: mathematics. -/
import Derived.Test.YthiodndhokooiaaGreatDoorPmmM2
import Derived.Test.YthiodndhokooiaaGreatDoorPmmQ4
set_option linter.unusedSimpArgs false
namespace Go.Proofs.YthiodndhokooiaaGreatDoor.Ev
open Go Go.Proofs
noncomputable section

theorem sub_rdy {bf bf' : Nat → Nat} {n S j : Nat} (h : ∀ j i, (bf j).testBit i = true → (bf' j).testBit i = true) (hj : j ∈ rdy bf' n S) : j ∈ rdy bf n S := by
  obtain ⟨h1, h2, h3⟩ := mem_rdy.1 hj
  exact mem_rdy.2 ⟨h1, h2, an_zero.2 fun i hi => an_zero.1 h3 i (h j i hi)⟩
theorem sub_ord {bf bf' : Nat → Nat} {n S : Nat} {l : List Nat} (h : ∀ j i, (bf j).testBit i = true → (bf' j).testBit i = true) (ho : Ord bf' n l S) : Ord bf n l S := by
  induction ho with
  | nil => exact .nil
  | snoc _ hj ih => exact .snoc ih (sub_rdy h hj)
theorem rdy_sum {bf : Nat → Nat} {S : Nat} {g : Nat → Nat} : ∀ {n : Nat}, ((rdy bf n S).map g).sum = sumR n fun j => if S.testBit j = false ∧ an (bf j) S = 0 then g j else 0
  | 0 => rfl
  | n + 1 => by
    rw [sumR_succ, ← rdy_sum (n := n)]
    have e : rdy bf (n + 1) S = if S.testBit n = false ∧ an (bf n) S = 0 then rdy bf n S ++ [n] else rdy bf n S := rdyI_succ
    rw [e]
    by_cases c : S.testBit n = false ∧ an (bf n) S = 0
    · rw [if_pos c, if_pos c]; simp
    · rw [if_neg c, if_neg c]; simp
theorem sumR_mono {g g' : Nat → Nat} : ∀ {N : Nat}, (∀ x, x < N → g x ≤ g' x) → sumR N g ≤ sumR N g'
  | 0, _ => Nat.le_refl _
  | N + 1, h => by
    rw [sumR_succ, sumR_succ]
    have := sumR_mono (g := g) (g' := g') (N := N) fun x hx => h x (by omega)
    have := h N (by omega)
    omega
theorem sub_fwd {bf bf' : Nat → Nat} {n : Nat} (h : ∀ j i, (bf j).testBit i = true → (bf' j).testBit i = true) : ∀ k S, fwd bf' n k S ≤ fwd bf n k S
  | 0, _ => Nat.le_refl _
  | k + 1, S => by
    show ((rdy bf' n S).map fun j => fwd bf' n k (S ||| 2 ^ j)).sum ≤ ((rdy bf n S).map fun j => fwd bf n k (S ||| 2 ^ j)).sum
    rw [rdy_sum, rdy_sum]
    refine sumR_mono fun j hj => ?_
    by_cases c : S.testBit j = false ∧ an (bf' j) S = 0
    · have c2 : an (bf j) S = 0 := an_zero.2 fun i hi => an_zero.1 c.2 i (h j i hi)
      rw [if_pos c, if_pos ⟨c.1, c2⟩]
      exact sub_fwd h k _
    · rw [if_neg c]; exact Nat.zero_le _
theorem nOrd_fwd {ps : List (Int × Int)} {n : Nat} : nOrd ps n = fwd (bfP ps) n n 0 := cg_all
theorem more_law {js ps qs : List (Int × Int)} {o o' : List Nat} (hq : PlanOk js qs) (hsub : ∀ p ∈ ps, p ∈ qs) (ho : IsBest js ps o) (ho' : IsBest js qs o') :
    cst (lnJ js) (wtJ js) o ≤ cst (lnJ js) (wtJ js) o' ∧ nOrd qs js.length ≤ nOrd ps js.length ∧ 1 ≤ nOrd qs js.length := by
  have hb : ∀ j i, (bfP ps j).testBit i = true → (bfP qs j).testBit i = true := fun j i hi => by
    obtain ⟨p, hp, h⟩ := bfP_bit.1 hi
    exact bfP_bit.2 ⟨p, hsub p hp, h⟩
  refine ⟨?_, ?_, ?_⟩
  · rcases ho.least o' (sub_ord hb ho'.ord) with h | ⟨h, _⟩ <;> omega
  · rw [nOrd_fwd, nOrd_fwd]; exact sub_fwd hb _ _
  · have hpos := Nat.two_pow_pos js.length
    have := (cnt_ne (bf := bfP qs) (n := js.length) (S := 2 ^ js.length - 1) (by omega)).2 hq.ord
    have e : nOrd qs js.length = cnt (bfP qs) js.length (2 ^ js.length - 1) := rfl
    omega

end
end Go.Proofs.YthiodndhokooiaaGreatDoor.Ev

