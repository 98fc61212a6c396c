/- What an order costs; whether a list is one. -/
import Derived.Test.YthiodndhokooiaaGreatDoorPmmA5
set_option linter.unusedSimpArgs false
namespace Go.Proofs.YthiodndhokooiaaGreatDoor.Ev
open Go Go.Proofs
noncomputable section

def lnJ (js : List (Int × Int)) (j : Nat) : Nat := (js.getD j (0, 0)).1.toNat
def wtJ (js : List (Int × Int)) (j : Nat) : Nat := (js.getD j (0, 0)).2.toNat
theorem inJ_get {js : List (Int × Int)} {j : Nat} (h : inJ js = true) (hj : j < js.length) : js[j]? = some ((lnJ js j : Int), (wtJ js j : Int)) ∧ 1 ≤ lnJ js j ∧ lnJ js j ≤ 50 ∧ wtJ js j ≤ 50 := by
  have hm := List.getElem_mem hj
  unfold inJ at h
  rw [List.all_eq_true] at h
  have h2 := h _ hm
  rw [decide_eq_true_eq] at h2
  have e1 : lnJ js j = (js[j]'hj).1.toNat := by simp [lnJ, List.getD, hj]
  have e2 : wtJ js j = (js[j]'hj).2.toNat := by simp [wtJ, List.getD, hj]
  refine ⟨?_, by omega, by omega, by omega⟩
  rw [List.getElem?_eq_getElem hj, e1, e2]
  congr 1
  refine Prod.ext ?_ ?_
  · show _ = ((js[j]'hj).1.toNat : Int); omega
  · show _ = ((js[j]'hj).2.toNat : Int); omega
theorem ec_take {ln wt : Nat → Nat} {l : List Nat} {i x : Nat} (h : l[i]? = some x) : ec ln wt (l.take (i + 1)) = ((ec ln wt (l.take i)).1 + ln x, (ec ln wt (l.take i)).2 + wt x * ((ec ln wt (l.take i)).1 + ln x)) := by
  obtain ⟨g, rfl⟩ := List.getElem?_eq_some_iff.1 h
  rw [List.take_succ_eq_append_getElem g, ec_snoc]
theorem ec_bound {ln wt : Nat → Nat} {l : List Nat} (h : ∀ j ∈ l, ln j ≤ 50 ∧ wt j ≤ 50) : ∀ i, (ec ln wt (l.take i)).1 ≤ 50 * i ∧ (ec ln wt (l.take i)).2 ≤ 2500 * i * i
  | 0 => by simp [ec]
  | i + 1 => by
    obtain ⟨h1, h2⟩ := ec_bound h i
    cases hg : l[i]? with
    | none =>
      have hl := List.getElem?_eq_none_iff.1 hg
      rw [List.take_of_length_le (by omega)] at h1 h2 ⊢
      refine ⟨by omega, Nat.le_trans h2 ?_⟩
      exact Nat.mul_le_mul (Nat.mul_le_mul_left _ (by omega)) (by omega)
    | some x =>
      rw [ec_take hg]
      have hx := h x (List.mem_of_getElem? hg)
      have hm : wt x * ((ec ln wt (l.take i)).1 + ln x) ≤ 50 * (50 * i + 50) := Nat.mul_le_mul hx.2 (by omega)
      refine ⟨by simp only; omega, ?_⟩
      simp only
      have e : 2500 * (i + 1) * (i + 1) = 2500 * i * i + 2500 * i + 2500 * i + 2500 := by
        rw [Nat.mul_add, Nat.mul_add, Nat.add_mul]; omega
      omega

end
end Go.Proofs.YthiodndhokooiaaGreatDoor.Ev

