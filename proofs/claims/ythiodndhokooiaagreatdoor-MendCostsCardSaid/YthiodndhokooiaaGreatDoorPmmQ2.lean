/- Costs of orders; how many orders there are. Mathematics alone. -/
import Derived.Test.YthiodndhokooiaaGreatDoorPmmQ1
namespace Go.Proofs.YthiodndhokooiaaGreatDoor.Ev

section
variable (ln wt : Nat → Nat)
/-- when the last one of them ends, and what they cost -/
def ec (l : List Nat) : Nat × Nat := l.foldl (fun s j => (s.1 + ln j, s.2 + wt j * (s.1 + ln j))) (0, 0)
def cst (l : List Nat) : Nat := (ec ln wt l).2
variable {ln wt}
theorem ec_snoc {l : List Nat} {j : Nat} : ec ln wt (l ++ [j]) = ((ec ln wt l).1 + ln j, (ec ln wt l).2 + wt j * ((ec ln wt l).1 + ln j)) := by
  unfold ec
  rw [List.foldl_append]
  rfl
end

section
variable (bf : Nat → Nat) (n : Nat)
/-- how many jobs are in a set -/
def crd (S : Nat) : Nat := (List.range n).countP fun i => S.testBit i
variable {bf n}
theorem crd_zero : crd n 0 = 0 := by
  unfold crd
  rw [List.countP_eq_zero]
  intro a _
  simp
theorem crd_le {S : Nat} : crd n S ≤ n := by
  have := List.countP_le_length (p := fun i => S.testBit i) (l := List.range n)
  rw [List.length_range] at this
  exact this
theorem crd_step {S : Nat} : crd (n + 1) S = crd n S + if S.testBit n then 1 else 0 := by
  unfold crd
  rw [List.range_succ, List.countP_append]
  simp [List.countP_cons]
theorem crd_congr {S P : Nat} : ∀ {n : Nat}, (∀ i, i < n → S.testBit i = P.testBit i) → crd n S = crd n P
  | 0, _ => rfl
  | n + 1, h => by rw [crd_step, crd_step, crd_congr fun i hi => h i (by omega), h n (by omega)]
theorem crd_or {S j : Nat} (hj : S.testBit j = false) : ∀ {n : Nat}, j < n → crd n (S ||| 2 ^ j) = crd n S + 1
  | 0, h => by omega
  | n + 1, h => by
    rw [crd_step, crd_step, or_tb]
    by_cases e : j = n
    · subst e
      rw [hj, crd_congr (P := S) fun i hi => by rw [or_tb]; simp; omega]
      simp
    · rw [crd_or hj (by omega)]
      simp [e]; omega
theorem crd_full : ∀ {n S : Nat}, crd n S = n → ∀ i, i < n → S.testBit i = true
  | 0, _, _, _, h => by omega
  | n + 1, S, h, i, hi => by
    rw [crd_step] at h
    have := crd_le (n := n) (S := S)
    cases e : S.testBit n with
    | false => rw [e] at h; simp at h; omega
    | true =>
      rw [e] at h
      simp at h
      by_cases e2 : i = n
      · subst e2; exact e
      · exact crd_full h i (by omega)
theorem all_tb {n i : Nat} : (2 ^ n - 1).testBit i = decide (i < n) := Nat.testBit_two_pow_sub_one n i
theorem eq_all {S : Nat} (hS : S < 2 ^ n) (h : ∀ i, i < n → S.testBit i = true) : S = 2 ^ n - 1 := by
  refine Nat.eq_of_testBit_eq fun i => ?_
  rw [all_tb]
  by_cases hi : i < n
  · rw [h i hi]; simp [hi]
  · rw [Nat.testBit_lt_two_pow (Nat.lt_of_lt_of_le hS (Nat.pow_le_pow_right (by omega) (by omega)))]
    simp [hi]
theorem crd_all : ∀ {n : Nat}, crd n (2 ^ n - 1) = n := by
  intro n
  unfold crd
  have : (List.range n).countP (fun i => (2 ^ n - 1).testBit i) = (List.range n).length := by
    rw [List.countP_eq_length]
    intro a ha
    rw [all_tb]
    simpa using ha
  rw [this, List.length_range]
end
end Go.Proofs.YthiodndhokooiaaGreatDoor.Ev

