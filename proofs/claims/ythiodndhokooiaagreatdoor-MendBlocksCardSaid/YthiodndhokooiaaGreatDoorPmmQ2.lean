/- Costs of orders; how many orders there are. Mathematics alone. -/
import Derived.Test.YthiodndhokooiaaGreatDoorPmmQ1
namespace Go.Proofs.YthiodndhokooiaaGreatDoor.Ev

section
variable (ln wt : Nat → Nat)
/-- when the last one of them ends, and what they cost -/
def ec (l : List Nat) : Nat × Nat := l.foldl (fun s j => (s.1 + ln j, s.2 + wt j * (s.1 + ln j))) (0, 0)
variable {ln wt}
end

/-- sums -/
def sumR (N : Nat) (g : Nat → Nat) : Nat := ((List.range N).map g).sum
theorem sumR_zero {g : Nat → Nat} : sumR 0 g = 0 := rfl
theorem sumR_succ {N : Nat} {g : Nat → Nat} : sumR (N + 1) g = sumR N g + g N := by simp [sumR, List.range_succ]
theorem sumR_congr {g g' : Nat → Nat} : ∀ {N : Nat}, (∀ x, x < N → g x = g' x) → sumR N g = sumR N g'
  | 0, _ => rfl
  | N + 1, h => by rw [sumR_succ, sumR_succ, sumR_congr fun x hx => h x (by omega), h N (by omega)]
theorem sumR_add {g g' : Nat → Nat} : ∀ {N : Nat}, sumR N (fun x => g x + g' x) = sumR N g + sumR N g'
  | 0 => rfl
  | N + 1 => by rw [sumR_succ, sumR_succ, sumR_succ, sumR_add]; omega
theorem sumR_none {g : Nat → Nat} : ∀ {N : Nat}, (∀ x, x < N → g x = 0) → sumR N g = 0
  | 0, _ => rfl
  | N + 1, h => by rw [sumR_succ, sumR_none fun x hx => h x (by omega), h N (by omega)]
theorem sumR_at {g : Nat → Nat} {k : Nat} : ∀ {N : Nat}, k < N → (∀ x, x < N → x ≠ k → g x = 0) → sumR N g = g k
  | 0, h, _ => by omega
  | N + 1, h, h0 => by
    rw [sumR_succ]
    by_cases e : k = N
    · subst e
      rw [sumR_none fun x hx => h0 x (by omega) (by omega)]
      omega
    · rw [sumR_at (by omega) fun x hx hne => h0 x (by omega) hne, h0 N (by omega) (by omega)]
      omega
section
variable (bf : Nat → Nat) (n : Nat)
/-- how many jobs are in a set -/
def crd (S : Nat) : Nat := (List.range n).countP fun i => S.testBit i
variable {bf n}
theorem crd_zero : crd n 0 = 0 := by
  unfold crd
  rw [List.countP_eq_zero]
  intro a _
  simp
theorem crd_le {S : Nat} : crd n S ≤ n := by
  have := List.countP_le_length (p := fun i => S.testBit i) (l := List.range n)
  rw [List.length_range] at this
  exact this
theorem crd_step {S : Nat} : crd (n + 1) S = crd n S + if S.testBit n then 1 else 0 := by
  unfold crd
  rw [List.range_succ, List.countP_append]
  simp [List.countP_cons]
theorem crd_congr {S P : Nat} : ∀ {n : Nat}, (∀ i, i < n → S.testBit i = P.testBit i) → crd n S = crd n P
  | 0, _ => rfl
  | n + 1, h => by rw [crd_step, crd_step, crd_congr fun i hi => h i (by omega), h n (by omega)]
theorem crd_or {S j : Nat} (hj : S.testBit j = false) : ∀ {n : Nat}, j < n → crd n (S ||| 2 ^ j) = crd n S + 1
  | 0, h => by omega
  | n + 1, h => by
    rw [crd_step, crd_step, or_tb]
    by_cases e : j = n
    · subst e
      rw [hj, crd_congr (P := S) fun i hi => by rw [or_tb]; simp; omega]
      simp
    · rw [crd_or hj (by omega)]
      simp [e]; omega
theorem crd_full : ∀ {n S : Nat}, crd n S = n → ∀ i, i < n → S.testBit i = true
  | 0, _, _, _, h => by omega
  | n + 1, S, h, i, hi => by
    rw [crd_step] at h
    have := crd_le (n := n) (S := S)
    cases e : S.testBit n with
    | false => rw [e] at h; simp at h; omega
    | true =>
      rw [e] at h
      simp at h
      by_cases e2 : i = n
      · subst e2; exact e
      · exact crd_full h i (by omega)
theorem all_tb {n i : Nat} : (2 ^ n - 1).testBit i = decide (i < n) := Nat.testBit_two_pow_sub_one n i
theorem eq_all {S : Nat} (hS : S < 2 ^ n) (h : ∀ i, i < n → S.testBit i = true) : S = 2 ^ n - 1 := by
  refine Nat.eq_of_testBit_eq fun i => ?_
  rw [all_tb]
  by_cases hi : i < n
  · rw [h i hi]; simp [hi]
  · rw [Nat.testBit_lt_two_pow (Nat.lt_of_lt_of_le hS (Nat.pow_le_pow_right (by omega) (by omega)))]
    simp [hi]
theorem crd_all : ∀ {n : Nat}, crd n (2 ^ n - 1) = n := by
  intro n
  unfold crd
  have : (List.range n).countP (fun i => (2 ^ n - 1).testBit i) = (List.range n).length := by
    rw [List.countP_eq_length]
    intro a ha
    rw [all_tb]
    simpa using ha
  rw [this, List.length_range]
/-- sums -/
abbrev cg (bf : Nat → Nat) (n : Nat) : Nat → Nat → Option Nat := gath (fun c _ => c) (fun a b => a + b) n bf 1
/-- by the last jobs -/
theorem cg_pred : ∀ (d S : Nat), 0 < S → d ≤ S → S < 2 ^ n → (cg bf n d S).getD 0 = sumR n (fun j => if S.testBit j ∧ an (bf j) (an S (2 ^ j)) = 0 ∧ an S (2 ^ j) < d then (cg bf n (an S (2 ^ j)) (an S (2 ^ j))).getD 0 else 0)
  | 0, S, h0, _, _ => by
    rw [sumR_none fun j _ => by simp]
    show (if S = 0 then some 1 else none : Option Nat).getD 0 = 0
    rw [if_neg (by omega)]; rfl
  | d + 1, S, h0, hd, hS => by
    have ih := cg_pred d S h0 (by omega) hS
    by_cases hit : ∃ j, j ∈ rdy bf n d ∧ S = d ||| 2 ^ j
    · obtain ⟨j, hj, rfl⟩ := hit
      obtain ⟨j1, j2, j3⟩ := mem_rdy.1 hj
      have e1 : (cg bf n (d + 1) (d ||| 2 ^ j)).getD 0 = (cg bf n d (d ||| 2 ^ j)).getD 0 + (cg bf n d d).getD 0 := by
        cases hc : cg bf n d d with
        | none => rw [show cg bf n (d + 1) (d ||| 2 ^ j) = cg bf n d (d ||| 2 ^ j) from gath_miss (or_ne j2) (.inl hc)]; simp
        | some h =>
          rw [show cg bf n (d + 1) (d ||| 2 ^ j) = some (comb (fun a b => a + b) (cg bf n d (d ||| 2 ^ j)) h) from gath_hit hc hj]
          cases cg bf n d (d ||| 2 ^ j) <;> simp [comb]
      rw [e1, ih]
      have e2 : (cg bf n d d).getD 0 = sumR n (fun i => if i = j then (cg bf n d d).getD 0 else 0) := by
        rw [sumR_at (k := j) j1 fun x _ hx => by rw [if_neg hx], if_pos rfl]
      rw [e2, ← sumR_add]
      refine sumR_congr fun i hi => ?_
      by_cases e : i = j
      · subst e
        rw [an_or j2, if_neg (by omega), if_pos rfl, if_pos ⟨by rw [or_tb]; simp, j3, by omega⟩]
        omega
      · rw [if_neg e]
        have hne : (d ||| 2 ^ j).testBit i = true → an (d ||| 2 ^ j) (2 ^ i) ≠ d := fun hi' he => by
          have h1 := or_an hi'
          rw [he] at h1
          have h2 : d.testBit i = false := by rw [← he]; exact an_self
          exact e (or_inj h2 h1)
        by_cases c : (d ||| 2 ^ j).testBit i = true ∧ an (bf i) (an (d ||| 2 ^ j) (2 ^ i)) = 0 ∧ an (d ||| 2 ^ j) (2 ^ i) < d
        · rw [if_pos c, if_pos ⟨c.1, c.2.1, by omega⟩]; omega
        · rw [if_neg c, if_neg fun c' => c ⟨c'.1, c'.2.1, by have := hne c'.1; omega⟩]
    · rw [show cg bf n (d + 1) S = cg bf n d S from gath_miss (by omega) (.inr fun j hj he => hit ⟨j, hj, he⟩), ih]
      refine sumR_congr fun i hi => ?_
      have hne : S.testBit i = true → an (bf i) (an S (2 ^ i)) = 0 → an S (2 ^ i) ≠ d := fun hi' h0' he => hit ⟨i, mem_rdy.2 ⟨hi, by rw [← he]; exact an_self, by rw [← he]; exact h0'⟩, by rw [← he]; exact (or_an hi').symm⟩
      by_cases c : S.testBit i = true ∧ an (bf i) (an S (2 ^ i)) = 0 ∧ an S (2 ^ i) < d
      · rw [if_pos c, if_pos ⟨c.1, c.2.1, by omega⟩]
      · rw [if_neg c, if_neg fun c' => c ⟨c'.1, c'.2.1, by have := hne c'.1 c'.2.1; omega⟩]
def cnt (bf : Nat → Nat) (n S : Nat) : Nat := (cg bf n S S).getD 0
theorem cnt_step {S : Nat} (h0 : 0 < S) (hS : S < 2 ^ n) : cnt bf n S = sumR n (fun j => if S.testBit j ∧ an (bf j) (an S (2 ^ j)) = 0 then cnt bf n (an S (2 ^ j)) else 0) := by
  unfold cnt
  rw [cg_pred S S h0 (Nat.le_refl _) hS]
  refine sumR_congr fun j _ => ?_
  by_cases c : S.testBit j = true ∧ an (bf j) (an S (2 ^ j)) = 0
  · rw [if_pos ⟨c.1, c.2, an_lt c.1⟩, if_pos c]
  · rw [if_neg fun c' => c ⟨c'.1, c'.2.1⟩, if_neg c]
theorem cnt_zero : cnt bf n 0 = 1 := rfl
end
end Go.Proofs.YthiodndhokooiaaGreatDoor.Ev

