/- The reference's Valid. -/
import Derived.Test.YthiodndhokooiaaGreatDoorPmmA6
set_option linter.unusedSimpArgs false
namespace Go.Proofs.YthiodndhokooiaaGreatDoor.Ev
open Go Go.Proofs
noncomputable section

theorem Ord.at_bit {bf : Nat → Nat} {n : Nat} {l : List Nat} {S : Nat} (h : Ord bf n l S) {x : Nat} (hx : S.testBit x = true) : ∃ P, x ∈ rdy bf n P := by
  induction h with
  | nil => simp at hx
  | @snoc l S j ho hj ih =>
    rw [or_tb] at hx
    simp only [Bool.or_eq_true, decide_eq_true_eq] at hx
    rcases hx with hx | rfl
    · exact ih hx
    · exact ⟨_, hj⟩
theorem bfP_tb {j i : Nat} : ∀ {ps : List (Int × Int)} {s : Nat}, (ps.foldl (fun s p => if p.2 = (j : Int) then s ||| 2 ^ p.1.toNat else s) s).testBit i = (s.testBit i || ps.any fun p => decide (p.2 = (j : Int) ∧ p.1.toNat = i))
  | [], s => by simp
  | p :: ps, s => by
    rw [List.foldl_cons, bfP_tb, List.any_cons]
    by_cases e : p.2 = (j : Int)
    · rw [if_pos e, or_tb]
      by_cases e2 : p.1.toNat = i
      · simp [e, e2]
      · simp [e, e2]
    · rw [if_neg e]
      simp [e]
theorem no_self {ps : List (Int × Int)} {n : Nat} {p : Int × Int} (hp : p ∈ ps) (h1 : p.1 = p.2) (h0 : 0 ≤ p.2 ∧ p.2 < n) : ¬ HasO (bfP ps) n (2 ^ n - 1) := by
  rintro ⟨l, hl⟩
  obtain ⟨x, hx⟩ := Int.eq_ofNat_of_zero_le h0.1
  have hxn : x < n := by omega
  obtain ⟨P, hP⟩ := hl.at_bit (x := x) (by rw [all_tb]; simpa using hxn)
  obtain ⟨_, h2, h3⟩ := mem_rdy.1 hP
  have h4 : (bfP ps x).testBit x = true := by
    unfold bfP
    rw [bfP_tb]
    simp only [Bool.or_eq_true, List.any_eq_true, decide_eq_true_eq]
    exact .inr ⟨p, hp, by omega, by omega⟩
  have := an_zero.1 h3 x h4
  rw [h2] at this; cases this
theorem an_all_zero {D n : Nat} (hD : D < 2 ^ n) : an (2 ^ n - 1) D = 0 ↔ D = 2 ^ n - 1 := by
  rw [an_zero]
  constructor
  · intro h
    exact eq_all hD fun i hi => h i (by rw [all_tb]; simpa using hi)
  · intro h i hi; rw [h]; exact hi
end
end Go.Proofs.YthiodndhokooiaaGreatDoor.Ev

