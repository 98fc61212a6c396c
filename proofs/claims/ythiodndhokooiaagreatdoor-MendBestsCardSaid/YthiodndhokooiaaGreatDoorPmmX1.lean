/- All orders tried: mathematics. -/
import Derived.Test.YthiodndhokooiaaGreatDoorPmmP1
set_option linter.unusedSimpArgs false
namespace Go.Proofs.YthiodndhokooiaaGreatDoor.Ev
open Go Go.Proofs
noncomputable section

theorem Ord.front {bf : Nat → Nat} {n : Nat} {l : List Nat} : ∀ (k : Nat) {t : List Nat} {P : Nat}, t.length = k → Ord bf n (l ++ t) P → ∃ S, Ord bf n l S
  | 0, t, P, hk, h => by
    obtain rfl := List.length_eq_zero_iff.1 hk
    rw [List.append_nil] at h
    exact ⟨P, h⟩
  | k + 1, t, P, hk, h => by
    rcases List.eq_nil_or_concat t with rfl | ⟨t', j, rfl⟩
    · simp at hk
    · rw [List.concat_eq_append] at *
      rw [← List.append_assoc] at h
      rcases h.cases_snoc with ⟨h0, _⟩ | ⟨l', P', j', e, _, ho, _⟩
      · simp at h0
      · obtain ⟨e1, _⟩ := List.append_inj' e rfl
        subst e1
        exact Ord.front k (by simpa using hk) ho
theorem Ord.uniq {bf : Nat → Nat} {n S P : Nat} {l : List Nat} (h : Ord bf n l S) (h' : Ord bf n l P) : S = P := by
  refine Nat.eq_of_testBit_eq fun i => ?_
  have h1 := h.mem i
  have h2 := h'.mem i
  cases e : S.testBit i <;> cases e2 : P.testBit i <;> first | rfl | (exfalso; rw [e] at h1; rw [e2] at h2; simp_all)
theorem Ord.next {bf : Nat → Nat} {n S P j : Nat} {l t : List Nat} (h : Ord bf n l S) (h' : Ord bf n (l ++ j :: t) P) : j ∈ rdy bf n S := by
  have e : l ++ j :: t = (l ++ [j]) ++ t := by simp
  rw [e] at h'
  obtain ⟨Q, hQ⟩ := Ord.front _ rfl h'
  rcases hQ.cases_snoc with ⟨h0, _⟩ | ⟨l', P', j', e, _, ho, hj⟩
  · simp at h0
  · obtain ⟨e1, e2⟩ := List.append_inj' e rfl
    injection e2 with e2 _
    subst e1; subst e2
    rw [h.uniq ho]; exact hj
theorem Ord.full {bf : Nat → Nat} {n : Nat} {l : List Nat} (h : Ord bf n l (2 ^ n - 1)) : l.length = n := by
  rw [← h.crd, crd_all]
theorem lexlt_app {l a b : List Nat} : lexlt (l ++ a) (l ++ b) = lexlt a b := by
  induction l with
  | nil => rfl
  | cons c l ih => rw [List.cons_append, List.cons_append, lexlt_cons, ih]; simp

section
variable {js ps : List (Int × Int)} {l : List Nat} {S : Nat}
/-- the best order that begins with the given jobs -/
structure BestFrom (js ps : List (Int × Int)) (l x : List Nat) : Prop where
  ord : Ord (bfP ps) js.length x (2 ^ js.length - 1)
  pre : ∃ t, x = l ++ t
  least : ∀ t, Ord (bfP ps) js.length (l ++ t) (2 ^ js.length - 1) → cle (lnJ js) (wtJ js) x (l ++ t)
theorem bf_full (h : Ord (bfP ps) js.length l S) (hl : l.length = js.length) : BestFrom js ps l l := by
  have e : S = 2 ^ js.length - 1 := crd_eq_all h.lt (by rw [h.crd, hl]; exact Nat.le_refl _)
  subst e
  refine ⟨h, ⟨[], by simp⟩, fun t ht => ?_⟩
  have := ht.full
  rw [List.length_append] at this
  obtain rfl : t = [] := List.length_eq_zero_iff.1 (by omega)
  rw [List.append_nil]
  exact cle_best.refl l
theorem bf_best {x : List Nat} (h : BestFrom js ps [] x) : IsBest js ps x := ⟨h.ord, fun t ht => h.least t ht⟩
theorem best_uniq {o o' : List Nat} (h : IsBest js ps o) (h' : IsBest js ps o') : o = o' := cle_antisymm (h.least o' h'.ord) (h'.least o h.ord)
/-- the best of those tried so far -/
def PB (js ps : List (Int × Int)) (l : List Nat) (S i : Nat) : Option (List Nat) → Prop
  | none => ∀ j, j ∈ rdy (bfP ps) js.length S → ¬ j < i
  | some x => Ord (bfP ps) js.length x (2 ^ js.length - 1) ∧ (∃ j t, j < i ∧ x = l ++ j :: t) ∧ ∀ j t, j < i → Ord (bfP ps) js.length (l ++ j :: t) (2 ^ js.length - 1) → cle (lnJ js) (wtJ js) x (l ++ j :: t)
theorem pb_zero : PB js ps l S 0 none := fun _ _ => Nat.not_lt_zero _
theorem pb_skip {i : Nat} {b : Option (List Nat)} (ho : Ord (bfP ps) js.length l S) (h : PB js ps l S i b) (hi : ¬ i ∈ rdy (bfP ps) js.length S) : PB js ps l S (i + 1) b := by
  cases b with
  | none =>
    intro j hj hlt
    by_cases e : j = i
    · subst e; exact hi hj
    · exact h j hj (by omega)
  | some x =>
    obtain ⟨h1, ⟨j, t, hj, e⟩, h3⟩ := h
    refine ⟨h1, ⟨j, t, by omega, e⟩, fun j' t' hj' ht' => ?_⟩
    by_cases e : j' = i
    · subst e; exact absurd (ho.next ht') hi
    · exact h3 j' t' (by omega) ht'
theorem pb_first {i : Nat} {y : List Nat} (h : PB js ps l S i none) (ho : Ord (bfP ps) js.length l S) (hy : BestFrom js ps (l ++ [i]) y) : PB js ps l S (i + 1) (some y) := by
  obtain ⟨t, e⟩ := hy.pre
  refine ⟨hy.ord, ⟨i, t, by omega, by rw [e]; simp⟩, fun j' t' hj' ht' => ?_⟩
  by_cases e : j' = i
  · subst e
    have := hy.least t' (by simpa using ht')
    simpa using this
  · exact absurd (show j' < i by omega) (h j' (ho.next ht'))
theorem pb_more {i : Nat} {x y : List Nat} (h : PB js ps l S i (some x)) (hy : BestFrom js ps (l ++ [i]) y) : PB js ps l S (i + 1) (some (if cst (lnJ js) (wtJ js) y < cst (lnJ js) (wtJ js) x then y else x)) := by
  obtain ⟨h1, ⟨j, t, hj, ex⟩, h3⟩ := h
  obtain ⟨ty, ey⟩ := hy.pre
  have hl : ∀ t', Ord (bfP ps) js.length (l ++ i :: t') (2 ^ js.length - 1) → cle (lnJ js) (wtJ js) y (l ++ i :: t') := fun t' ht' => by
    have := hy.least t' (by simpa using ht')
    simpa using this
  by_cases c : cst (lnJ js) (wtJ js) y < cst (lnJ js) (wtJ js) x
  · rw [if_pos c]
    refine ⟨hy.ord, ⟨i, ty, by omega, by rw [ey]; simp⟩, fun j' t' hj' ht' => ?_⟩
    by_cases e : j' = i
    · subst e; exact hl t' ht'
    · rcases h3 j' t' (by omega) ht' with h4 | ⟨h4, _⟩
      · exact .inl (by omega)
      · exact .inl (by omega)
  · rw [if_neg c]
    refine ⟨h1, ⟨j, t, by omega, ex⟩, fun j' t' hj' ht' => ?_⟩
    by_cases e : j' = i
    · subst e
      have h5 : cst (lnJ js) (wtJ js) y ≤ cst (lnJ js) (wtJ js) (l ++ j' :: t') := by
        rcases hl t' ht' with h4 | ⟨h4, _⟩ <;> omega
      rcases Nat.lt_or_ge (cst (lnJ js) (wtJ js) x) (cst (lnJ js) (wtJ js) (l ++ j' :: t')) with h6 | h6
      · exact .inl h6
      · refine .inr ⟨by omega, ?_⟩
        rw [ex, lexlt_app, lexlt_cons]
        have n1 : ¬ j' < j := by omega
        have n2 : ¬ j' = j := by omega
        simp [n1, n2]
    · exact h3 j' t' (by omega) ht'
theorem pb_end {b : Option (List Nat)} (hex : HasO (bfP ps) js.length (2 ^ js.length - 1)) (ho : Ord (bfP ps) js.length l S) (hl : l.length < js.length) (h : PB js ps l S js.length b) : ∃ x, b = some x ∧ BestFrom js ps l x := by
  cases b with
  | none =>
    obtain ⟨j, hj⟩ := not_stuck hex ho.lt (fun e => by have := ho.crd; rw [e, crd_all] at this; omega)
    exact absurd (mem_rdy.1 hj).1 (h j hj)
  | some x =>
    obtain ⟨h1, ⟨j, t, hj, e⟩, h3⟩ := h
    refine ⟨x, rfl, h1, ⟨_, e⟩, fun t' ht' => ?_⟩
    cases t' with
    | nil =>
      have := ht'.full
      rw [List.append_nil] at this
      omega
    | cons j' t' => exact h3 j' t' (mem_rdy.1 (ho.next ht')).1 ht'
end

/-- how many begin so, by the next jobs so far -/
def mny (bf : Nat → Nat) (n k S i : Nat) : Nat := sumR i fun j => if S.testBit j = false ∧ an (bf j) S = 0 then fwd bf n k (S ||| 2 ^ j) else 0
theorem mny_all {bf : Nat → Nat} {n k S : Nat} : mny bf n k S n = fwd bf n (k + 1) S := rdy_sum.symm
theorem mny_hit {bf : Nat → Nat} {n k S i : Nat} (h : i ∈ rdy bf n S) : mny bf n k S (i + 1) = mny bf n k S i + fwd bf n k (S ||| 2 ^ i) := by
  unfold mny
  obtain ⟨_, h2, h3⟩ := mem_rdy.1 h
  rw [sumR_succ, if_pos ⟨h2, h3⟩]
theorem mny_miss {bf : Nat → Nat} {n k S i : Nat} (hi : i < n) (h : ¬ i ∈ rdy bf n S) : mny bf n k S (i + 1) = mny bf n k S i := by
  unfold mny
  rw [sumR_succ, if_neg fun c => h (mem_rdy.2 ⟨hi, c⟩)]
  rfl
theorem fwd_le {bf : Nat → Nat} {n : Nat} (hn : n ≤ 10) : ∀ k S, fwd bf n k S ≤ 10 ^ k
  | 0, _ => Nat.le_refl _
  | k + 1, S => by
    rw [← mny_all, Nat.pow_succ, Nat.mul_comm]
    refine Nat.le_trans (sumR_le (M := 10 ^ k) fun x _ => ?_) (Nat.mul_le_mul_right _ hn)
    split
    · exact fwd_le hn k _
    · exact Nat.zero_le _
theorem mny_le {bf : Nat → Nat} {n k S i : Nat} (hn : n ≤ 10) (hi : i ≤ n) : mny bf n k S i ≤ 10 ^ (k + 1) := by
  rw [Nat.pow_succ, Nat.mul_comm]
  refine Nat.le_trans (sumR_le (M := 10 ^ k) fun x _ => ?_) (Nat.mul_le_mul_right _ (by omega))
  split
  · exact fwd_le hn k _
  · exact Nat.zero_le _
end
end Go.Proofs.YthiodndhokooiaaGreatDoor.Ev

