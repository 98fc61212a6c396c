/- The least cost, by the last jobs. Mathematics alone. -/
import Derived.Test.YthiodndhokooiaaGreatDoorPmmQ3
namespace Go.Proofs.YthiodndhokooiaaGreatDoor.Ev

section
variable {bf ln wt : Nat → Nat} {n : Nat}
theorem sumR_ne {g : Nat → Nat} : ∀ {N : Nat}, sumR N g ≠ 0 → ∃ x, x < N ∧ g x ≠ 0
  | 0, h => absurd rfl h
  | N + 1, h => by
    rw [sumR_succ] at h
    by_cases e : g N = 0
    · obtain ⟨x, hx, hg⟩ := sumR_ne (g := g) (N := N) (by omega)
      exact ⟨x, by omega, hg⟩
    · exact ⟨N, by omega, e⟩
theorem sumR_ge {g : Nat → Nat} {x : Nat} : ∀ {N : Nat}, x < N → g x ≤ sumR N g
  | 0, h => by omega
  | N + 1, h => by
    rw [sumR_succ]
    by_cases e : x = N
    · subst e; omega
    · have := sumR_ge (g := g) (x := x) (N := N) (by omega)
      omega
theorem cnt_ne : ∀ {S : Nat}, S < 2 ^ n → (cnt bf n S ≠ 0 ↔ HasO bf n S) := by
  intro S
  induction S using Nat.strongRecOn with
  | _ S ih =>
    intro hS
    by_cases h0 : S = 0
    · subst h0
      exact ⟨fun _ => ⟨[], .nil⟩, fun _ => by rw [cnt_zero]; decide⟩
    · rw [cnt_step (by omega) hS]
      constructor
      · intro h
        obtain ⟨j, hj, hg⟩ := sumR_ne h
        split at hg
        · rename_i c
          have hlt := an_lt c.1
          obtain ⟨l, hl⟩ := (ih _ hlt (by omega)).1 hg
          have := hl.snoc (mem_rdy.2 ⟨hj, an_self, c.2⟩)
          rw [or_an c.1] at this
          exact ⟨_, this⟩
        · exact absurd rfl hg
      · rintro ⟨l, hl⟩
        rcases hl.cases_snoc with ⟨_, h0'⟩ | ⟨l', P, j, _, rfl, ho, hj⟩
        · exact absurd h0' h0
        · obtain ⟨j1, j2, j3⟩ := mem_rdy.1 hj
          have hP : P < P ||| 2 ^ j := or_gt j2
          have hc := (ih P hP (by omega)).2 ⟨l', ho⟩
          have := sumR_ge (g := fun i => if (P ||| 2 ^ j).testBit i = true ∧ an (bf i) (an (P ||| 2 ^ j) (2 ^ i)) = 0 then cnt bf n (an (P ||| 2 ^ j) (2 ^ i)) else 0) j1
          simp only [an_or j2] at this
          rw [if_pos ⟨by rw [or_tb]; simp, j3⟩] at this
          omega

/-- how long a set of jobs takes -/
def esum (ln : Nat → Nat) (n S : Nat) : Nat := sumR n fun j => if S.testBit j = true then ln j else 0
theorem esum_or {S j : Nat} (hj : j < n) (hS : S.testBit j = false) : esum ln n (S ||| 2 ^ j) = esum ln n S + ln j := by
  unfold esum
  have e2 : ln j = sumR n (fun i => if i = j then ln j else 0) := by
    rw [sumR_at (k := j) hj fun x _ hx => by rw [if_neg hx], if_pos rfl]
  rw [e2, ← sumR_add]
  refine sumR_congr fun i _ => ?_
  rw [or_tb]
  by_cases e : i = j
  · subst e; simp [hS]
  · have : ¬ j = i := fun h => e h.symm
    simp [e, this]
theorem Ord.esum {o : List Nat} {S : Nat} (h : Ord bf n o S) : (o.map ln).sum = Go.Proofs.YthiodndhokooiaaGreatDoor.Ev.esum ln n S := by
  induction h with
  | nil => unfold Go.Proofs.YthiodndhokooiaaGreatDoor.Ev.esum; rw [sumR_none fun j _ => by simp]; rfl
  | snoc _ hj ih => rw [esum_or (mem_rdy.1 hj).1 (mem_rdy.1 hj).2.1, List.map_append, List.sum_append, ih]; simp

/-- the least cost of a set; -1: it has no order -/
def kst (ln wt bf : Nat → Nat) (n S : Nat) : Int := match gath (fun l j => l ++ [j]) (btr ln wt) n bf [] S S with
  | some o => (cst ln wt o : Nat)
  | none => -1
theorem kst_some {S : Nat} (h : HasO bf n S) : ∃ o, Ord bf n o S ∧ kst ln wt bf n S = (cst ln wt o : Nat) ∧ ∀ l, Ord bf n l S → cst ln wt o ≤ cst ln wt l := by
  obtain ⟨l, hl⟩ := h
  obtain ⟨m, hm, ho, hle⟩ := gath_least (bf := bf) (n := n) (le := cle ln wt) (jn := btr ln wt) cle_best btr_or hl
  refine ⟨m, ho, by unfold kst; rw [hm], fun l hl => ?_⟩
  rcases hle l hl with h | ⟨h, _⟩ <;> omega
theorem kst_none {S : Nat} (h : ¬ HasO bf n S) : kst ln wt bf n S = -1 := by
  unfold kst
  cases e : gath (fun l j => l ++ [j]) (btr ln wt) n bf [] S S with
  | none => rfl
  | some o => exact absurd ⟨o, (gath_best cle_best btr_or S S (Nat.le_refl _)).1 o e⟩ h
theorem kst_zero : kst ln wt bf n 0 = 0 := by
  obtain ⟨o, ho, hk, _⟩ := kst_some (ln := ln) (wt := wt) (bf := bf) (n := n) (S := 0) ⟨[], .nil⟩
  rw [hk, ho.nil_iff]; rfl

/-- is a job a last one of a set? -/
def vld (bf : Nat → Nat) (n S j : Nat) : Prop := S.testBit j = true ∧ cnt bf n (an S (2 ^ j)) ≠ 0 ∧ an (bf j) (an S (2 ^ j)) = 0
instance {S j : Nat} : Decidable (vld bf n S j) := inferInstanceAs (Decidable (_ ∧ _ ∧ _))
/-- one set, job by job: how many orders, the least cost -/
def lst (ln wt bf : Nat → Nat) (n S : Nat) : Nat → Nat × Int
  | 0 => (0, -1)
  | j + 1 => if vld bf n S j then ((lst ln wt bf n S j).1 + cnt bf n (an S (2 ^ j)), if (lst ln wt bf n S j).2 < 0 ∨ kst ln wt bf n (an S (2 ^ j)) + wt j * (esum ln n S : Nat) < (lst ln wt bf n S j).2 then kst ln wt bf n (an S (2 ^ j)) + wt j * (esum ln n S : Nat) else (lst ln wt bf n S j).2) else lst ln wt bf n S j
theorem lst_succ {S j : Nat} : lst ln wt bf n S (j + 1) = if vld bf n S j then ((lst ln wt bf n S j).1 + cnt bf n (an S (2 ^ j)), if (lst ln wt bf n S j).2 < 0 ∨ kst ln wt bf n (an S (2 ^ j)) + wt j * (esum ln n S : Nat) < (lst ln wt bf n S j).2 then kst ln wt bf n (an S (2 ^ j)) + wt j * (esum ln n S : Nat) else (lst ln wt bf n S j).2) else lst ln wt bf n S j := rfl
theorem lst_one {S : Nat} : ∀ j, (lst ln wt bf n S j).1 = sumR j fun i => if S.testBit i ∧ an (bf i) (an S (2 ^ i)) = 0 then cnt bf n (an S (2 ^ i)) else 0
  | 0 => rfl
  | j + 1 => by
    rw [sumR_succ, ← lst_one j, lst_succ]
    by_cases c : vld bf n S j
    · rw [if_pos c]
      have c2 : S.testBit j = true ∧ an (bf j) (an S (2 ^ j)) = 0 := ⟨c.1, c.2.2⟩
      rw [if_pos c2]
    · rw [if_neg c]
      by_cases c2 : S.testBit j = true ∧ an (bf j) (an S (2 ^ j)) = 0
      · have : cnt bf n (an S (2 ^ j)) = 0 := by
          cases e : cnt bf n (an S (2 ^ j)) with
          | zero => rfl
          | succ k => exact absurd ⟨c2.1, by omega, c2.2⟩ c
        rw [if_pos c2, this]; rfl
      · rw [if_neg c2]; rfl
def vcost (ln wt bf : Nat → Nat) (n S j : Nat) : Int := kst ln wt bf n (an S (2 ^ j)) + wt j * (esum ln n S : Nat)
theorem vcost_nonneg {S j : Nat} (h : vld bf n S j) (hS : S < 2 ^ n) : 0 ≤ vcost ln wt bf n S j := by
  have hlt := an_lt h.1
  obtain ⟨o, _, hk, _⟩ := kst_some (ln := ln) (wt := wt) ((cnt_ne (by omega)).1 h.2.1)
  unfold vcost
  rw [hk]
  have := Int.mul_nonneg (Int.natCast_nonneg (wt j)) (Int.natCast_nonneg (esum ln n S))
  omega
theorem lst_two {S : Nat} (hS : S < 2 ^ n) : ∀ j, ((lst ln wt bf n S j).2 = -1 ∧ ∀ i, i < j → ¬ vld bf n S i) ∨ (0 ≤ (lst ln wt bf n S j).2 ∧ (∃ i, i < j ∧ vld bf n S i ∧ (lst ln wt bf n S j).2 = vcost ln wt bf n S i) ∧ ∀ i, i < j → vld bf n S i → (lst ln wt bf n S j).2 ≤ vcost ln wt bf n S i)
  | 0 => .inl ⟨rfl, fun i h => by omega⟩
  | j + 1 => by
    have ih := lst_two hS j
    rw [lst_succ]
    by_cases c : vld bf n S j
    · rw [if_pos c]
      have hv := vcost_nonneg (ln := ln) (wt := wt) c hS
      have e : kst ln wt bf n (an S (2 ^ j)) + wt j * (esum ln n S : Nat) = vcost ln wt bf n S j := rfl
      simp only [e]
      generalize lst ln wt bf n S j = p at ih
      right
      rcases ih with ⟨h1, h2⟩ | ⟨h1, ⟨i, hi, hvi, hei⟩, h3⟩
      · rw [if_pos (.inl (by omega))]
        refine ⟨hv, ⟨j, by omega, c, rfl⟩, fun i hi hvi => ?_⟩
        by_cases ei : i = j
        · subst ei; exact Int.le_refl _
        · exact absurd hvi (h2 i (by omega))
      · by_cases c2 : vcost ln wt bf n S j < p.2
        · rw [if_pos (.inr c2)]
          refine ⟨hv, ⟨j, by omega, c, rfl⟩, fun i hi hvi => ?_⟩
          by_cases ei : i = j
          · subst ei; exact Int.le_refl _
          · have := h3 i (by omega) hvi; omega
        · rw [if_neg (by omega)]
          refine ⟨h1, ⟨i, by omega, hvi, hei⟩, fun i hi hvi => ?_⟩
          by_cases ei : i = j
          · subst ei; omega
          · exact h3 i (by omega) hvi
    · rw [if_neg c]
      rcases ih with ⟨h1, h2⟩ | ⟨h1, ⟨i, hi, hvi, hei⟩, h3⟩
      · refine .inl ⟨h1, fun i hi => ?_⟩
        by_cases ei : i = j
        · subst ei; exact c
        · exact h2 i (by omega)
      · refine .inr ⟨h1, ⟨i, by omega, hvi, hei⟩, fun i hi hvi => ?_⟩
        by_cases ei : i = j
        · subst ei; exact absurd hvi c
        · exact h3 i (by omega) hvi
theorem lst_all {S : Nat} (h0 : 0 < S) (hS : S < 2 ^ n) : lst ln wt bf n S n = (cnt bf n S, kst ln wt bf n S) := by
  refine Prod.ext ?_ ?_
  · rw [lst_one, cnt_step h0 hS]
  · simp only
    have up : ∀ i, i < n → vld bf n S i → ∃ o, Ord bf n o S ∧ vcost ln wt bf n S i = (cst ln wt o : Nat) := by
      intro i hi hv
      have hlt := an_lt hv.1
      obtain ⟨o, ho, hk, _⟩ := kst_some (ln := ln) (wt := wt) ((cnt_ne (by omega)).1 hv.2.1)
      have hs := ho.snoc (mem_rdy.2 ⟨hi, an_self, hv.2.2⟩)
      rw [or_an hv.1] at hs
      refine ⟨_, hs, ?_⟩
      have he := hs.esum (ln := ln)
      rw [List.map_append, List.sum_append] at he
      unfold vcost
      rw [hk, cst_snoc, ← he]
      simp
    have down : ∀ o, Ord bf n o S → ∃ i, i < n ∧ vld bf n S i ∧ vcost ln wt bf n S i ≤ (cst ln wt o : Nat) := by
      intro o ho
      rcases ho.cases_snoc with ⟨_, h0'⟩ | ⟨l', P, j, rfl, rfl, hp, hj⟩
      · omega
      · obtain ⟨j1, j2, j3⟩ := mem_rdy.1 hj
        have hP : P < P ||| 2 ^ j := or_gt j2
        refine ⟨j, j1, ⟨by rw [or_tb]; simp, by rw [an_or j2]; exact (cnt_ne (by omega)).2 ⟨l', hp⟩, by rw [an_or j2]; exact j3⟩, ?_⟩
        have he := ho.esum (ln := ln)
        rw [List.map_append, List.sum_append] at he
        obtain ⟨o', ho', hk, hle⟩ := kst_some (ln := ln) (wt := wt) (bf := bf) (n := n) (S := P) ⟨l', hp⟩
        have := hle l' hp
        unfold vcost
        rw [an_or j2, hk, cst_snoc, ← he]
        simp
        exact this
    by_cases hO : HasO bf n S
    · obtain ⟨o, ho, hk, hle⟩ := kst_some (ln := ln) (wt := wt) hO
      obtain ⟨i, hi, hv, hvle⟩ := down o ho
      rcases lst_two (ln := ln) (wt := wt) (bf := bf) hS n with ⟨_, h2⟩ | ⟨_, ⟨q, hq, hvq, hqe⟩, h3⟩
      · exact absurd hv (h2 i hi)
      · rw [hk]
        have h4 := h3 i hi hv
        obtain ⟨o2, ho2, he2⟩ := up q hq hvq
        have := hle o2 ho2
        omega
    · rw [kst_none hO]
      rcases lst_two (ln := ln) (wt := wt) (bf := bf) hS n with ⟨h1, _⟩ | ⟨_, ⟨q, hq, hvq, _⟩, _⟩
      · exact h1
      · obtain ⟨o2, ho2, _⟩ := up q hq hvq
        exact absurd ⟨o2, ho2⟩ hO
end
end Go.Proofs.YthiodndhokooiaaGreatDoor.Ev

