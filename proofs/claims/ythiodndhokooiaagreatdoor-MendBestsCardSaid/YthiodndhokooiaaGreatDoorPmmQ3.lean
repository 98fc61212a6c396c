/- Whether there is an order; the least cost by the last jobs; turned jobs. Mathematics alone. -/
import Derived.Test.YthiodndhokooiaaGreatDoorPmmQ2
namespace Go.Proofs.YthiodndhokooiaaGreatDoor.Ev

section
variable {bf : Nat → Nat} {n : Nat}
/-- all of a list -/
def addAll (S : Nat) (L : List Nat) : Nat := L.foldl (fun s j => s ||| 2 ^ j) S
theorem addAll_tb : ∀ (L : List Nat) (S i : Nat), (addAll S L).testBit i = (S.testBit i || decide (i ∈ L))
  | [], S, i => by simp [addAll]
  | j :: L, S, i => by
    show (addAll (S ||| 2 ^ j) L).testBit i = _
    rw [addAll_tb L, or_tb]
    by_cases e : j = i
    · subst e; simp
    · have e' : ¬ i = j := fun h => e h.symm
      simp [e, e', List.mem_cons]
theorem addAll_lt : ∀ (L : List Nat) (S : Nat), S < 2 ^ n → (∀ j ∈ L, j < n) → addAll S L < 2 ^ n
  | [], _, h, _ => h
  | j :: L, _, h, hL => addAll_lt L _ (or_lt h (hL j List.mem_cons_self)) fun i hi => hL i (List.mem_cons_of_mem _ hi)
theorem an_mono {a S P : Nat} (h : an a S = 0) (hS : ∀ i, S.testBit i = true → P.testBit i = true) : an a P = 0 :=
  an_zero.2 fun i hi => hS i (an_zero.1 h i hi)
/-- some order of a set -/
def HasO (bf : Nat → Nat) (n S : Nat) : Prop := ∃ l, Ord bf n l S
theorem HasO.add {S j : Nat} (h : HasO bf n S) (hj : j < n) (hb : an (bf j) S = 0) : HasO bf n (S ||| 2 ^ j) := by
  obtain ⟨l, hl⟩ := h
  cases e : S.testBit j with
  | false => exact ⟨_, hl.snoc (mem_rdy.2 ⟨hj, e, hb⟩)⟩
  | true =>
    have : S ||| 2 ^ j = S := by
      refine Nat.eq_of_testBit_eq fun i => ?_
      rw [or_tb]
      by_cases h : j = i
      · subst h; rw [e]; simp
      · simp [h]
    rw [this]; exact ⟨l, hl⟩
theorem HasO.addAll : ∀ {L : List Nat} {S : Nat}, HasO bf n S → (∀ j ∈ L, j < n ∧ an (bf j) S = 0) → HasO bf n (addAll S L)
  | [], _, h, _ => h
  | j :: L, S, h, hL => by
    show HasO bf n (Go.Proofs.YthiodndhokooiaaGreatDoor.Ev.addAll (S ||| 2 ^ j) L)
    have h1 := hL j List.mem_cons_self
    refine HasO.addAll (h.add h1.1 h1.2) fun i hi => ?_
    have h2 := hL i (List.mem_cons_of_mem _ hi)
    exact ⟨h2.1, an_mono h2.2 fun x hx => by rw [or_tb, hx]; rfl⟩
/-- where all can be ordered, no set is stuck -/
theorem Ord.stuck {l : List Nat} {P : Nat} (h : Ord bf n l P) : ∀ {S : Nat}, (∀ i, P.testBit i = true → S.testBit i = true) ∨ ∃ j, j ∈ rdy bf n S ∧ P.testBit j = true := by
  induction h with
  | nil => intro S; exact .inl fun i hi => by simp at hi
  | @snoc l P j ho hj ih =>
    intro S
    rcases ih (S := S) with h | ⟨i, hi, hP⟩
    · cases e : S.testBit j with
      | true =>
        refine .inl fun i hi => ?_
        rw [or_tb] at hi
        simp only [Bool.or_eq_true, decide_eq_true_eq] at hi
        rcases hi with hi | rfl
        · exact h i hi
        · exact e
      | false =>
        obtain ⟨j1, j2, j3⟩ := mem_rdy.1 hj
        exact .inr ⟨j, mem_rdy.2 ⟨j1, e, an_mono j3 h⟩, by rw [or_tb]; simp⟩
    · exact .inr ⟨i, hi, by rw [or_tb, hP]; rfl⟩
theorem not_stuck {S : Nat} (h : HasO bf n (2 ^ n - 1)) (hS : S < 2 ^ n) (hne : S ≠ 2 ^ n - 1) : ∃ j, j ∈ rdy bf n S := by
  obtain ⟨l, hl⟩ := h
  rcases hl.stuck (S := S) with h | ⟨j, hj, _⟩
  · exact absurd (eq_all hS fun i hi => h i (by rw [all_tb]; simpa using hi)) hne
  · exact ⟨j, hj⟩
theorem crd_mono {S P : Nat} : ∀ {n : Nat}, (∀ i, i < n → S.testBit i = true → P.testBit i = true) → crd n S ≤ crd n P
  | 0, _ => Nat.le_refl _
  | n + 1, h => by
    rw [crd_step, crd_step]
    have := crd_mono (S := S) (P := P) (n := n) fun i hi => h i (by omega)
    have h2 := h n (by omega)
    cases e : S.testBit n with
    | false => simp; omega
    | true => rw [h2 e]; simp; omega
theorem crd_more {S P j : Nat} (h : ∀ i, S.testBit i = true → P.testBit i = true) (hj : j < n) (h1 : S.testBit j = false) (h2 : P.testBit j = true) : crd n S < crd n P := by
  have e := crd_or (S := S) h1 hj
  have := crd_mono (S := S ||| 2 ^ j) (P := P) (n := n) fun i _ hi => by
    rw [or_tb] at hi
    simp only [Bool.or_eq_true, decide_eq_true_eq] at hi
    rcases hi with hi | rfl
    · exact h i hi
    · exact h2
  omega
theorem crd_eq_all {S : Nat} (hS : S < 2 ^ n) (h : n ≤ crd n S) : S = 2 ^ n - 1 := eq_all hS (crd_full (Nat.le_antisymm crd_le h))

/-- round by round: all that can go go -/
def rnd (bf : Nat → Nat) (n : Nat) : Nat → Nat
  | 0 => 0
  | k + 1 => addAll (rnd bf n k) (rdy bf n (rnd bf n k))
theorem rnd_has (k : Nat) : HasO bf n (rnd bf n k) := by
  induction k with
  | zero => exact ⟨[], .nil⟩
  | succ k ih => exact ih.addAll fun j hj => ⟨(mem_rdy.1 hj).1, (mem_rdy.1 hj).2.2⟩
theorem rnd_lt {k : Nat} : rnd bf n k < 2 ^ n := by
  obtain ⟨l, hl⟩ := rnd_has (bf := bf) (n := n) k
  exact hl.lt
theorem rnd_crd (h : HasO bf n (2 ^ n - 1)) : ∀ k, min k n ≤ crd n (rnd bf n k)
  | 0 => by simp
  | k + 1 => by
    have ih := rnd_crd h k
    have hm : ∀ i, (rnd bf n k).testBit i = true → (rnd bf n (k + 1)).testBit i = true := fun i hi => by
      show (addAll _ _).testBit i = true
      rw [addAll_tb, hi]; rfl
    by_cases e : rnd bf n k = 2 ^ n - 1
    · have := crd_mono (n := n) fun i _ => hm i
      rw [e, crd_all] at this
      omega
    · obtain ⟨j, hj⟩ := not_stuck h rnd_lt e
      have := crd_more (n := n) hm (mem_rdy.1 hj).1 (mem_rdy.1 hj).2.1 (by
        show (addAll _ _).testBit j = true
        rw [addAll_tb]; simp [hj])
      omega
/-- no ring: at the end all are done -/
theorem rnd_iff : rnd bf n n = 2 ^ n - 1 ↔ HasO bf n (2 ^ n - 1) :=
  ⟨fun h => h ▸ rnd_has n, fun h => crd_eq_all rnd_lt (by have := rnd_crd h n; omega)⟩

/-- one after the other, in place -/
def stp (bf : Nat → Nat) (D j : Nat) : Nat := if an (bf j) D = 0 then D ||| 2 ^ j else D
def stps (bf : Nat → Nat) (D : Nat) (L : List Nat) : Nat := L.foldl (stp bf) D
theorem stps_has : ∀ {L : List Nat} {D : Nat}, HasO bf n D → (∀ j ∈ L, j < n) → HasO bf n (stps bf D L)
  | [], _, h, _ => h
  | j :: L, D, h, hL => by
    show HasO bf n (stps bf (stp bf D j) L)
    refine stps_has ?_ fun i hi => hL i (List.mem_cons_of_mem _ hi)
    unfold stp
    split
    · rename_i hb; exact h.add (hL j List.mem_cons_self) hb
    · exact h
theorem stp_mono {D j i : Nat} (h : D.testBit i = true) : (stp bf D j).testBit i = true := by
  unfold stp
  split
  · rw [or_tb, h]; rfl
  · exact h
theorem stps_mono {i : Nat} : ∀ {L : List Nat} {D : Nat}, D.testBit i = true → (stps bf D L).testBit i = true
  | [], _, h => h
  | _ :: L, _, h => stps_mono (L := L) (stp_mono h)
theorem stps_hit {j : Nat} : ∀ {L : List Nat} {D : Nat}, an (bf j) D = 0 → j ∈ L → (stps bf D L).testBit j = true
  | [], _, _, h => by cases h
  | i :: L, D, hb, h => by
    show (stps bf (stp bf D i) L).testBit j = true
    by_cases e : j = i
    · subst e
      refine stps_mono ?_
      unfold stp
      rw [if_pos hb, or_tb]; simp
    · refine stps_hit (an_mono hb fun x hx => stp_mono hx) ?_
      rcases List.mem_cons.1 h with h | h
      · exact absurd h e
      · exact h
def srnd (bf : Nat → Nat) (n : Nat) : Nat → Nat
  | 0 => 0
  | k + 1 => stps bf (srnd bf n k) (List.range n)
theorem srnd_has (k : Nat) : HasO bf n (srnd bf n k) := by
  induction k with
  | zero => exact ⟨[], .nil⟩
  | succ k ih => exact stps_has ih fun j hj => List.mem_range.1 hj
theorem srnd_lt {k : Nat} : srnd bf n k < 2 ^ n := by
  obtain ⟨l, hl⟩ := srnd_has (bf := bf) (n := n) k
  exact hl.lt
theorem srnd_crd (h : HasO bf n (2 ^ n - 1)) : ∀ k, min k n ≤ crd n (srnd bf n k)
  | 0 => by simp
  | k + 1 => by
    have ih := srnd_crd h k
    have hm : ∀ i, (srnd bf n k).testBit i = true → (srnd bf n (k + 1)).testBit i = true := fun i hi => stps_mono hi
    by_cases e : srnd bf n k = 2 ^ n - 1
    · have := crd_mono (n := n) fun i _ => hm i
      rw [e, crd_all] at this
      omega
    · obtain ⟨j, hj⟩ := not_stuck h srnd_lt e
      obtain ⟨j1, j2, j3⟩ := mem_rdy.1 hj
      have := crd_more (n := n) hm j1 j2 (stps_hit j3 (List.mem_range.2 j1))
      omega
theorem srnd_iff : srnd bf n n = 2 ^ n - 1 ↔ HasO bf n (2 ^ n - 1) :=
  ⟨fun h => h ▸ srnd_has n, fun h => crd_eq_all srnd_lt (by have := srnd_crd h n; omega)⟩

theorem Ord.crd {l : List Nat} {S : Nat} (h : Ord bf n l S) : Go.Proofs.YthiodndhokooiaaGreatDoor.Ev.crd n S = l.length := by
  induction h with
  | nil => exact crd_zero
  | snoc _ hj ih => rw [crd_or (mem_rdy.1 hj).2.1 (mem_rdy.1 hj).1, ih]; simp
end
end Go.Proofs.YthiodndhokooiaaGreatDoor.Ev

