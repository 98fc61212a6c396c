/- Jobs of two sets: mathematics. -/
import Derived.Test.YthiodndhokooiaaGreatDoorPmmM2
import Derived.Test.YthiodndhokooiaaGreatDoorPmmQ4
set_option linter.unusedSimpArgs false
namespace Go.Proofs.YthiodndhokooiaaGreatDoor.Ev
open Go Go.Proofs
noncomputable section

def shg (f : Nat → Nat) : Nat → Nat
  | 0 => 1
  | b + 1 => f (b + 1) + shg f b
/-- how many shuffles -/
def shf : Nat → Nat → Nat
  | 0 => fun _ => 1
  | a + 1 => shg (shf a)
theorem shf_zero (a : Nat) : shf a 0 = 1 := by cases a <;> rfl
theorem shf_rec {a b : Nat} (h : 0 < a + b) : shf a b = (if a = 0 then 0 else shf (a - 1) b) + (if b = 0 then 0 else shf a (b - 1)) := by
  cases a with
  | zero =>
    cases b with
    | zero => omega
    | succ b => rfl
  | succ a =>
    cases b with
    | zero => show 1 = shf a 0 + 0; rw [shf_zero]
    | succ b => rfl
theorem shf_loop : ∀ a i : Fin 6, 0 < i.val → shf a.val (i.val - 1) * (a.val + i.val) / i.val = shf a.val i.val := by decide
theorem sumR_split {g : Nat → Nat} {n1 : Nat} : ∀ {n2 : Nat}, sumR (n1 + n2) g = sumR n1 g + sumR n2 fun j => g (n1 + j)
  | 0 => by simp [sumR_zero]
  | n2 + 1 => by
    rw [← Nat.add_assoc, sumR_succ, sumR_succ, sumR_split]; omega
theorem sumR_mul {g : Nat → Nat} {c : Nat} : ∀ {N : Nat}, sumR N (fun j => g j * c) = sumR N g * c
  | 0 => by simp [sumR_zero]
  | N + 1 => by rw [sumR_succ, sumR_succ, sumR_mul, Nat.add_mul]
/-- two sets side by side -/
def two2 (n1 T1 T2 : Nat) : Nat := T1 ||| T2 <<< n1
theorem two2_tb {n1 T1 T2 i : Nat} (h : T1 < 2 ^ n1) : (two2 n1 T1 T2).testBit i = if i < n1 then T1.testBit i else T2.testBit (i - n1) := by
  unfold two2
  rw [Nat.testBit_or, Nat.testBit_shiftLeft]
  by_cases c : i < n1
  · have : ¬ n1 ≤ i := by omega
    rw [if_pos c]; simp [this]
  · have : n1 ≤ i := by omega
    rw [if_neg c, Nat.testBit_lt_two_pow (Nat.lt_of_lt_of_le h (Nat.pow_le_pow_right (by omega) this))]
    simp [this]
theorem two2_an1 {n1 T1 T2 j : Nat} (h : T1 < 2 ^ n1) (hj : j < n1) : an (two2 n1 T1 T2) (2 ^ j) = two2 n1 (an T1 (2 ^ j)) T2 := by
  refine Nat.eq_of_testBit_eq fun i => ?_
  rw [an_two, two2_tb h, two2_tb (Nat.lt_of_le_of_lt an_le h)]
  by_cases c : i < n1
  · rw [if_pos c, if_pos c, an_two]
  · have : j ≠ i := by omega
    rw [if_neg c, if_neg c]; simp [this]
theorem two2_an2 {n1 T1 T2 j : Nat} (h : T1 < 2 ^ n1) : an (two2 n1 T1 T2) (2 ^ (n1 + j)) = two2 n1 T1 (an T2 (2 ^ j)) := by
  refine Nat.eq_of_testBit_eq fun i => ?_
  rw [an_two, two2_tb h, two2_tb h]
  by_cases c : i < n1
  · have : n1 + j ≠ i := by omega
    rw [if_pos c, if_pos c]; simp [this]
  · rw [if_neg c, if_neg c, an_two]
    have h3 : decide (n1 + j = i) = decide (j = i - n1) := decide_eq_decide.2 ⟨fun _ => by omega, fun _ => by omega⟩
    rw [h3]
theorem two2_lt {n1 n2 T1 T2 : Nat} (h1 : T1 < 2 ^ n1) (h2 : T2 < 2 ^ n2) : two2 n1 T1 T2 < 2 ^ (n1 + n2) := by
  refine Nat.lt_pow_two_of_testBit _ fun i hi => ?_
  rw [two2_tb h1, if_neg (by omega)]
  exact Nat.testBit_lt_two_pow (Nat.lt_of_lt_of_le h2 (Nat.pow_le_pow_right (by omega) (by omega)))
theorem prod_cnt {bf bf1 bf2 : Nat → Nat} {n1 n2 : Nat} (hb1 : ∀ j, bf1 j < 2 ^ n1) (e1 : ∀ j, j < n1 → bf j = bf1 j) (e2 : ∀ j, j < n2 → bf (n1 + j) = two2 n1 0 (bf2 j)) :
    ∀ (k T1 T2 : Nat), crd n1 T1 + crd n2 T2 = k → T1 < 2 ^ n1 → T2 < 2 ^ n2 → cnt bf (n1 + n2) (two2 n1 T1 T2) = cnt bf1 n1 T1 * cnt bf2 n2 T2 * shf (crd n1 T1) (crd n2 T2) := by
  have z : ∀ {n T : Nat}, T < 2 ^ n → crd n T = 0 → T = 0 := fun {n T} hT hc => by
    refine Nat.eq_of_testBit_eq fun i => ?_
    rw [Nat.zero_testBit]
    cases e : T.testBit i with
    | false => rfl
    | true =>
      by_cases hi : i < n
      · have := crd_an e hi; omega
      · rw [Nat.testBit_lt_two_pow (Nat.lt_of_lt_of_le hT (Nat.pow_le_pow_right (by omega) (by omega)))] at e
        cases e
  have a1 : ∀ {T1 T2 j : Nat}, T1 < 2 ^ n1 → (an (bf1 j) (two2 n1 T1 T2) = 0 ↔ an (bf1 j) T1 = 0) := fun {T1 T2 j} h => by
    rw [an_zero, an_zero]
    have key : ∀ i, (bf1 j).testBit i = true → (two2 n1 T1 T2).testBit i = T1.testBit i := fun i hi => by
      have : i < n1 := by
        rcases Nat.lt_or_ge i n1 with h2 | h2
        · exact h2
        · rw [Nat.testBit_lt_two_pow (Nat.lt_of_lt_of_le (hb1 j) (Nat.pow_le_pow_right (by omega) h2))] at hi
          cases hi
      rw [two2_tb h, if_pos this]
    exact ⟨fun h i hi => by rw [← key i hi]; exact h i hi, fun h i hi => by rw [key i hi]; exact h i hi⟩
  have a2 : ∀ {T1 T2 b : Nat}, T1 < 2 ^ n1 → (an (two2 n1 0 b) (two2 n1 T1 T2) = 0 ↔ an b T2 = 0) := fun {T1 T2 b} h => by
    rw [an_zero, an_zero]
    constructor
    · intro hh i hi
      have := hh (n1 + i) (by rw [two2_tb (Nat.two_pow_pos n1), if_neg (by omega)]; rw [show n1 + i - n1 = i by omega]; exact hi)
      rw [two2_tb h, if_neg (by omega), show n1 + i - n1 = i by omega] at this
      exact this
    · intro hh i hi
      rw [two2_tb (Nat.two_pow_pos n1)] at hi
      by_cases c : i < n1
      · rw [if_pos c] at hi; simp at hi
      · rw [if_neg c] at hi
        rw [two2_tb h, if_neg c]
        exact hh _ hi
  intro k
  induction k with
  | zero =>
    intro T1 T2 hk h1 h2
    have t1 := z h1 (by omega)
    have t2 := z h2 (by omega)
    subst t1; subst t2
    have : two2 n1 0 0 = 0 := by unfold two2; simp
    rw [this, crd_zero, crd_zero]
    rfl
  | succ k ih =>
    intro T1 T2 hk h1 h2
    have hS := two2_lt h1 h2
    have hpos : 0 < two2 n1 T1 T2 := by
      rcases Nat.eq_zero_or_pos (two2 n1 T1 T2) with h | h
      · exfalso
        have g1 : T1 = 0 := Nat.eq_of_testBit_eq fun i => by
          rw [Nat.zero_testBit]
          by_cases c : i < n1
          · have := two2_tb (T2 := T2) (i := i) h1
            rw [h, if_pos c, Nat.zero_testBit] at this
            exact this.symm
          · exact Nat.testBit_lt_two_pow (Nat.lt_of_lt_of_le h1 (Nat.pow_le_pow_right (by omega) (by omega)))
        have g2 : T2 = 0 := Nat.eq_of_testBit_eq fun i => by
          rw [Nat.zero_testBit]
          have := two2_tb (T2 := T2) (i := n1 + i) h1
          rw [h, if_neg (by omega), Nat.zero_testBit, show n1 + i - n1 = i by omega] at this
          exact this.symm
        rw [g1, g2, crd_zero, crd_zero] at hk
        omega
      · exact h
    rw [cnt_step hpos hS, sumR_split]
    have s1 : sumR n1 (fun j => if (two2 n1 T1 T2).testBit j = true ∧ an (bf j) (an (two2 n1 T1 T2) (2 ^ j)) = 0 then cnt bf (n1 + n2) (an (two2 n1 T1 T2) (2 ^ j)) else 0) = cnt bf1 n1 T1 * (cnt bf2 n2 T2 * (if crd n1 T1 = 0 then 0 else shf (crd n1 T1 - 1) (crd n2 T2))) := by
      by_cases c : crd n1 T1 = 0
      · have t1 := z h1 c
        subst t1
        rw [if_pos c, Nat.mul_zero, Nat.mul_zero]
        exact sumR_none fun j hj => by rw [two2_tb h1, if_pos (show j < n1 from hj)]; simp
      · have hp : 0 < T1 := by
          rcases Nat.eq_zero_or_pos T1 with h | h
          · rw [h, crd_zero] at c; exact absurd rfl c
          · exact h
        rw [if_neg c, cnt_step hp h1, ← sumR_mul]
        refine sumR_congr fun j hj => ?_
        rw [two2_tb h1, if_pos hj, two2_an1 h1 hj, e1 j hj]
        have hT : an T1 (2 ^ j) < 2 ^ n1 := Nat.lt_of_le_of_lt an_le h1
        by_cases c2 : T1.testBit j = true ∧ an (bf1 j) (an T1 (2 ^ j)) = 0
        · have hc := crd_an c2.1 hj
          rw [if_pos ⟨c2.1, (a1 hT).2 c2.2⟩, if_pos c2, ih (an T1 (2 ^ j)) T2 (by omega) hT h2, show crd n1 (an T1 (2 ^ j)) = crd n1 T1 - 1 by omega, Nat.mul_assoc]
        · rw [if_neg fun h => c2 ⟨h.1, (a1 hT).1 h.2⟩, if_neg c2, Nat.zero_mul]
    have s2 : sumR n2 (fun j => if (two2 n1 T1 T2).testBit (n1 + j) = true ∧ an (bf (n1 + j)) (an (two2 n1 T1 T2) (2 ^ (n1 + j))) = 0 then cnt bf (n1 + n2) (an (two2 n1 T1 T2) (2 ^ (n1 + j))) else 0) = cnt bf2 n2 T2 * (cnt bf1 n1 T1 * (if crd n2 T2 = 0 then 0 else shf (crd n1 T1) (crd n2 T2 - 1))) := by
      by_cases c : crd n2 T2 = 0
      · have t2 := z h2 c
        subst t2
        rw [if_pos c, Nat.mul_zero, Nat.mul_zero]
        exact sumR_none fun j hj => by rw [two2_tb h1, if_neg (show ¬ n1 + j < n1 by omega)]; simp
      · have hp : 0 < T2 := by
          rcases Nat.eq_zero_or_pos T2 with h | h
          · rw [h, crd_zero] at c; exact absurd rfl c
          · exact h
        rw [if_neg c, cnt_step hp h2, ← sumR_mul]
        refine sumR_congr fun j hj => ?_
        rw [two2_tb h1, if_neg (show ¬ n1 + j < n1 by omega), show n1 + j - n1 = j by omega, two2_an2 h1, e2 j hj]
        have hT : an T2 (2 ^ j) < 2 ^ n2 := Nat.lt_of_le_of_lt an_le h2
        by_cases c2 : T2.testBit j = true ∧ an (bf2 j) (an T2 (2 ^ j)) = 0
        · have hc := crd_an c2.1 hj
          rw [if_pos ⟨c2.1, (a2 h1).2 c2.2⟩, if_pos c2, ih T1 (an T2 (2 ^ j)) (by omega) h1 hT, show crd n2 (an T2 (2 ^ j)) = crd n2 T2 - 1 by omega, Nat.mul_comm (cnt bf1 n1 T1), Nat.mul_assoc]
        · rw [if_neg fun h => c2 ⟨h.1, (a2 h1).1 h.2⟩, if_neg c2, Nat.zero_mul]
    rw [s1, s2, shf_rec (a := crd n1 T1) (b := crd n2 T2) (by omega), Nat.mul_add, ← Nat.mul_assoc, ← Nat.mul_assoc, Nat.mul_comm (cnt bf2 n2 T2) (cnt bf1 n1 T1)]
def shp (n1 : Nat) (p : Int × Int) : Int × Int := (p.1 + n1, p.2 + n1)
theorem block_law {n1 n2 : Nat} {ps qs : List (Int × Int)} (h1 : okP n1 ps = true) (h2 : okP n2 qs = true) : nOrd (ps ++ qs.map (shp n1)) (n1 + n2) = nOrd ps n1 * nOrd qs n2 * shf n1 n2 := by
  have hp1 := List.all_eq_true.1 h1
  have hp2 := List.all_eq_true.1 h2
  have hpos1 := Nat.two_pow_pos n1
  have hpos2 := Nat.two_pow_pos n2
  have bits : ∀ j i, (bfP (ps ++ qs.map (shp n1)) j).testBit i = true ↔ ((bfP ps j).testBit i = true ∨ ∃ q ∈ qs, q.2 + n1 = (j : Int) ∧ (q.1 + n1).toNat = i) := fun j i => by
    rw [bfP_bit, bfP_bit]
    constructor
    · rintro ⟨p, hp, ha, hb⟩
      rw [List.mem_append] at hp
      rcases hp with hp | hp
      · exact .inl ⟨p, hp, ha, hb⟩
      · obtain ⟨q, hq, rfl⟩ := List.mem_map.1 hp
        exact .inr ⟨q, hq, ha, hb⟩
    · rintro (⟨p, hp, ha, hb⟩ | ⟨q, hq, ha, hb⟩)
      · exact ⟨p, List.mem_append.2 (.inl hp), ha, hb⟩
      · exact ⟨shp n1 q, List.mem_append.2 (.inr (List.mem_map.2 ⟨q, hq, rfl⟩)), ha, hb⟩
  have e1 : ∀ j, j < n1 → bfP (ps ++ qs.map (shp n1)) j = bfP ps j := fun j hj => Nat.eq_of_testBit_eq fun i => by
    rw [Bool.eq_iff_iff, bits]
    constructor
    · rintro (h | ⟨q, hq, ha, _⟩)
      · exact h
      · have := hp2 q hq
        rw [decide_eq_true_eq] at this
        omega
    · exact .inl
  have e2 : ∀ j, j < n2 → bfP (ps ++ qs.map (shp n1)) (n1 + j) = two2 n1 0 (bfP qs j) := fun j hj => Nat.eq_of_testBit_eq fun i => by
    rw [Bool.eq_iff_iff, bits, two2_tb hpos1]
    constructor
    · rintro (h | ⟨q, hq, ha, hb⟩)
      · obtain ⟨p, hp, ha, _⟩ := bfP_bit.1 h
        have := hp1 p hp
        rw [decide_eq_true_eq] at this
        omega
      · have := hp2 q hq
        rw [decide_eq_true_eq] at this
        rw [if_neg (by omega), bfP_bit]
        exact ⟨q, hq, by omega, by omega⟩
    · intro h
      by_cases c : i < n1
      · rw [if_pos c] at h; simp at h
      · rw [if_neg c, bfP_bit] at h
        obtain ⟨q, hq, ha, hb⟩ := h
        have := hp2 q hq
        rw [decide_eq_true_eq] at this
        exact .inr ⟨q, hq, by omega, by omega⟩
  have h := prod_cnt (bf := bfP (ps ++ qs.map (shp n1))) (bfP_lt h1) e1 e2 _ (2 ^ n1 - 1) (2 ^ n2 - 1) rfl (by omega) (by omega)
  rw [crd_all, crd_all] at h
  have ea : two2 n1 (2 ^ n1 - 1) (2 ^ n2 - 1) = 2 ^ (n1 + n2) - 1 := Nat.eq_of_testBit_eq fun i => by
    rw [two2_tb (by omega), all_tb, all_tb, all_tb]
    by_cases c : i < n1
    · rw [if_pos c]; simp [c]; omega
    · rw [if_neg c]
      by_cases c2 : i - n1 < n2
      · have : i < n1 + n2 := by omega
        simp [c2, this]
      · have : ¬ i < n1 + n2 := by omega
        simp [c2, this]
  rw [ea] at h
  exact h
theorem block_ord {n1 n2 : Nat} {ps qs : List (Int × Int)} (h1 : okP n1 ps = true) (h2 : okP n2 qs = true) (o1 : HasO (bfP ps) n1 (2 ^ n1 - 1)) (o2 : HasO (bfP qs) n2 (2 ^ n2 - 1)) : HasO (bfP (ps ++ qs.map (shp n1))) (n1 + n2) (2 ^ (n1 + n2) - 1) := by
  have hpos := Nat.two_pow_pos (n1 + n2)
  have hpos1 := Nat.two_pow_pos n1
  have hpos2 := Nat.two_pow_pos n2
  refine (cnt_ne (by omega)).1 ?_
  have h := block_law h1 h2
  have g1 : nOrd ps n1 ≠ 0 := (cnt_ne (by omega)).2 o1
  have g2 : nOrd qs n2 ≠ 0 := (cnt_ne (by omega)).2 o2
  have g3 : ∀ a b, shf a b ≠ 0 := by
    intro a
    induction a with
    | zero => intro b; show 1 ≠ 0; decide
    | succ a ih =>
      intro b
      cases b with
      | zero => show 1 ≠ 0; decide
      | succ b =>
        have := ih (b + 1)
        show shf a (b + 1) + shf (a + 1) b ≠ 0
        omega
  show nOrd _ _ ≠ 0
  rw [h]
  exact Nat.mul_ne_zero (Nat.mul_ne_zero g1 g2) (g3 _ _)
end
end Go.Proofs.YthiodndhokooiaaGreatDoor.Ev

