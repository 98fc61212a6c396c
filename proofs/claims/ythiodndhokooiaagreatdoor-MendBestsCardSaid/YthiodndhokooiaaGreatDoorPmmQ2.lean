/- Costs of orders; how many orders there are. Mathematics alone. -/
import Derived.Test.YthiodndhokooiaaGreatDoorPmmQ1
namespace Go.Proofs.YthiodndhokooiaaGreatDoor.Ev

/-- lexicographically less -/
def lexlt : List Nat → List Nat → Bool
  | _, [] => false
  | [], _ :: _ => true
  | a :: l, b :: m => decide (a < b) || (decide (a = b) && lexlt l m)
theorem lexlt_cons {a b : Nat} {l m : List Nat} : lexlt (a :: l) (b :: m) = (decide (a < b) || (decide (a = b) && lexlt l m)) := rfl
theorem lexlt_self : ∀ l : List Nat, lexlt l l = false
  | [] => rfl
  | a :: l => by rw [lexlt_cons, lexlt_self l]; simp
theorem lexlt_asymm : ∀ {l m : List Nat}, lexlt l m = true → lexlt m l = false
  | l, [], h => by cases l <;> cases h
  | [], _ :: _, _ => rfl
  | a :: l, b :: m, h => by
    rw [lexlt_cons] at h ⊢
    simp only [Bool.or_eq_true, Bool.and_eq_true, decide_eq_true_eq] at h
    rcases h with h | ⟨rfl, h⟩
    · have h1 : ¬ b < a := by omega
      have h2 : ¬ b = a := by omega
      simp [h1, h2]
    · have := lexlt_asymm h
      simp [this]
theorem lexle_trans : ∀ {l m k : List Nat}, lexlt m l = false → lexlt k m = false → lexlt k l = false
  | [], _, k, _, _ => by cases k <;> rfl
  | _ :: _, [], _, h, _ => by cases h
  | _ :: _, _ :: _, [], _, h => by cases h
  | a :: l, b :: m, c :: k, h1, h2 => by
    rw [lexlt_cons] at h1 h2 ⊢
    simp only [Bool.or_eq_false_iff, Bool.and_eq_false_iff, decide_eq_false_iff_not] at h1 h2 ⊢
    refine ⟨by omega, ?_⟩
    by_cases e : c = a
    · right
      have e1 : b = a := by omega
      have e2 : c = b := by omega
      exact lexle_trans (h1.2.resolve_left (by simpa using e1)) (h2.2.resolve_left (by simpa using e2))
    · exact .inl e
theorem lexlt_antisymm : ∀ {l m : List Nat}, lexlt l m = false → lexlt m l = false → l = m
  | [], [], _, _ => rfl
  | [], _ :: _, h, _ => by cases h
  | _ :: _, [], _, h => by cases h
  | a :: l, b :: m, h1, h2 => by
    rw [lexlt_cons] at h1 h2
    simp only [Bool.or_eq_false_iff, Bool.and_eq_false_iff, decide_eq_false_iff_not] at h1 h2
    have e : a = b := by omega
    subst e
    rw [lexlt_antisymm (h1.2.resolve_left (by simp)) (h2.2.resolve_left (by simp))]
theorem lexlt_snoc : ∀ {l m : List Nat} (j : Nat), l.length = m.length → lexlt m l = false → lexlt (m ++ [j]) (l ++ [j]) = false
  | [], [], j, _, _ => by simp [lexlt]
  | [], _ :: _, _, h, _ => by simp at h
  | _ :: _, [], _, h, _ => by simp at h
  | a :: l, b :: m, j, hl, h => by
    rw [List.cons_append, List.cons_append, lexlt_cons]
    rw [lexlt_cons] at h
    simp only [Bool.or_eq_false_iff, Bool.and_eq_false_iff, decide_eq_false_iff_not] at h ⊢
    refine ⟨h.1, ?_⟩
    rcases h.2 with h2 | h2
    · exact .inl h2
    · exact .inr (lexlt_snoc j (by simpa using hl) h2)

section
variable (ln wt : Nat → Nat)
/-- when the last one of them ends, and what they cost -/
def ec (l : List Nat) : Nat × Nat := l.foldl (fun s j => (s.1 + ln j, s.2 + wt j * (s.1 + ln j))) (0, 0)
def cst (l : List Nat) : Nat := (ec ln wt l).2
variable {ln wt}
theorem ec_snoc {l : List Nat} {j : Nat} : ec ln wt (l ++ [j]) = ((ec ln wt l).1 + ln j, (ec ln wt l).2 + wt j * ((ec ln wt l).1 + ln j)) := by
  unfold ec
  rw [List.foldl_append]
  rfl
theorem ec_end (l : List Nat) : (ec ln wt l).1 = (l.map ln).sum := by
  have key : ∀ (l : List Nat) (s : Nat × Nat), (l.foldl (fun s j => (s.1 + ln j, s.2 + wt j * (s.1 + ln j))) s).1 = s.1 + (l.map ln).sum := by
    intro l
    induction l with
    | nil => intro s; simp
    | cons a l ih => intro s; rw [List.foldl_cons, ih]; simp; omega
  rw [ec, key]; simp
theorem cst_snoc {l : List Nat} {j : Nat} : cst ln wt (l ++ [j]) = cst ln wt l + wt j * ((l.map ln).sum + ln j) := by
  unfold cst
  rw [ec_snoc, ec_end]
/-- cheaper, or as cheap and lexicographically not greater -/
def cle (ln wt : Nat → Nat) (a b : List Nat) : Prop := cst ln wt a < cst ln wt b ∨ (cst ln wt a = cst ln wt b ∧ lexlt b a = false)
theorem perm_sum {f : Nat → Nat} {l m : List Nat} (h : l.Perm m) : (l.map f).sum = (m.map f).sum := by
  induction h with
  | nil => rfl
  | cons _ _ ih => simp [ih]
  | swap a b l => simp; omega
  | trans _ _ i1 i2 => exact i1.trans i2
theorem cle_best : Best (cle ln wt) where
  refl a := .inr ⟨rfl, lexlt_self a⟩
  trans a b c h1 h2 := by
    rcases h1 with h1 | ⟨h1, h1'⟩ <;> rcases h2 with h2 | ⟨h2, h2'⟩
    · exact .inl (by omega)
    · exact .inl (by omega)
    · exact .inl (by omega)
    · exact .inr ⟨by omega, lexle_trans h1' h2'⟩
  total a b := by
    by_cases h : cst ln wt a < cst ln wt b
    · exact .inl (.inl h)
    · by_cases h' : cst ln wt b < cst ln wt a
      · exact .inr (.inl h')
      · cases e : lexlt b a
        · exact .inl (.inr ⟨by omega, e⟩)
        · exact .inr (.inr ⟨by omega, lexlt_asymm e⟩)
  snoc a b j hp h := by
    unfold cle
    rw [cst_snoc, cst_snoc, perm_sum hp]
    rcases h with h | ⟨h, h'⟩
    · exact .inl (by omega)
    · exact .inr ⟨by omega, lexlt_snoc j hp.length_eq h'⟩
theorem cle_antisymm {a b : List Nat} (h1 : cle ln wt a b) (h2 : cle ln wt b a) : a = b := by
  rcases h1 with h1 | ⟨h1, h1'⟩ <;> rcases h2 with h2 | ⟨h2, h2'⟩
  · omega
  · omega
  · omega
  · exact (lexlt_antisymm h1' h2').symm
/-- the better one of two -/
def btr (ln wt : Nat → Nat) (a b : List Nat) : List Nat := if cst ln wt a < cst ln wt b ∨ (cst ln wt a = cst ln wt b ∧ lexlt a b = true) then a else b
theorem btr_or (a b : List Nat) : (btr ln wt a b = a ∧ cle ln wt a b) ∨ (btr ln wt a b = b ∧ cle ln wt b a) := by
  unfold btr
  by_cases h : cst ln wt a < cst ln wt b ∨ (cst ln wt a = cst ln wt b ∧ lexlt a b = true)
  · rw [if_pos h]
    refine .inl ⟨rfl, ?_⟩
    rcases h with h | ⟨h, h'⟩
    · exact .inl h
    · exact .inr ⟨h, lexlt_asymm h'⟩
  · rw [if_neg h]
    refine .inr ⟨rfl, ?_⟩
    rcases Nat.lt_trichotomy (cst ln wt b) (cst ln wt a) with h1 | h1 | h1
    · exact .inl h1
    · refine .inr ⟨h1, ?_⟩
      cases e : lexlt a b with
      | false => rfl
      | true => exact absurd (.inr ⟨h1.symm, e⟩) h
    · exact absurd (.inl h1) h
end

/-- sums -/
def sumR (N : Nat) (g : Nat → Nat) : Nat := ((List.range N).map g).sum
theorem sumR_zero {g : Nat → Nat} : sumR 0 g = 0 := rfl
theorem sumR_succ {N : Nat} {g : Nat → Nat} : sumR (N + 1) g = sumR N g + g N := by simp [sumR, List.range_succ]
theorem sumR_congr {g g' : Nat → Nat} : ∀ {N : Nat}, (∀ x, x < N → g x = g' x) → sumR N g = sumR N g'
  | 0, _ => rfl
  | N + 1, h => by rw [sumR_succ, sumR_succ, sumR_congr fun x hx => h x (by omega), h N (by omega)]
theorem sumR_add {g g' : Nat → Nat} : ∀ {N : Nat}, sumR N (fun x => g x + g' x) = sumR N g + sumR N g'
  | 0 => rfl
  | N + 1 => by rw [sumR_succ, sumR_succ, sumR_succ, sumR_add]; omega
theorem sumR_none {g : Nat → Nat} : ∀ {N : Nat}, (∀ x, x < N → g x = 0) → sumR N g = 0
  | 0, _ => rfl
  | N + 1, h => by rw [sumR_succ, sumR_none fun x hx => h x (by omega), h N (by omega)]
theorem sumR_at {g : Nat → Nat} {k : Nat} : ∀ {N : Nat}, k < N → (∀ x, x < N → x ≠ k → g x = 0) → sumR N g = g k
  | 0, h, _ => by omega
  | N + 1, h, h0 => by
    rw [sumR_succ]
    by_cases e : k = N
    · subst e
      rw [sumR_none fun x hx => h0 x (by omega) (by omega)]
      omega
    · rw [sumR_at (by omega) fun x hx hne => h0 x (by omega) hne, h0 N (by omega) (by omega)]
      omega
theorem sumR_upd {g : Nat → Nat} {k v : Nat} : ∀ {N : Nat}, k < N → sumR N (fun x => if x = k then v else g x) + g k = sumR N g + v
  | 0, h => by omega
  | N + 1, h => by
    rw [sumR_succ, sumR_succ]
    by_cases e : N = k
    · subst e
      rw [if_pos rfl, sumR_congr (g' := g) fun x hx => if_neg (by omega)]
      omega
    · rw [if_neg e]
      have := sumR_upd (g := g) (k := k) (v := v) (N := N) (by omega)
      omega

section
variable (bf : Nat → Nat) (n : Nat)
/-- in how many ways so many jobs can follow -/
def fwd : Nat → Nat → Nat
  | 0, _ => 1
  | k + 1, S => ((rdy bf n S).map fun j => fwd k (S ||| 2 ^ j)).sum
/-- how many jobs are in a set -/
def crd (S : Nat) : Nat := (List.range n).countP fun i => S.testBit i
variable {bf n}
theorem crd_zero : crd n 0 = 0 := by
  unfold crd
  rw [List.countP_eq_zero]
  intro a _
  simp
theorem crd_le {S : Nat} : crd n S ≤ n := by
  have := List.countP_le_length (p := fun i => S.testBit i) (l := List.range n)
  rw [List.length_range] at this
  exact this
theorem crd_step {S : Nat} : crd (n + 1) S = crd n S + if S.testBit n then 1 else 0 := by
  unfold crd
  rw [List.range_succ, List.countP_append]
  simp [List.countP_cons]
theorem crd_congr {S P : Nat} : ∀ {n : Nat}, (∀ i, i < n → S.testBit i = P.testBit i) → crd n S = crd n P
  | 0, _ => rfl
  | n + 1, h => by rw [crd_step, crd_step, crd_congr fun i hi => h i (by omega), h n (by omega)]
theorem crd_or {S j : Nat} (hj : S.testBit j = false) : ∀ {n : Nat}, j < n → crd n (S ||| 2 ^ j) = crd n S + 1
  | 0, h => by omega
  | n + 1, h => by
    rw [crd_step, crd_step, or_tb]
    by_cases e : j = n
    · subst e
      rw [hj, crd_congr (P := S) fun i hi => by rw [or_tb]; simp; omega]
      simp
    · rw [crd_or hj (by omega)]
      simp [e]; omega
theorem crd_full : ∀ {n S : Nat}, crd n S = n → ∀ i, i < n → S.testBit i = true
  | 0, _, _, _, h => by omega
  | n + 1, S, h, i, hi => by
    rw [crd_step] at h
    have := crd_le (n := n) (S := S)
    cases e : S.testBit n with
    | false => rw [e] at h; simp at h; omega
    | true =>
      rw [e] at h
      simp at h
      by_cases e2 : i = n
      · subst e2; exact e
      · exact crd_full h i (by omega)
theorem all_tb {n i : Nat} : (2 ^ n - 1).testBit i = decide (i < n) := Nat.testBit_two_pow_sub_one n i
theorem eq_all {S : Nat} (hS : S < 2 ^ n) (h : ∀ i, i < n → S.testBit i = true) : S = 2 ^ n - 1 := by
  refine Nat.eq_of_testBit_eq fun i => ?_
  rw [all_tb]
  by_cases hi : i < n
  · rw [h i hi]; simp [hi]
  · rw [Nat.testBit_lt_two_pow (Nat.lt_of_lt_of_le hS (Nat.pow_le_pow_right (by omega) (by omega)))]
    simp [hi]
theorem crd_all : ∀ {n : Nat}, crd n (2 ^ n - 1) = n := by
  intro n
  unfold crd
  have : (List.range n).countP (fun i => (2 ^ n - 1).testBit i) = (List.range n).length := by
    rw [List.countP_eq_length]
    intro a ha
    rw [all_tb]
    simpa using ha
  rw [this, List.length_range]
theorem crd_lt {S : Nat} (h : S < 2 ^ n - 1) : crd n S < n := by
  refine Nat.lt_of_le_of_ne crd_le fun e => ?_
  have := eq_all (n := n) (by omega) (crd_full e)
  omega

/-- sums -/
abbrev cg (bf : Nat → Nat) (n : Nat) : Nat → Nat → Option Nat := gath (fun c _ => c) (fun a b => a + b) n bf 1
def Fw (bf : Nat → Nat) (n S : Nat) : Nat := fwd bf n (n - crd n S) S
theorem Fw_step {d : Nat} (hd : d < 2 ^ n - 1) : Fw bf n d = ((rdy bf n d).map fun j => Fw bf n (d ||| 2 ^ j)).sum := by
  have h := crd_lt hd
  unfold Fw
  obtain ⟨k, hk⟩ : ∃ k, n - crd n d = k + 1 := ⟨n - crd n d - 1, by omega⟩
  rw [hk]
  show ((rdy bf n d).map fun j => fwd bf n k (d ||| 2 ^ j)).sum = _
  congr 1
  refine List.map_congr_left fun j hj => ?_
  have := mem_rdy.1 hj
  rw [crd_or this.2.1 this.1]
  congr 1
  omega
theorem fold_sum {here d N : Nat} {F : Nat → Nat} : ∀ (L : List Nat) (f : Nat → Option Nat), (∀ j ∈ L, d ||| 2 ^ j < N) →
    sumR N (fun S => (L.foldl (one (fun c _ => c) (fun a b => a + b) here d) f S).getD 0 * F S) = sumR N (fun S => (f S).getD 0 * F S) + here * (L.map fun j => F (d ||| 2 ^ j)).sum
  | [], f, _ => by simp
  | k :: L, f, h => by
    rw [List.foldl_cons, fold_sum L _ fun j hj => h j (List.mem_cons_of_mem _ hj)]
    have hk := h k List.mem_cons_self
    have e : sumR N (fun S => (one (fun c _ => c) (fun a b => a + b) here d f k S).getD 0 * F S) = sumR N (fun S => (f S).getD 0 * F S) + here * F (d ||| 2 ^ k) := by
      have h1 := sumR_upd (g := fun S => (f S).getD 0 * F S) (k := d ||| 2 ^ k) (v := (comb (fun a b => a + b) (f (d ||| 2 ^ k)) here) * F (d ||| 2 ^ k)) hk
      have h2 : sumR N (fun S => (one (fun c _ => c) (fun a b => a + b) here d f k S).getD 0 * F S) = sumR N (fun x => if x = d ||| 2 ^ k then (comb (fun a b => a + b) (f (d ||| 2 ^ k)) here) * F (d ||| 2 ^ k) else (f x).getD 0 * F x) := by
        refine sumR_congr fun x _ => ?_
        unfold one gup
        split
        · rename_i e; subst e; rfl
        · rfl
      have h3 : (comb (fun a b => a + b) (f (d ||| 2 ^ k)) here) = (f (d ||| 2 ^ k)).getD 0 + here := by
        cases f (d ||| 2 ^ k) <;> simp [comb]
      rw [h3, Nat.add_mul] at h1
      rw [h2, h3, Nat.add_mul]
      omega
    rw [e, List.map_cons, List.sum_cons, Nat.mul_add]
    omega
theorem pot_step {d : Nat} (hd : d < 2 ^ n - 1) : sumR (2 ^ n) (fun S => (cg bf n (d + 1) S).getD 0 * Fw bf n S) = sumR (2 ^ n) (fun S => (cg bf n d S).getD 0 * Fw bf n S) := by
  show sumR (2 ^ n) (fun S => (proc (fun c _ => c) (fun a b => a + b) n bf (cg bf n d) d S).getD 0 * Fw bf n S) = _
  unfold proc
  cases e : cg bf n d d with
  | none => rfl
  | some here =>
    simp only
    have h1 := fold_sum (here := here) (d := d) (N := 2 ^ n) (F := Fw bf n) (rdy bf n d) (cg bf n d) fun j hj => or_lt (by omega) (mem_rdy.1 hj).1
    rw [← Fw_step hd] at h1
    have h2 := sumR_upd (g := fun S => ((rdy bf n d).foldl (one (fun c _ => c) (fun a b => a + b) here d) (cg bf n d) S).getD 0 * Fw bf n S) (k := d) (v := 0) (N := 2 ^ n) (by omega)
    rw [fold_miss _ _ fun k hk he => absurd he.symm (or_ne (mem_rdy.1 hk).2.1), e] at h2
    have h3 : sumR (2 ^ n) (fun S => (gup ((rdy bf n d).foldl (one (fun c _ => c) (fun a b => a + b) here d) (cg bf n d)) d none S).getD 0 * Fw bf n S) = sumR (2 ^ n) (fun x => if x = d then 0 else ((rdy bf n d).foldl (one (fun c _ => c) (fun a b => a + b) here d) (cg bf n d) x).getD 0 * Fw bf n x) := by
      refine sumR_congr fun x _ => ?_
      unfold gup
      split
      · simp
      · rfl
    rw [h3]
    simp only [Option.getD_some] at h2
    omega
theorem pot {d : Nat} (hd : d ≤ 2 ^ n - 1) : sumR (2 ^ n) (fun S => (cg bf n d S).getD 0 * Fw bf n S) = Fw bf n 0 := by
  induction d with
  | zero =>
    have hpos := Nat.two_pow_pos n
    rw [sumR_at (k := 0) hpos fun x _ hx => by rw [show cg bf n 0 x = none from by unfold cg; rw [gath_zero, if_neg hx]]; simp]
    show (some 1).getD 0 * _ = _
    simp
  | succ d ih => rw [pot_step (by omega)]; exact ih (by omega)
/-- what is gathered is how many orders there are -/
theorem cg_all : (cg bf n (2 ^ n - 1) (2 ^ n - 1)).getD 0 = fwd bf n n 0 := by
  have h := pot (bf := bf) (n := n) (Nat.le_refl _)
  have hpos := Nat.two_pow_pos n
  rw [sumR_at (k := 2 ^ n - 1) (by omega) fun x hx hne => by rw [show cg bf n (2 ^ n - 1) x = none from gath_lt (by omega)]; simp] at h
  have e : Fw bf n (2 ^ n - 1) = 1 := by unfold Fw; rw [crd_all, Nat.sub_self]; rfl
  have e0 : Fw bf n 0 = fwd bf n n 0 := by unfold Fw; rw [crd_zero, Nat.sub_zero]
  rw [e, e0] at h
  omega

/-- by the last jobs -/
theorem cg_pred : ∀ (d S : Nat), 0 < S → d ≤ S → S < 2 ^ n → (cg bf n d S).getD 0 = sumR n (fun j => if S.testBit j ∧ an (bf j) (an S (2 ^ j)) = 0 ∧ an S (2 ^ j) < d then (cg bf n (an S (2 ^ j)) (an S (2 ^ j))).getD 0 else 0)
  | 0, S, h0, _, _ => by
    rw [sumR_none fun j _ => by simp]
    show (if S = 0 then some 1 else none : Option Nat).getD 0 = 0
    rw [if_neg (by omega)]; rfl
  | d + 1, S, h0, hd, hS => by
    have ih := cg_pred d S h0 (by omega) hS
    by_cases hit : ∃ j, j ∈ rdy bf n d ∧ S = d ||| 2 ^ j
    · obtain ⟨j, hj, rfl⟩ := hit
      obtain ⟨j1, j2, j3⟩ := mem_rdy.1 hj
      have e1 : (cg bf n (d + 1) (d ||| 2 ^ j)).getD 0 = (cg bf n d (d ||| 2 ^ j)).getD 0 + (cg bf n d d).getD 0 := by
        cases hc : cg bf n d d with
        | none => rw [show cg bf n (d + 1) (d ||| 2 ^ j) = cg bf n d (d ||| 2 ^ j) from gath_miss (or_ne j2) (.inl hc)]; simp
        | some h =>
          rw [show cg bf n (d + 1) (d ||| 2 ^ j) = some (comb (fun a b => a + b) (cg bf n d (d ||| 2 ^ j)) h) from gath_hit hc hj]
          cases cg bf n d (d ||| 2 ^ j) <;> simp [comb]
      rw [e1, ih]
      have e2 : (cg bf n d d).getD 0 = sumR n (fun i => if i = j then (cg bf n d d).getD 0 else 0) := by
        rw [sumR_at (k := j) j1 fun x _ hx => by rw [if_neg hx], if_pos rfl]
      rw [e2, ← sumR_add]
      refine sumR_congr fun i hi => ?_
      by_cases e : i = j
      · subst e
        rw [an_or j2, if_neg (by omega), if_pos rfl, if_pos ⟨by rw [or_tb]; simp, j3, by omega⟩]
        omega
      · rw [if_neg e]
        have hne : (d ||| 2 ^ j).testBit i = true → an (d ||| 2 ^ j) (2 ^ i) ≠ d := fun hi' he => by
          have h1 := or_an hi'
          rw [he] at h1
          have h2 : d.testBit i = false := by rw [← he]; exact an_self
          exact e (or_inj h2 h1)
        by_cases c : (d ||| 2 ^ j).testBit i = true ∧ an (bf i) (an (d ||| 2 ^ j) (2 ^ i)) = 0 ∧ an (d ||| 2 ^ j) (2 ^ i) < d
        · rw [if_pos c, if_pos ⟨c.1, c.2.1, by omega⟩]; omega
        · rw [if_neg c, if_neg fun c' => c ⟨c'.1, c'.2.1, by have := hne c'.1; omega⟩]
    · rw [show cg bf n (d + 1) S = cg bf n d S from gath_miss (by omega) (.inr fun j hj he => hit ⟨j, hj, he⟩), ih]
      refine sumR_congr fun i hi => ?_
      have hne : S.testBit i = true → an (bf i) (an S (2 ^ i)) = 0 → an S (2 ^ i) ≠ d := fun hi' h0' he => hit ⟨i, mem_rdy.2 ⟨hi, by rw [← he]; exact an_self, by rw [← he]; exact h0'⟩, by rw [← he]; exact (or_an hi').symm⟩
      by_cases c : S.testBit i = true ∧ an (bf i) (an S (2 ^ i)) = 0 ∧ an S (2 ^ i) < d
      · rw [if_pos c, if_pos ⟨c.1, c.2.1, by omega⟩]
      · rw [if_neg c, if_neg fun c' => c ⟨c'.1, c'.2.1, by have := hne c'.1 c'.2.1; omega⟩]
def cnt (bf : Nat → Nat) (n S : Nat) : Nat := (cg bf n S S).getD 0
theorem cnt_step {S : Nat} (h0 : 0 < S) (hS : S < 2 ^ n) : cnt bf n S = sumR n (fun j => if S.testBit j ∧ an (bf j) (an S (2 ^ j)) = 0 then cnt bf n (an S (2 ^ j)) else 0) := by
  unfold cnt
  rw [cg_pred S S h0 (Nat.le_refl _) hS]
  refine sumR_congr fun j _ => ?_
  by_cases c : S.testBit j = true ∧ an (bf j) (an S (2 ^ j)) = 0
  · rw [if_pos ⟨c.1, c.2, an_lt c.1⟩, if_pos c]
  · rw [if_neg fun c' => c ⟨c'.1, c'.2.1⟩, if_neg c]
theorem cnt_zero : cnt bf n 0 = 1 := rfl
end
end Go.Proofs.YthiodndhokooiaaGreatDoor.Ev

