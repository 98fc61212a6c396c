/- The law's maker of jobs and pairs. -/
import Derived.Test.YthiodndhokooiaaGreatDoorPmmB4
import Derived.Test.YthiodndhokooiaaGreatDoorPmmA8
set_option linter.unusedSimpArgs false
namespace Go.Proofs.YthiodndhokooiaaGreatDoor.Ev
open Go Go.Proofs
noncomputable section

/-- where no pair leads back, all can be ordered -/
theorem min_ex {P : Nat → Prop} (f : Nat → Nat) : ∀ (k j : Nat), f j = k → P j → ∃ i, P i ∧ ∀ q, P q → f i ≤ f q := by
  intro k
  induction k using Nat.strongRecOn with
  | _ k ih =>
    intro j hj hP
    by_cases h : ∃ q, P q ∧ f q < f j
    · obtain ⟨q, hq, hlt⟩ := h
      exact ih (f q) (by omega) q rfl hq
    · exact ⟨j, hP, fun q hq => Classical.byContradiction fun hn => h ⟨q, hq, by omega⟩⟩
theorem reach_all {bf : Nat → Nat} {n : Nat} (h : ∀ S, S < 2 ^ n → S ≠ 2 ^ n - 1 → ∃ j, j ∈ rdy bf n S) : ∀ (k S : Nat), crd n S + k = n → HasO bf n S → HasO bf n (2 ^ n - 1)
  | 0, S, hk, hS => by
    obtain ⟨l, hl⟩ := hS
    have := crd_eq_all (n := n) hl.lt (by omega)
    rw [← this]; exact ⟨l, hl⟩
  | k + 1, S, hk, hS => by
    obtain ⟨l, hl⟩ := id hS
    have hne : S ≠ 2 ^ n - 1 := fun e => by rw [e, crd_all] at hk; omega
    obtain ⟨j, hj⟩ := h S hl.lt hne
    obtain ⟨j1, j2, j3⟩ := mem_rdy.1 hj
    exact reach_all h k (S ||| 2 ^ j) (by rw [crd_or j2 j1]; omega) (hS.add j1 j3)
theorem bfP_bit {ps : List (Int × Int)} {j i : Nat} : (bfP ps j).testBit i = true ↔ ∃ p ∈ ps, p.2 = (j : Int) ∧ p.1.toNat = i := by
  unfold bfP
  rw [bfP_tb]
  simp
theorem pot_ord {ps : List (Int × Int)} {n : Nat} (f : Nat → Nat) (hok : okP n ps = true) (h : ∀ p ∈ ps, f p.1.toNat < f p.2.toNat) : HasO (bfP ps) n (2 ^ n - 1) := by
  refine reach_all (fun S hS hne => ?_) n 0 (by rw [crd_zero]; omega) ⟨[], .nil⟩
  have hex : ∃ j, j < n ∧ S.testBit j = false := Classical.byContradiction fun hn => hne (eq_all hS fun i hi => by
    cases e : S.testBit i with
    | true => rfl
    | false => exact absurd ⟨i, hi, e⟩ hn)
  obtain ⟨j0, hj0⟩ := hex
  obtain ⟨j, ⟨hj1, hj2⟩, hmin⟩ := min_ex (P := fun j => j < n ∧ S.testBit j = false) f _ j0 rfl hj0
  refine ⟨j, mem_rdy.2 ⟨hj1, hj2, an_zero.2 fun i hi => ?_⟩⟩
  obtain ⟨p, hp, h2, h1⟩ := bfP_bit.1 hi
  have hpf := h p hp
  have hpo := List.all_eq_true.1 hok p hp
  rw [decide_eq_true_eq] at hpo
  cases e : S.testBit i with
  | true => rfl
  | false =>
    have := hmin i ⟨by omega, e⟩
    rw [h1] at hpf
    have e2 : p.2.toNat = j := by omega
    rw [e2] at hpf
    omega

/-- bytes by twos -/
def prB (xs : List (Nat × Nat)) : List Value := xs.flatMap fun p => [.int .u8 (p.1 : Nat), .int .u8 (p.2 : Nat)]
def Byt (xs : List (Nat × Nat)) : Prop := ∀ p ∈ xs, p.1 ≤ 255 ∧ p.2 ≤ 255
theorem prB_len {xs : List (Nat × Nat)} : (prB xs).length = xs.length * 2 := by
  induction xs with
  | nil => rfl
  | cons p xs ih => simp only [prB, List.flatMap_cons, List.length_append, List.length_cons, List.length_nil] at ih ⊢; omega
theorem prB_get : ∀ {xs : List (Nat × Nat)} {i : Nat} {p : Nat × Nat}, xs[i]? = some p → (prB xs)[i * 2]? = some (.int .u8 (p.1 : Nat)) ∧ (prB xs)[i * 2 + 1]? = some (.int .u8 (p.2 : Nat))
  | q :: xs, 0, p, h => by simp at h; subst h; simp [prB]
  | q :: xs, i + 1, p, h => by
    have h' : xs[i]? = some p := by simpa using h
    have := prB_get h'
    rw [show (i + 1) * 2 = i * 2 + 1 + 1 by omega]
    simpa [prB] using this
theorem prB_take {xs : List (Nat × Nat)} {m : Nat} : (prB xs).take (m * 2) = prB (xs.take m) := by
  induction xs generalizing m with
  | nil => simp [prB]
  | cons p xs ih =>
    cases m with
    | zero => simp [prB]
    | succ m =>
      have := ih (m := m)
      simp only [prB, List.flatMap_cons, List.take_succ_cons] at this ⊢
      rw [← this, show (m + 1) * 2 = m * 2 + 1 + 1 by omega]
      rfl
theorem prB_one {xs : List (Nat × Nat)} : (prB xs).all oneB = true := by
  rw [List.all_eq_true]
  intro v hv
  simp only [prB, List.mem_flatMap] at hv
  obtain ⟨p, _, hp⟩ := hv
  rcases List.mem_cons.1 hp with rfl | hp
  · rfl
  · rw [List.mem_singleton.1 hp]; rfl
theorem prB_app {xs ys : List (Nat × Nat)} : prB (xs ++ ys) = prB xs ++ prB ys := by simp [prB]
theorem SlV.prB_at {B : Tr Blk} {lo hi n c b off : Nat} {xs : List (Nat × Nat)} (s : SlV B lo hi 2 n (prB xs) (.slice (some ⟨b, off, none⟩) n c)) {i : Nat} {p : Nat × Nat} (hp : xs[i]? = some p) : loadv B b (off + i * 2) = some (.int .u8 (p.1 : Nat)) ∧ loadv B b (off + i * 2 + 1) = some (.int .u8 (p.2 : Nat)) := by
  have hn : xs.length = n := by have := s.len; rw [prB_len] at this; omega
  have hi : i < xs.length := (List.getElem?_eq_some_iff.1 hp).1
  obtain ⟨b', off', e, _, _, hld⟩ := s.at_ (by omega)
  injection e with e
  injection e with e1 e2
  subst e1; subst e2
  have := prB_get hp
  exact ⟨by rw [hld _ (by omega)]; exact this.1, by rw [Nat.add_assoc, hld _ (by omega)]; exact this.2⟩

def jobOf (least : Nat) (p : Nat × Nat) : Int × Int := (((p.1 % 50 + 1 : Nat) : Int), ((p.2 % (51 - least) + least : Nat) : Int))
/-- the maker's jobs -/
def mkJ (least : Nat) (xs : List (Nat × Nat)) : List (Int × Int) := if xs = [] then [(1, 1)] else xs.map (jobOf least)
def prOf (n : Nat) (p : Nat × Nat) : List (Int × Int) := if p.1 % n = p.2 % n then [] else if 7 * (p.1 % n) % 11 < 7 * (p.2 % n) % 11 then [(((p.1 % n : Nat) : Int), ((p.2 % n : Nat) : Int))] else [(((p.2 % n : Nat) : Int), ((p.1 % n : Nat) : Int))]
def mkP (n : Nat) (ys : List (Nat × Nat)) : List (Int × Int) := ys.flatMap (prOf n)
theorem mkJ_in {least : Nat} {xs : List (Nat × Nat)} (hl : least ≤ 1) : inJ (mkJ least xs) = true := by
  unfold mkJ
  by_cases e : xs = []
  · rw [if_pos e]; rfl
  · rw [if_neg e]
    unfold inJ
    rw [List.all_eq_true]
    intro q hq
    obtain ⟨p, _, rfl⟩ := List.mem_map.1 hq
    unfold jobOf
    have h1 := Nat.mod_lt p.1 (show 0 < 50 by omega)
    have h2 := Nat.mod_lt p.2 (show 0 < 51 - least by omega)
    rw [decide_eq_true_eq]
    simp only
    omega
theorem mkJ_len {least : Nat} {xs : List (Nat × Nat)} : (mkJ least xs).length = if xs = [] then 1 else xs.length := by
  unfold mkJ
  by_cases e : xs = [] <;> simp [e]
theorem prOf_ok {n : Nat} {p : Nat × Nat} {q : Int × Int} (hn : 1 ≤ n) (hn2 : n ≤ 10) (hq : q ∈ prOf n p) : (0 ≤ q.1 ∧ q.1 < n ∧ 0 ≤ q.2 ∧ q.2 < n) ∧ 7 * q.1.toNat % 11 < 7 * q.2.toNat % 11 := by
  have h1 := Nat.mod_lt p.1 (show 0 < n by omega)
  have h2 := Nat.mod_lt p.2 (show 0 < n by omega)
  unfold prOf at hq
  generalize p.1 % n = a at hq h1
  generalize p.2 % n = b at hq h2
  by_cases e : a = b
  · rw [if_pos e] at hq; cases hq
  · rw [if_neg e] at hq
    by_cases c : 7 * a % 11 < 7 * b % 11
    · rw [if_pos c] at hq
      rw [List.mem_singleton.1 hq]
      simp only [Int.toNat_natCast]
      omega
    · rw [if_neg c] at hq
      rw [List.mem_singleton.1 hq]
      simp only [Int.toNat_natCast]
      refine ⟨by omega, ?_⟩
      have : ∀ a b : Fin 10, a ≠ b → 7 * a.val % 11 ≠ 7 * b.val % 11 := by decide
      have := this ⟨a, by omega⟩ ⟨b, by omega⟩ (fun h => e (by injection h))
      simp only at this
      omega
theorem mkP_ok {n : Nat} {ys : List (Nat × Nat)} (hn : 1 ≤ n) (hn2 : n ≤ 10) : okP n (mkP n ys) = true := by
  unfold okP
  rw [List.all_eq_true]
  intro q hq
  obtain ⟨p, _, h⟩ := List.mem_flatMap.1 hq
  rw [decide_eq_true_eq]
  exact (prOf_ok hn hn2 h).1
theorem mkP_ord {n : Nat} {ys : List (Nat × Nat)} (hn : 1 ≤ n) (hn2 : n ≤ 10) : HasO (bfP (mkP n ys)) n (2 ^ n - 1) :=
  pot_ord (fun a => 7 * a % 11) (mkP_ok hn hn2) fun q hq => by
    obtain ⟨p, _, h⟩ := List.mem_flatMap.1 hq
    exact (prOf_ok hn hn2 h).2
theorem prOf_len {n : Nat} {p : Nat × Nat} : (prOf n p).length ≤ 1 := by
  unfold prOf
  split
  · simp
  · split <;> simp
theorem mkP_len {n : Nat} : ∀ {ys : List (Nat × Nat)}, (mkP n ys).length ≤ ys.length
  | [] => Nat.le_refl _
  | p :: ys => by
    have h1 := prOf_len (n := n) (p := p)
    have h2 := mkP_len (n := n) (ys := ys)
    unfold mkP at h2 ⊢
    rw [List.flatMap_cons, List.length_append, List.length_cons]
    omega
theorem mk_ok {least : Nat} {xs ys : List (Nat × Nat)} (hl : least ≤ 1) (hx : xs.length ≤ 10) (hy : ys.length ≤ 40) : PlanOk (mkJ least xs) (mkP (mkJ least xs).length ys) := by
  have h1 : 1 ≤ (mkJ least xs).length := by
    rw [mkJ_len]; split
    · omega
    · rename_i h
      cases xs with
      | nil => exact absurd rfl h
      | cons _ _ => simp
  have h2 : (mkJ least xs).length ≤ 10 := by rw [mkJ_len]; split <;> omega
  exact ⟨h1, h2, Nat.le_trans mkP_len hy, mkJ_in hl, mkP_ok h1 h2, mkP_ord h1 h2⟩
end
end Go.Proofs.YthiodndhokooiaaGreatDoor.Ev

