/- Sums. Mathematics alone. -/
import Derived.Test.YtngpoamjhngcgaaGreatDoorPmdQ1
namespace Go.Proofs.YtngpoamjhngcgaaGreatDoor.Ev

/-- a sum -/
def sm : Nat → (Nat → Int) → Int
  | 0, _ => 0
  | n + 1, f => sm n f + f n
/-- what one owes, minus what it is owed -/
def bl (n : Nat) (f : Nat → Nat → Int) (k : Nat) : Int := sm n (f k) - sm n (fun i => f i k)
theorem sm_congr {f g : Nat → Int} : ∀ n, (∀ i, i < n → f i = g i) → sm n f = sm n g
  | 0, _ => rfl
  | n + 1, h => by rw [sm, sm, sm_congr n fun i hi => h i (by omega), h n (by omega)]
theorem sm_add {f g : Nat → Int} : ∀ n, sm n (fun i => f i + g i) = sm n f + sm n g
  | 0 => rfl
  | n + 1 => by rw [sm, sm, sm, sm_add n]; omega
theorem sm_sub {f g : Nat → Int} : ∀ n, sm n (fun i => f i - g i) = sm n f - sm n g
  | 0 => rfl
  | n + 1 => by rw [sm, sm, sm, sm_sub n]; omega
theorem sm_zero : ∀ n, sm n (fun _ => 0) = 0
  | 0 => rfl
  | n + 1 => by rw [sm, sm_zero n]; rfl
theorem sm_upd {f : Nat → Int} {j : Nat} {v : Int} : ∀ n, sm n (upf f j v) = sm n f + if j < n then v - f j else 0
  | 0 => rfl
  | n + 1 => by
    rw [sm, sm, sm_upd n]
    by_cases hj : j = n
    · subst hj; rw [upf_same, if_neg (Nat.lt_irrefl _), if_pos (Nat.lt_succ_self _)]; omega
    · rw [upf_other (fun g => hj g.symm)]
      by_cases h1 : j < n
      · rw [if_pos h1, if_pos (by omega)]; omega
      · rw [if_neg h1, if_neg (by omega)]; omega
theorem sm_le {f g : Nat → Int} : ∀ n, (∀ i, i < n → f i ≤ g i) → sm n f ≤ sm n g
  | 0, _ => Int.le_refl _
  | n + 1, h => by
    have h1 := sm_le n fun i hi => h i (by omega)
    have h2 := h n (by omega)
    rw [sm, sm]; omega
theorem sm_nonneg {f : Nat → Int} (n : Nat) (h : ∀ i, i < n → 0 ≤ f i) : 0 ≤ sm n f := by
  have := sm_le (f := fun _ => 0) (g := f) n h
  rw [sm_zero] at this
  exact this
/-- none below 0, and nothing in all: all are nothing -/
theorem sm_none {f : Nat → Int} : ∀ n, (∀ i, i < n → 0 ≤ f i) → sm n f ≤ 0 → ∀ i, i < n → f i = 0
  | 0, _, _, i, hi => by omega
  | n + 1, h, h0, i, hi => by
    have h1 := sm_nonneg n fun i hi => h i (by omega)
    have h2 := h n (by omega)
    rw [sm] at h0
    by_cases hin : i = n
    · subst hin; omega
    · exact sm_none n (fun i hi => h i (by omega)) (by omega) i (by omega)
theorem sm_swap {m : Nat} {f : Nat → Nat → Int} : ∀ n, sm n (fun i => sm m (f i)) = sm m fun j => sm n fun i => f i j
  | 0 => (sm_zero m).symm
  | n + 1 => by
    rw [sm, sm_swap n, ← sm_add]
    rfl
theorem sm_mul {f : Nat → Int} {c : Int} : ∀ n, sm n (fun i => c * f i) = c * sm n f
  | 0 => by rw [sm, sm, Int.mul_zero]
  | n + 1 => by rw [sm, sm, sm_mul n, Int.mul_add]
/-- all balances together are nothing -/
theorem bl_sum {n : Nat} {f : Nat → Nat → Int} : sm n (bl n f) = 0 := by
  have : sm n (bl n f) = sm n (fun k => sm n (f k)) - sm n fun k => sm n fun i => f i k := sm_sub n
  rw [this, sm_swap]
  omega
/-- a matrix with one number put in -/
def upf2 (r : Nat → Nat → Int) (i j : Nat) (v : Int) : Nat → Nat → Int := fun a b => if a = i ∧ b = j then v else r a b
theorem upf2_same {r : Nat → Nat → Int} {i j : Nat} {v : Int} : upf2 r i j v i j = v := if_pos ⟨rfl, rfl⟩
theorem upf2_other {r : Nat → Nat → Int} {i j a b : Nat} {v : Int} (h : ¬ (a = i ∧ b = j)) : upf2 r i j v a b = r a b := if_neg h
theorem bl_upd2 {n i j k : Nat} {r : Nat → Nat → Int} {v : Int} (hi : i < n) (hj : j < n) : bl n (upf2 r i j v) k = bl n r k + (if k = i then v - r i j else 0) - if k = j then v - r i j else 0 := by
  have h1 : sm n (upf2 r i j v k) = sm n (r k) + if k = i then v - r i j else 0 := by
    by_cases hk : k = i
    · subst hk
      have : upf2 r k j v k = upf (r k) j v := by
        funext b
        unfold upf2 upf
        simp
      rw [this, sm_upd, if_pos hj, if_pos rfl]
    · rw [if_neg hk, Int.add_zero]
      exact sm_congr n fun b _ => upf2_other fun g => hk g.1
  have h2 : sm n (fun a => upf2 r i j v a k) = sm n (fun a => r a k) + if k = j then v - r i j else 0 := by
    by_cases hk : k = j
    · subst hk
      have : (fun a => upf2 r i k v a k) = upf (fun a => r a k) i v := by
        funext a
        unfold upf2 upf
        simp
      rw [this, sm_upd, if_pos hi, if_pos rfl]
    · rw [if_neg hk, Int.add_zero]
      exact sm_congr n fun a _ => upf2_other fun g => hk g.2
  unfold bl
  rw [h1, h2]
  omega
end Go.Proofs.YtngpoamjhngcgaaGreatDoor.Ev

