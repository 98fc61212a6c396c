/- Multiplied and moved sets: what stays the same. Mathematics alone. -/
import Derived.Test.YtoeblkenmjbfiaaDoorPmQ3
set_option linter.unusedVariables false
set_option linter.unusedSimpArgs false
namespace Go.Proofs.YtoeblkenmjbfiaaDoor.Ev

theorem inv_tab : ∀ V : Fin 32, ∀ t : Fin 32, 2 ≤ V.val → t.val < V.val → Nat.gcd t.val V.val = 1 → ∃ r : Fin 32, r.val < V.val ∧ Nat.gcd r.val V.val = 1 ∧ (t.val * r.val) % V.val = 1 := by decide +kernel
theorem inv_ex {V t : Nat} (hV : 2 ≤ V) (hV2 : V ≤ 31) (ht : t < V) (hg : Nat.gcd t V = 1) : ∃ r : Nat, r < V ∧ Nat.gcd r V = 1 ∧ (t * r) % V = 1 := by
  obtain ⟨r, h1, h2, h3⟩ := inv_tab ⟨V, by omega⟩ ⟨t, by omega⟩ hV ht hg
  exact ⟨r.val, h1, h2, h3⟩
theorem cg_back {V t r : Nat} {s : Int} {l : List Int} (hin : InV V l) (hl : l.Pairwise (· ≤ ·)) (hr : (t * r) % V = 1) : cg V r (-(s * r)) (cg V t s l) = l := by
  rw [cg_cg, show s * (r : Int) + -(s * r) = 0 by omega, ← cg_modt]
  have e : (t : Int) * (r : Int) % (V : Int) = 1 := by
    have : (t : Int) * (r : Int) % (V : Int) = (((t * r) % V : Nat) : Int) := by simp
    rw [this, hr]; rfl
  rw [e, cg_one hin hl]
theorem gcd_mul_mod {V t u : Nat} (ht : Nat.gcd t V = 1) (hu : Nat.gcd u V = 1) : Nat.gcd ((t * u) % V) V = 1 := by
  rw [← Nat.gcd_rec, Nat.gcd_comm]
  exact Nat.Coprime.mul_left ht hu
theorem mulc {V : Nat} {r b u : Int} {l : List Int} (h : 0 < V) (hs : ∃ s : Nat, s < V ∧ cg V u s l = l) : lst V u (cg V r b l) (V - 1) = lst V 1 (cg V r b l) (V - 1) := by
  obtain ⟨s, _, hs⟩ := hs
  rw [lst_cg h, lst_cg h, Int.mul_one, Int.mul_comm r u]
  have := lst_cg (t := r) (t' := u) (s := s) (l := l) h
  rw [hs] at this
  exact this.symm
theorem mP_cg {V t : Nat} {s : Int} {l : List Int} {us : List Nat} (hV : 2 ≤ V) (hV2 : V ≤ 31) (ht : t < V) (hg : Nat.gcd t V = 1) (hin : InV V l) (hl : l.Pairwise (· ≤ ·)) : mP V (cg V t s l) us = mP V l us := by
  unfold mP
  refine List.filter_congr fun u _ => ?_
  rw [Bool.eq_iff_iff]
  simp only [beq_iff_eq]
  constructor
  · intro h
    obtain ⟨r, h1, h2, h3⟩ := inv_ex hV hV2 ht hg
    have e := cg_back (s := s) hin hl h3
    have := mulc (r := r) (b := -(s * r)) (u := u) (l := cg V t s l) (by omega) ((mul_iff (by omega) (cg_in (by omega)) cg_le).1 h)
    rw [e] at this
    exact this
  · intro h
    exact mulc (by omega) ((mul_iff (by omega) hin hl).1 h)
end Go.Proofs.YtoeblkenmjbfiaaDoor.Ev

