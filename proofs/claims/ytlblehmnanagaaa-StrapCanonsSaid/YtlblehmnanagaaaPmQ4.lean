/- Multiplied and moved sets: what stays the same. Mathematics alone. -/
import Derived.Test.YtlblehmnanagaaaPmQ3
set_option linter.unusedVariables false
set_option linter.unusedSimpArgs false
namespace Go.Proofs.Ytlblehmnanagaaa.Ev

theorem inv_tab : ∀ V : Fin 32, ∀ t : Fin 32, 2 ≤ V.val → t.val < V.val → Nat.gcd t.val V.val = 1 → ∃ r : Fin 32, r.val < V.val ∧ Nat.gcd r.val V.val = 1 ∧ (t.val * r.val) % V.val = 1 := by decide +kernel
theorem inv_ex {V t : Nat} (hV : 2 ≤ V) (hV2 : V ≤ 31) (ht : t < V) (hg : Nat.gcd t V = 1) : ∃ r : Nat, r < V ∧ Nat.gcd r V = 1 ∧ (t * r) % V = 1 := by
  obtain ⟨r, h1, h2, h3⟩ := inv_tab ⟨V, by omega⟩ ⟨t, by omega⟩ hV ht hg
  exact ⟨r.val, h1, h2, h3⟩
theorem cg_back {V t r : Nat} {s : Int} {l : List Int} (hin : InV V l) (hl : l.Pairwise (· ≤ ·)) (hr : (t * r) % V = 1) : cg V r (-(s * r)) (cg V t s l) = l := by
  rw [cg_cg, show s * (r : Int) + -(s * r) = 0 by omega, ← cg_modt]
  have e : (t : Int) * (r : Int) % (V : Int) = 1 := by
    have : (t : Int) * (r : Int) % (V : Int) = (((t * r) % V : Nat) : Int) := by simp
    rw [this, hr]; rfl
  rw [e, cg_one hin hl]
theorem gcd_mul_mod {V t u : Nat} (ht : Nat.gcd t V = 1) (hu : Nat.gcd u V = 1) : Nat.gcd ((t * u) % V) V = 1 := by
  rw [← Nat.gcd_rec, Nat.gcd_comm]
  exact Nat.Coprime.mul_left ht hu
theorem orb_of {V w : Nat} {a : Int} {l : List Int} (hV : 0 < V) (hg : Nat.gcd (w % V) V = 1) : Orb V l (cg V w a l) := by
  have h1 := Int.emod_nonneg a (show (V : Int) ≠ 0 by omega)
  have h2 := Int.emod_lt_of_pos a (show (0 : Int) < V by omega)
  refine ⟨w % V, (a % V).toNat, Nat.mod_lt _ hV, hg, by omega, ?_⟩
  rw [Int.toNat_of_nonneg h1, cg_mod]
  have : (((w % V : Nat)) : Int) = (w : Int) % (V : Int) := by simp
  rw [this, cg_modt]
theorem orb_cg {V t : Nat} {s : Int} {l z : List Int} (hV : 0 < V) (hg : Nat.gcd t V = 1) (h : Orb V (cg V t s l) z) : Orb V l z := by
  obtain ⟨u, a, h1, h2, h3, rfl⟩ := h
  rw [cg_cg]
  have : (t : Int) * (u : Int) = ((t * u : Nat) : Int) := by simp
  rw [this]
  exact orb_of hV (gcd_mul_mod hg h2)
theorem orb_iff {V t : Nat} {s : Int} {l z : List Int} (hV : 2 ≤ V) (hV2 : V ≤ 31) (ht : t < V) (hg : Nat.gcd t V = 1) (hin : InV V l) (hl : l.Pairwise (· ≤ ·)) : Orb V (cg V t s l) z ↔ Orb V l z := by
  refine ⟨orb_cg (by omega) hg, fun h => ?_⟩
  obtain ⟨r, h1, h2, h3⟩ := inv_ex hV hV2 ht hg
  have e := cg_back (s := s) hin hl h3
  rw [← e] at h
  exact orb_cg (by omega) h2 h
theorem cP_cg {V t : Nat} {s : Int} {l : List Int} (hV : 2 ≤ V) (hV2 : V ≤ 31) (ht : t < V) (hg : Nat.gcd t V = 1) (hin : InV V l) (hl : l.Pairwise (· ≤ ·)) : cP V (cg V t s l) (uL V V) = cP V l (uL V V) := by
  have h1 := cP_mn (l := cg V t s l) hV
  refine Mn.uniq (S := Orb V l) ⟨(orb_iff hV hV2 ht hg hin hl).1 h1.1, fun z hz => h1.2 z ((orb_iff hV hV2 ht hg hin hl).2 hz)⟩ (cP_mn hV)
theorem mulc {V : Nat} {r b u : Int} {l : List Int} (h : 0 < V) (hs : ∃ s : Nat, s < V ∧ cg V u s l = l) : lst V u (cg V r b l) (V - 1) = lst V 1 (cg V r b l) (V - 1) := by
  obtain ⟨s, _, hs⟩ := hs
  rw [lst_cg h, lst_cg h, Int.mul_one, Int.mul_comm r u]
  have := lst_cg (t := r) (t' := u) (s := s) (l := l) h
  rw [hs] at this
  exact this.symm
theorem mP_cg {V t : Nat} {s : Int} {l : List Int} {us : List Nat} (hV : 2 ≤ V) (hV2 : V ≤ 31) (ht : t < V) (hg : Nat.gcd t V = 1) (hin : InV V l) (hl : l.Pairwise (· ≤ ·)) : mP V (cg V t s l) us = mP V l us := by
  unfold mP
  refine List.filter_congr fun u _ => ?_
  rw [Bool.eq_iff_iff]
  simp only [beq_iff_eq]
  constructor
  · intro h
    obtain ⟨r, h1, h2, h3⟩ := inv_ex hV hV2 ht hg
    have e := cg_back (s := s) hin hl h3
    have := mulc (r := r) (b := -(s * r)) (u := u) (l := cg V t s l) (by omega) ((mul_iff (by omega) (cg_in (by omega)) cg_le).1 h)
    rw [e] at this
    exact this
  · intro h
    exact mulc (by omega) ((mul_iff (by omega) hin hl).1 h)
end Go.Proofs.Ytlblehmnanagaaa.Ev

