/- The places that are not in a set, multiplied and moved. Mathematics alone. -/
import Derived.Test.YtoeblkenmjbfiaaDoorPmQ4
set_option linter.unusedVariables false
set_option linter.unusedSimpArgs false
namespace Go.Proofs.YtoeblkenmjbfiaaDoor.Ev

/-- lists that rise are told by what is in them -/
theorem lt_ext {l m : List Int} (hl : l.Pairwise (· < ·)) (hm : m.Pairwise (· < ·)) (h : ∀ x, x ∈ l ↔ x ∈ m) : l = m := by
  have d1 : l.Nodup := hl.imp fun h => by omega
  have d2 : m.Nodup := hm.imp fun h => by omega
  exact le_unique ((List.perm_ext_iff_of_nodup d1 d2).2 h) (hl.imp fun h => by omega) (hm.imp fun h => by omega)
/-- the places that are not in a set -/
def rs (V : Nat) (l : List Int) : List Int := ((List.range V).filter fun q : Nat => decide (¬ (q : Int) ∈ l)).map fun q : Nat => (q : Int)
theorem rs_mem {V : Nat} {l : List Int} {x : Int} : x ∈ rs V l ↔ (0 ≤ x ∧ x < V) ∧ ¬ x ∈ l := by
  unfold rs
  simp only [List.mem_map, List.mem_filter, List.mem_range, decide_eq_true_eq]
  constructor
  · rintro ⟨q, ⟨h1, h2⟩, rfl⟩
    exact ⟨by omega, h2⟩
  · rintro ⟨⟨h1, h2⟩, h3⟩
    exact ⟨x.toNat, ⟨by omega, by rw [Int.toNat_of_nonneg h1]; exact h3⟩, Int.toNat_of_nonneg h1⟩
theorem rs_lt {V : Nat} {l : List Int} : (rs V l).Pairwise (· < ·) := by
  unfold rs
  rw [List.pairwise_map]
  refine List.Pairwise.imp (R := fun a b : Nat => a < b) (fun h => by omega) ?_
  exact List.Pairwise.filter _ List.pairwise_lt_range
theorem rs_in {V : Nat} {l : List Int} : InV V (rs V l) := fun x hx => (rs_mem.1 hx).1
theorem rs_rs {V : Nat} {l : List Int} (hin : InV V l) (hlt : l.Pairwise (· < ·)) : rs V (rs V l) = l := by
  refine lt_ext rs_lt hlt fun x => ?_
  rw [rs_mem]
  constructor
  · rintro ⟨h1, h2⟩
    exact Classical.byContradiction fun h3 => h2 (rs_mem.2 ⟨h1, h3⟩)
  · intro h
    exact ⟨hin x h, fun h2 => (rs_mem.1 h2).2 h⟩
theorem cg_mem {V : Nat} {t s : Int} {l : List Int} {y : Int} : y ∈ cg V t s l ↔ ∃ x, x ∈ l ∧ (x * t + s) % V = y := by
  rw [cg, (srt_perm _).mem_iff, tn, List.mem_map]
theorem tn_inj {V t : Nat} {s x y : Int} (hg : Nat.gcd t V = 1) (h1 : 0 ≤ x ∧ x < V) (h2 : 0 ≤ y ∧ y < V) (he : (x * t + s) % V = (y * t + s) % V) : x = y := by
  have h3 : (V : Int) ∣ (x - y) * t := by
    have h4 := Int.emod_eq_emod_iff_emod_sub_eq_zero.1 he
    have h5 := Int.dvd_of_emod_eq_zero h4
    have e : x * t + s - (y * t + s) = (x - y) * t := by grind
    rwa [e] at h5
  have h4 : V ∣ (x - y).natAbs * t := by
    have := Int.natAbs_dvd_natAbs.2 h3
    rwa [Int.natAbs_mul, Int.natAbs_natCast, Int.natAbs_natCast] at this
  have h5 : V ∣ (x - y).natAbs := Nat.Coprime.dvd_of_dvd_mul_right (by rw [Nat.coprime_iff_gcd_eq_one, Nat.gcd_comm]; exact hg) h4
  have h6 : (x - y).natAbs < V := by omega
  have h7 := Nat.eq_zero_of_dvd_of_lt h5 h6
  omega
theorem cg_lt' {V t : Nat} {s : Int} {l : List Int} (hV : 0 < V) (hin : InV V l) (hlt : l.Pairwise (· < ·)) (hg : Nat.gcd t V = 1) : (cg V t s l).Pairwise (· < ·) := by
  have hd : (tn V t s l).Nodup := by
    unfold tn
    rw [List.nodup_iff_pairwise_ne, List.pairwise_map]
    refine List.Pairwise.imp_of_mem (fun {x y} hx hy (hne : x < y) he => ?_) hlt
    have := tn_inj hg (hin x hx) (hin y hy) he
    omega
  have hd2 : (cg V t s l).Nodup := (srt_perm _).nodup_iff.2 hd
  have h1 := cg_le (V := V) (t := t) (s := s) (l := l)
  rw [List.nodup_iff_pairwise_ne] at hd2
  exact (h1.and hd2).imp fun ⟨a, b⟩ => by omega
theorem tn_surj {V t r : Nat} {s y : Int} (hV : 2 ≤ V) (hr : (t * r) % V = 1) (hy : 0 ≤ y ∧ y < V) : ∃ x : Int, (0 ≤ x ∧ x < V) ∧ (x * t + s) % V = y := by
  refine ⟨((y - s) * r) % V, ⟨Int.emod_nonneg _ (by omega), Int.emod_lt_of_pos _ (by omega)⟩, ?_⟩
  rw [mod_in]
  have e1 : (r : Int) * (t : Int) % (V : Int) = 1 := by
    have : (r : Int) * (t : Int) % (V : Int) = (((t * r) % V : Nat) : Int) := by rw [Nat.mul_comm]; simp
    rw [this, hr]; rfl
  have e2 : (y - s) * (r : Int) * (t : Int) % V = (y - s) % V := by
    rw [Int.mul_assoc, Int.mul_emod, e1, Int.mul_one, Int.emod_emod]
  rw [Int.add_emod, e2, ← Int.add_emod, show y - s + s = y by omega, Int.emod_eq_of_lt hy.1 hy.2]
theorem rs_cg {V t : Nat} {s : Int} {l : List Int} (hV : 2 ≤ V) (hV2 : V ≤ 31) (ht : t < V) (hg : Nat.gcd t V = 1) (hin : InV V l) (hlt : l.Pairwise (· < ·)) : rs V (cg V t s l) = cg V t s (rs V l) := by
  obtain ⟨r, h1, h2, h3⟩ := inv_ex hV hV2 ht hg
  refine lt_ext rs_lt (cg_lt' (by omega) rs_in rs_lt hg) fun y => ?_
  rw [rs_mem, cg_mem, cg_mem]
  constructor
  · rintro ⟨hy, hno⟩
    obtain ⟨x, hx, he⟩ := tn_surj (s := s) hV h3 hy
    exact ⟨x, rs_mem.2 ⟨hx, fun hl => hno ⟨x, hl, he⟩⟩, he⟩
  · rintro ⟨x, hx, rfl⟩
    have hx' := rs_mem.1 hx
    refine ⟨⟨Int.emod_nonneg _ (by omega), Int.emod_lt_of_pos _ (by omega)⟩, ?_⟩
    rintro ⟨z, hz, he⟩
    have := tn_inj hg (hin z hz) hx'.1 he
    subst this
    exact hx'.2 hz
/-- a set and the places that are not in it have the same multipliers -/
theorem mR_rs {V : Nat} {l : List Int} (hV : 2 ≤ V) (hV2 : V ≤ 31) (hin : InV V l) (hlt : l.Pairwise (· < ·)) : mR V (rs V l) V = mR V l V := by
  unfold mR
  refine List.filter_congr fun t ht => ?_
  have ht := List.mem_range.1 ht
  by_cases hg : Nat.gcd t V = 1
  · congr 1
    rw [Bool.eq_iff_iff]
    simp only [List.any_eq_true, List.mem_range, beq_iff_eq]
    constructor
    · rintro ⟨s, hs, h⟩
      refine ⟨s, hs, ?_⟩
      have := congrArg (rs V) h
      rw [rs_cg hV hV2 ht hg rs_in rs_lt, rs_rs hin hlt] at this
      exact this
    · rintro ⟨s, hs, h⟩
      refine ⟨s, hs, ?_⟩
      rw [← rs_cg hV hV2 ht hg hin hlt, h]
  · have : (Nat.gcd t V == 1) = false := by simpa using hg
    rw [this]
    rfl
theorem mP_rs {V : Nat} {l : List Int} (hV : 2 ≤ V) (hV2 : V ≤ 31) (hin : InV V l) (hlt : l.Pairwise (· < ·)) : mP V (rs V l) (uL V V) = mP V l (uL V V) := by
  rw [mP_mR (by omega) rs_in (rs_lt.imp fun h => by omega), mP_mR (by omega) hin (hlt.imp fun h => by omega), mR_rs hV hV2 hin hlt]
/-- the product of two multipliers -/
theorem mP_mul {V a b : Nat} {l : List Int} (hV : 2 ≤ V) (hin : InV V l) (hl : l.Pairwise (· ≤ ·)) (ha : a ∈ mP V l (uL V V)) (hb : b ∈ mP V l (uL V V)) : (a * b) % V ∈ mP V l (uL V V) := by
  rw [mP_mR (by omega) hin hl] at ha hb ⊢
  unfold mR at *
  simp only [List.mem_filter, List.mem_range, Bool.and_eq_true, beq_iff_eq, List.any_eq_true] at ha hb ⊢
  obtain ⟨h1, h2, s, h3, h4⟩ := ha
  obtain ⟨g1, g2, s', g3, g4⟩ := hb
  refine ⟨Nat.mod_lt _ (by omega), gcd_mul_mod h2 g2, ?_⟩
  have e : cg V (((a * b) % V : Nat) : Int) (s * b + s') l = l := by
    have e1 : cg V b s' (cg V a s l) = l := by rw [h4, g4]
    rw [cg_cg] at e1
    have e2 : (((a * b) % V : Nat) : Int) = ((a : Int) * (b : Int)) % (V : Int) := by simp
    rw [e2, cg_modt]
    exact e1
  obtain ⟨m, hm, e3⟩ := cg_move (t := (((a * b) % V : Nat) : Int)) (s := (s : Int) * b + s') (l := l) (show 0 < V by omega)
  exact ⟨m, by omega, by rw [← e3, e]⟩
theorem mP_one {V : Nat} {l : List Int} {us : List Nat} : mP V l (1 :: us) = 1 :: mP V l us := by
  unfold mP
  rw [List.filter_cons]
  simp
end Go.Proofs.YtoeblkenmjbfiaaDoor.Ev

