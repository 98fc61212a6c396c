/- Sets of places, multiplied and moved. Mathematics alone. -/
import Derived.Test.YtoeblkenmjbfiaaDoorPmSo
set_option linter.unusedVariables false
set_option linter.unusedSimpArgs false
namespace Go.Proofs.YtoeblkenmjbfiaaDoor.Ev

/-- multiplied and moved -/
def tn (V : Nat) (t s : Int) (l : List Int) : List Int := l.map fun x => (x * t + s) % V
/-- in their order -/
def cg (V : Nat) (t s : Int) (l : List Int) : List Int := srt (tn V t s l)
def InV (V : Nat) (l : List Int) : Prop := ∀ x ∈ l, 0 ≤ x ∧ x < V
theorem tn_len {V : Nat} {t s : Int} {l : List Int} : (tn V t s l).length = l.length := by simp [tn]
theorem cg_len {V : Nat} {t s : Int} {l : List Int} : (cg V t s l).length = l.length := by simp [cg, srt_len, tn_len]
theorem cg_le {V : Nat} {t s : Int} {l : List Int} : (cg V t s l).Pairwise (· ≤ ·) := srt_le _
theorem tn_in {V : Nat} {t s : Int} {l : List Int} (h : 0 < V) : InV V (tn V t s l) := fun x hx => by
  obtain ⟨y, _, rfl⟩ := List.mem_map.1 hx
  exact ⟨Int.emod_nonneg _ (by omega), Int.emod_lt_of_pos _ (by omega)⟩
theorem cg_in {V : Nat} {t s : Int} {l : List Int} (h : 0 < V) : InV V (cg V t s l) := fun x hx => tn_in h x ((srt_perm _).mem_iff.1 hx)
theorem tn_one {V : Nat} {l : List Int} (h : InV V l) : tn V 1 0 l = l := by
  unfold tn
  conv => rhs; rw [← List.map_id l]
  refine List.map_congr_left fun x hx => ?_
  have := h x hx
  rw [Int.mul_one, Int.add_zero, Int.emod_eq_of_lt this.1 this.2]
  rfl
theorem mod_in {V a t s : Int} : (a % V * t + s) % V = (a * t + s) % V := by
  rw [Int.add_emod, Int.mul_emod, Int.emod_emod, ← Int.mul_emod, ← Int.add_emod]
theorem tn_tn {V : Nat} {t s t' s' : Int} {l : List Int} : tn V t s (tn V t' s' l) = tn V (t' * t) (s' * t + s) l := by
  unfold tn
  rw [List.map_map]
  refine List.map_congr_left fun x _ => ?_
  simp only [Function.comp]
  rw [mod_in]
  congr 1
  grind
theorem tn_mod {V : Nat} {t s : Int} {l : List Int} : tn V t (s % V) l = tn V t s l := by
  unfold tn
  refine List.map_congr_left fun x _ => ?_
  rw [Int.add_emod, Int.emod_emod, ← Int.add_emod]
theorem tn_modt {V : Nat} {t s : Int} {l : List Int} : tn V (t % V) s l = tn V t s l := by
  unfold tn
  refine List.map_congr_left fun x _ => ?_
  rw [Int.add_emod, Int.mul_emod, Int.emod_emod, ← Int.mul_emod, ← Int.add_emod]
theorem perm_tn {V : Nat} {t s : Int} {l m : List Int} (h : l.Perm m) : (tn V t s l).Perm (tn V t s m) := h.map _
theorem cg_one {V : Nat} {l : List Int} (h : InV V l) (hl : l.Pairwise (· ≤ ·)) : cg V 1 0 l = l := by
  rw [cg, tn_one h, srt_self hl]
theorem cg_cg {V : Nat} {t s t' s' : Int} {l : List Int} : cg V t s (cg V t' s' l) = cg V (t' * t) (s' * t + s) l := by
  unfold cg
  rw [srt_of_perm (perm_tn (srt_perm (tn V t' s' l))), tn_tn]
theorem cg_mod {V : Nat} {t s : Int} {l : List Int} : cg V t (s % V) l = cg V t s l := by rw [cg, tn_mod, cg]
theorem cg_modt {V : Nat} {t s : Int} {l : List Int} : cg V (t % V) s l = cg V t s l := by rw [cg, tn_modt, cg]

/-- the least of some lists -/
def mnl (x : List Int) (ys : List (List Int)) : List Int := ys.foldl (fun r y => if y < r then y else r) x
theorem mnl_snoc {x y : List Int} {ys : List (List Int)} : mnl x (ys ++ [y]) = if y < mnl x ys then y else mnl x ys := by
  unfold mnl
  rw [List.foldl_append]
  rfl
theorem mnl_cons {x y : List Int} {ys : List (List Int)} : mnl x (y :: ys) = mnl (if y < x then y else x) ys := rfl
def Mn (S : List Int → Prop) (x : List Int) : Prop := S x ∧ ∀ y, S y → ¬ y < x
theorem llt_trans {x y z : List Int} (h : x < y) (h' : y < z) : x < z := List.lt_trans h h'
theorem llt_irr {x : List Int} : ¬ x < x := List.lt_irrefl x
theorem llt_eq {x y : List Int} (h : ¬ x < y) (h' : ¬ y < x) : x = y := List.le_antisymm (as := x) (bs := y) h' h
theorem Mn.uniq {S : List Int → Prop} {x y : List Int} (h : Mn S x) (h' : Mn S y) : x = y := llt_eq (h'.2 x h.1) (h.2 y h'.1)
theorem mnl_mn : ∀ (ys : List (List Int)) (x : List Int), Mn (· ∈ x :: ys) (mnl x ys)
  | [], x => ⟨by simp [mnl], fun y hy => by
      simp only [List.mem_cons, List.not_mem_nil, or_false] at hy
      subst hy; exact llt_irr⟩
  | y :: ys, x => by
    rw [mnl_cons]
    have ih := mnl_mn ys (if y < x then y else x)
    refine ⟨?_, fun z hz => ?_⟩
    · rcases List.mem_cons.1 ih.1 with h | h
      · rw [h]; split <;> simp
      · simp [h]
    · by_cases h : y < x
      · rw [if_pos h] at ih ⊢
        rcases List.mem_cons.1 hz with rfl | hz
        · intro hlt
          exact ih.2 y (by simp) (llt_trans h hlt)
        · exact ih.2 z hz
      · rw [if_neg h] at ih ⊢
        rcases List.mem_cons.1 hz with rfl | hz
        · exact ih.2 _ (by simp)
        · rcases List.mem_cons.1 hz with rfl | hz
          · intro hlt
            by_cases hx : z = x
            · subst hx; exact ih.2 z (by simp) hlt
            · have : x < z := by
                refine Classical.byContradiction fun hn => hx (llt_eq h hn)
              exact ih.2 x (by simp) (llt_trans this hlt)
          · exact ih.2 z (by simp [hz])
/-- the least moved set -/
def lst (V : Nat) (t : Int) (l : List Int) (n : Nat) : List Int := mnl (cg V t 0 l) ((List.range n).map fun m : Nat => cg V t ((m : Int) + 1) l)
theorem lst_succ {V n : Nat} {t : Int} {l : List Int} : lst V t l (n + 1) = if cg V t ((n : Int) + 1) l < lst V t l n then cg V t ((n : Int) + 1) l else lst V t l n := by
  unfold lst
  rw [List.range_succ, List.map_append, List.map_singleton, mnl_snoc]
theorem lst_mem {V n : Nat} {t : Int} {l z : List Int} : (z ∈ cg V t 0 l :: (List.range n).map fun m : Nat => cg V t ((m : Int) + 1) l) ↔ ∃ m : Nat, m ≤ n ∧ z = cg V t m l := by
  simp only [List.mem_cons, List.mem_map, List.mem_range]
  constructor
  · rintro (rfl | ⟨m, hm, rfl⟩)
    · exact ⟨0, by omega, rfl⟩
    · exact ⟨m + 1, by omega, by simp⟩
  · rintro ⟨m, hm, rfl⟩
    cases m with
    | zero => exact .inl rfl
    | succ m => exact .inr ⟨m, by omega, by simp⟩
theorem lst_of {V n : Nat} {t : Int} {l : List Int} : ∃ m : Nat, m ≤ n ∧ lst V t l n = cg V t m l := lst_mem.1 (mnl_mn _ _).1
theorem lst_len {V n : Nat} {t : Int} {l : List Int} : (lst V t l n).length = l.length := by
  obtain ⟨m, _, h⟩ := lst_of (V := V) (n := n) (t := t) (l := l)
  rw [h, cg_len]
/-- every move is one of the first V -/
theorem cg_move {V : Nat} {t s : Int} {l : List Int} (h : 0 < V) : ∃ m : Nat, m ≤ V - 1 ∧ cg V t s l = cg V t m l := by
  have h1 := Int.emod_nonneg s (show (V : Int) ≠ 0 by omega)
  have h2 := Int.emod_lt_of_pos s (show (0 : Int) < V by omega)
  refine ⟨(s % V).toNat, by omega, ?_⟩
  rw [Int.toNat_of_nonneg h1, cg_mod]
theorem lst_any {V : Nat} {t s : Int} {l : List Int} (h : 0 < V) : ¬ cg V t s l < lst V t l (V - 1) := by
  obtain ⟨m, hm, he⟩ := cg_move (t := t) (s := s) (l := l) h
  rw [he]
  exact (mnl_mn _ _).2 _ (lst_mem.2 ⟨m, hm, rfl⟩)
theorem lst_cg {V : Nat} {t t' s : Int} {l : List Int} (h : 0 < V) : lst V t (cg V t' s l) (V - 1) = lst V (t' * t) l (V - 1) := by
  refine llt_eq ?_ ?_
  · obtain ⟨m, hm, he⟩ := lst_of (V := V) (n := V - 1) (t := t) (l := cg V t' s l)
    rw [he, cg_cg]
    exact lst_any h
  · obtain ⟨m, hm, he⟩ := lst_of (V := V) (n := V - 1) (t := t' * t) (l := l)
    rw [he]
    have : cg V (t' * t) m l = cg V t (m - s * t) (cg V t' s l) := by
      rw [cg_cg]
      congr 1
      omega
    rw [this]
    exact lst_any h
/-- a multiplier -/
theorem mul_iff {V : Nat} {t : Int} {l : List Int} (h : 0 < V) (hi : InV V l) (hl : l.Pairwise (· ≤ ·)) : lst V t l (V - 1) = lst V 1 l (V - 1) ↔ ∃ s : Nat, s < V ∧ cg V t s l = l := by
  constructor
  · intro he
    obtain ⟨a, _, ha⟩ := lst_of (V := V) (n := V - 1) (t := t) (l := l)
    obtain ⟨b, _, hb⟩ := lst_of (V := V) (n := V - 1) (t := 1) (l := l)
    rw [ha, hb] at he
    have h1 := congrArg (cg V 1 (-b)) he
    rw [cg_cg, cg_cg] at h1
    have e2 : cg V (1 * 1) ((b : Int) * 1 + -b) l = l := by
      rw [show (b : Int) * 1 + -b = 0 by omega, show (1 : Int) * 1 = 1 by omega, cg_one hi hl]
    rw [e2, Int.mul_one] at h1
    obtain ⟨m, hm, e3⟩ := cg_move (t := t) (s := (a : Int) * 1 + -b) (l := l) h
    exact ⟨m, by omega, by rw [← e3, h1]⟩
  · rintro ⟨s, _, hs⟩
    have := lst_cg (t := 1) (t' := t) (s := s) (l := l) h
    rw [hs, Int.mul_one] at this
    exact this.symm

/-- the numbers without a common divisor -/
def uL (V n : Nat) : List Nat := (List.range n).filter fun t => Nat.gcd t V == 1
theorem uL_succ {V n : Nat} : uL V (n + 1) = if Nat.gcd n V = 1 then uL V n ++ [n] else uL V n := by
  unfold uL
  rw [List.range_succ, List.filter_append]
  by_cases h : Nat.gcd n V = 1
  · simp [h]
  · simp [h]
theorem uL_len {V n : Nat} : (uL V n).length ≤ n := by
  have := List.length_filter_le (fun t => Nat.gcd t V == 1) (List.range n)
  simpa [uL] using this
theorem uL_mem {V n t : Nat} : t ∈ uL V n ↔ t < n ∧ Nat.gcd t V = 1 := by simp [uL]
/-- the multipliers, as the program finds them -/
def mP (V : Nat) (l : List Int) (us : List Nat) : List Nat := us.filter fun t => lst V t l (V - 1) == lst V 1 l (V - 1)
theorem mP_snoc {V t : Nat} {l : List Int} {us : List Nat} : mP V l (us ++ [t]) = if lst V t l (V - 1) = lst V 1 l (V - 1) then mP V l us ++ [t] else mP V l us := by
  unfold mP
  rw [List.filter_append]
  by_cases h : lst V t l (V - 1) = lst V 1 l (V - 1)
  · simp [h]
  · simp [h]
/-- and as the reference does -/
def mR (V : Nat) (l : List Int) (n : Nat) : List Nat := (List.range n).filter fun t => Nat.gcd t V == 1 && (List.range V).any fun s => cg V t s l == l
theorem mP_mR {V : Nat} {l : List Int} (h : 0 < V) (hi : InV V l) (hl : l.Pairwise (· ≤ ·)) : mP V l (uL V V) = mR V l V := by
  unfold mP uL mR
  rw [List.filter_filter]
  refine List.filter_congr fun t _ => ?_
  rw [Bool.and_comm]
  congr 1
  rw [Bool.eq_iff_iff]
  simp only [beq_iff_eq, List.any_eq_true, List.mem_range]
  exact mul_iff h hi hl
/-- the least form, as the program finds it -/
def cP (V : Nat) (l : List Int) (us : List Nat) : List Int := mnl (lst V 1 l (V - 1)) (us.map fun t : Nat => lst V t l (V - 1))
/-- what a set can become -/
def Orb (V : Nat) (l z : List Int) : Prop := ∃ t s : Nat, t < V ∧ Nat.gcd t V = 1 ∧ s < V ∧ z = cg V t s l
theorem cP_mn {V : Nat} {l : List Int} (h : 2 ≤ V) : Mn (Orb V l) (cP V l (uL V V)) := by
  have hm := mnl_mn ((uL V V).map fun t : Nat => lst V t l (V - 1)) (lst V 1 l (V - 1))
  have h1 : ∀ t : Nat, t ∈ uL V V → Orb V l (lst V t l (V - 1)) := fun t ht => by
    obtain ⟨m, hm, he⟩ := lst_of (V := V) (n := V - 1) (t := t) (l := l)
    have := uL_mem.1 ht
    exact ⟨t, m, this.1, this.2, by omega, he⟩
  have hu : 1 ∈ uL V V := uL_mem.2 ⟨by omega, Nat.gcd_one_left V⟩
  refine ⟨?_, ?_⟩
  · rcases List.mem_cons.1 hm.1 with e | e
    · unfold cP; rw [e]; exact h1 1 hu
    · obtain ⟨t, ht, e⟩ := List.mem_map.1 e
      unfold cP; rw [← e]; exact h1 t ht
  · rintro z ⟨t, s, ht, hg, hs, rfl⟩ hlt
    have ha := hm.2 (lst V t l (V - 1)) (List.mem_cons_of_mem _ (List.mem_map_of_mem (uL_mem.2 ⟨ht, hg⟩)))
    have hb : ¬ cg V t s l < lst V t l (V - 1) := lst_any (by omega)
    by_cases e : lst V t l (V - 1) = cg V t s l
    · exact ha (e ▸ hlt)
    · have : lst V t l (V - 1) < cg V t s l := Classical.byContradiction fun hn => e (llt_eq hn hb)
      exact ha (llt_trans this hlt)
end Go.Proofs.YtoeblkenmjbfiaaDoor.Ev

