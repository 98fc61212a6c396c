/- Moving along a cheapest way. Mathematics alone. -/
import Derived.Test.YtngpoamjhngcgaaGreatDoorPmdQ0
namespace Go.Proofs.YtngpoamjhngcgaaGreatDoor.Ev

/-- what was found: costs to which nothing is left to be found, and ways that are tight -/
structure Cheap (d r : Nat → Nat → Int) (n : Nat) (st c b : Nat → Int) (T : Nat → Nat) : Prop where
  fix : Fix d r n c
  from_ : ∀ v, v < n → (b v = -1 ∧ c v = st v) ∨ ∃ u s, u < n ∧ b v = (u : Int) ∧ stp d r u v = some s ∧ c u < 1000 ∧ c v = c u + s ∧ T u < T v
  T_le : ∀ v, v < n → T v ≤ 900
  bd : ∀ v, v < n → c v = 1000 ∨ (-900 ≤ c v ∧ c v ≤ 900)
theorem BF.cheap {d r : Nat → Nat → Int} {n : Nat} {st : Nat → Int} {x : St} (h : BF d r n st x) (hf : Fix d r n x.c) (ht : x.t ≤ 900) : Cheap d r n st x.c x.b x.T := by
  refine ⟨hf, fun v hv => ?_, fun v hv => Nat.le_trans (h.T_le v hv) ht, fun v hv => ?_⟩
  · rcases h.from_ v hv with g | ⟨u, s, g1, g2, g3, g4, g5, g6, g7⟩
    · exact .inl g
    · have := hf u v s g1 hv g4 g5
      exact .inr ⟨u, s, g1, g3, g4, g5, by omega, g7 (by omega)⟩
  · have := h.bd v hv
    omega
/-- potentials for all: the costs, and the old ones far behind where nothing leads -/
def mix (c q : Nat → Int) (M : Int) (v : Nat) : Int := if c v < 1000 then c v else q v + M
theorem low_bound {q : Nat → Int} : ∀ n : Nat, ∃ K : Int, ∀ v, v < n → -K ≤ q v
  | 0 => ⟨0, fun v hv => by omega⟩
  | n + 1 => by
    obtain ⟨K, hK⟩ := low_bound (q := q) n
    refine ⟨max K (-q n), fun v hv => ?_⟩
    by_cases h : v = n
    · subst h; omega
    · have := hK v (by omega); omega
theorem mix_pot {d r : Nat → Nat → Int} {n : Nat} {st c b q : Nat → Int} {T : Nat → Nat} {K : Int} (h : Cheap d r n st c b T) (hq : Pot d r n q) (hK : ∀ v, v < n → -K ≤ q v) : Pot d r n (mix c q (2000 + K)) := by
  intro i j s hi hj hs
  have hsv := stp_val hs
  have hp := hq i j s hi hj hs
  have b1 := h.bd i hi
  have b2 := h.bd j hj
  have b3 := hK i hi
  unfold mix
  by_cases h1 : c i < 1000
  · have := h.fix i j s hi hj hs h1
    rw [if_pos h1, if_pos (by omega)]
    exact this
  · rw [if_neg h1]
    split <;> omega
/-- how much more can be moved -/
def room (d r : Nat → Nat → Int) (i j : Nat) : Int := if 0 < r j i then r j i else d i j - r i j
def mv (r : Nat → Nat → Int) (i j : Nat) (a : Int) : Nat → Nat → Int := if 0 < r j i then upf2 r j i (r j i - a) else upf2 r i j (r i j + a)
theorem mv_bl {n i j k : Nat} {r : Nat → Nat → Int} {a : Int} (hi : i < n) (hj : j < n) : bl n (mv r i j a) k = bl n r k + (if k = i then a else 0) - if k = j then a else 0 := by
  unfold mv
  split
  · rw [bl_upd2 hj hi]
    have : r j i - a - r j i = -a := by omega
    rw [this]
    split <;> split <;> omega
  · rw [bl_upd2 hi hj]
    have : r i j + a - r i j = a := by omega
    rw [this]
theorem mv_other {r : Nat → Nat → Int} {i j x y : Nat} {a : Int} (h1 : ¬ (x = i ∧ y = j)) (h2 : ¬ (x = j ∧ y = i)) : mv r i j a x y = r x y := by
  unfold mv
  split
  · exact upf2_other h2
  · exact upf2_other h1
theorem stp_other {d r : Nat → Nat → Int} {i j x y : Nat} {a : Int} (h1 : ¬ (x = i ∧ y = j)) (h2 : ¬ (x = j ∧ y = i)) : stp d (mv r i j a) x y = stp d r x y ∧ room d (mv r i j a) x y = room d r x y := by
  unfold stp room
  rw [mv_other h1 h2, mv_other (x := y) (y := x) (fun g => h2 ⟨g.2, g.1⟩) (fun g => h1 ⟨g.2, g.1⟩)]
  exact ⟨rfl, rfl⟩
/-- between nothing and the debts -/
def Bd (d r : Nat → Nat → Int) (n : Nat) : Prop := ∀ i j, i < n → j < n → 0 ≤ r i j ∧ r i j ≤ d i j
/-- a move along a tight step keeps all -/
theorem mv_pot {d r : Nat → Nat → Int} {n i j : Nat} {q : Nat → Int} {s a : Int} (hb : Bd d r n) (hq : Pot d r n q) (hi : i < n) (hj : j < n) (hij : i ≠ j) (hs : stp d r i j = some s) (ht : q j = q i + s) (ha : 0 < a) (hr : a ≤ room d r i j) : Bd d (mv r i j a) n ∧ Pot d (mv r i j a) n q := by
  have b1 := hb i j hi hj
  have b2 := hb j i hj hi
  have p1 := hq i j
  have p2 := hq j i
  constructor
  · intro x y hx hy
    by_cases h1 : x = i ∧ y = j
    · obtain ⟨rfl, rfl⟩ := h1
      unfold mv
      unfold room at hr
      split
      · rw [upf2_other (fun g => hij g.1)]; exact b1
      · rename_i h0
        rw [if_neg h0] at hr
        rw [upf2_same]; omega
    · by_cases h2 : x = j ∧ y = i
      · obtain ⟨rfl, rfl⟩ := h2
        unfold mv
        unfold room at hr
        split
        · rename_i h0
          rw [if_pos h0] at hr
          rw [upf2_same]; omega
        · rw [upf2_other (fun g => hij g.2)]; exact b2
      · rw [mv_other h1 h2]; exact hb x y hx hy
  · intro x y s' hx hy hs'
    by_cases h1 : x = i ∧ y = j
    · obtain ⟨rfl, rfl⟩ := h1
      have := stp_val hs'
      have := stp_val hs
      unfold stp at hs'
      unfold mv at hs'
      unfold stp at hs
      unfold room at hr
      by_cases h0 : 0 < r y x
      · rw [if_pos h0] at hs hr
        injection hs with hs
        omega
      · rw [if_neg h0] at hs hr hs'
        rw [upf2_other (fun g => hij g.2), if_neg h0, upf2_same] at hs'
        split at hs
        · injection hs with hs
          split at hs'
          · injection hs' with hs'
            omega
          · exact absurd hs' (by simp)
        · exact absurd hs (by simp)
    · by_cases h2 : x = j ∧ y = i
      · obtain ⟨rfl, rfl⟩ := h2
        have := stp_val hs'
        unfold stp at hs'
        unfold mv at hs'
        unfold stp at hs
        unfold room at hr
        by_cases h0 : 0 < r x y
        · -- the way back of a step that took back
          rw [if_pos h0] at hs hr hs'
          injection hs with hs
          have hz : r y x = 0 := by
            refine Classical.byContradiction fun g => ?_
            have : stp d r x y = some (-1) := by unfold stp; rw [if_pos (by omega)]
            have := hq x y (-1) hx hy this
            omega
          rw [upf2_other (fun g => hij g.1), if_neg (by omega), upf2_same] at hs'
          split at hs'
          · injection hs' with hs'
            omega
          · exact absurd hs' (by simp)
        · rw [if_neg h0] at hs hr hs'
          split at hs
          · injection hs with hs
            rw [upf2_same, if_pos (by omega)] at hs'
            injection hs' with hs'
            omega
          · exact absurd hs (by simp)
      · rw [(stp_other h1 h2).1] at hs'
        exact hq x y s' hx hy hs'
end Go.Proofs.YtngpoamjhngcgaaGreatDoor.Ev

