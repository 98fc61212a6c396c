/- Ways, moves along them, and what it means that there is none. Mathematics alone. -/
import Derived.Test.YtngpoamjhngcgaaGreatDoorPmdQ2
namespace Go.Proofs.YtngpoamjhngcgaaGreatDoor.Ev

/-- a cheapest way -/
structure Way (d r : Nat → Nat → Int) (n : Nat) (c : Nat → Int) (T : Nat → Nat) (w : List Nat) : Prop where
  lt : ∀ k, k < w.length → w.getD k 0 < n
  act : ∀ k, k < w.length → c (w.getD k 0) < 1000
  inc : ∀ i j, i < j → j < w.length → T (w.getD i 0) < T (w.getD j 0)
  tight : ∀ k, k + 1 < w.length → ∃ s, stp d r (w.getD k 0) (w.getD (k + 1) 0) = some s ∧ c (w.getD (k + 1) 0) = c (w.getD k 0) + s
theorem getD_cons_succ' {a k : Nat} {w : List Nat} : (a :: w).getD (k + 1) 0 = w.getD k 0 := by simp [List.getD]
theorem getD_cons_zero' {a : Nat} {w : List Nat} : (a :: w).getD 0 0 = a := rfl
theorem Way.one {d r : Nat → Nat → Int} {n v : Nat} {c : Nat → Int} {T : Nat → Nat} (hv : v < n) (hc : c v < 1000) : Way d r n c T [v] :=
  ⟨fun k hk => by have : k = 0 := by simp only [List.length_singleton] at hk; omega
                  subst this; exact hv, fun k hk => by have : k = 0 := by simp only [List.length_singleton] at hk; omega
                                                       subst this; exact hc, fun i j h1 h2 => by simp only [List.length_singleton] at h2; omega, fun k hk => by simp only [List.length_singleton] at hk; omega⟩
theorem Way.cons {d r : Nat → Nat → Int} {n u v : Nat} {s : Int} {c : Nat → Int} {T : Nat → Nat} {w : List Nat} (h : Way d r n c T (v :: w)) (hu : u < n) (hc : c u < 1000) (hs : stp d r u v = some s) (ht : c v = c u + s) (hT : T u < T v) : Way d r n c T (u :: v :: w) := by
  refine ⟨fun k hk => ?_, fun k hk => ?_, fun i j h1 h2 => ?_, fun k hk => ?_⟩
  · cases k with
    | zero => exact hu
    | succ k => rw [getD_cons_succ']; exact h.lt k (by simp only [List.length_cons] at hk ⊢; omega)
  · cases k with
    | zero => exact hc
    | succ k => rw [getD_cons_succ']; exact h.act k (by simp only [List.length_cons] at hk ⊢; omega)
  · cases j with
    | zero => omega
    | succ j =>
      rw [getD_cons_succ']
      have hj : j < (v :: w).length := by simp only [List.length_cons] at h2 ⊢; omega
      cases i with
      | zero =>
        rw [getD_cons_zero']
        cases j with
        | zero => exact hT
        | succ j => exact Nat.lt_trans hT (h.inc 0 (j + 1) (by omega) hj)
      | succ i => rw [getD_cons_succ']; exact h.inc i j (by omega) hj
  · cases k with
    | zero => exact ⟨s, hs, ht⟩
    | succ k =>
      rw [getD_cons_succ', getD_cons_succ']
      exact h.tight k (by simp only [List.length_cons] at hk ⊢; omega)
theorem Way.ne {d r : Nat → Nat → Int} {n i j : Nat} {c : Nat → Int} {T : Nat → Nat} {w : List Nat} (h : Way d r n c T w) (hi : i < w.length) (hj : j < w.length) (hij : i ≠ j) : w.getD i 0 ≠ w.getD j 0 := fun g => by
  rcases Nat.lt_or_gt_of_ne hij with h1 | h1
  · have := h.inc i j h1 hj; rw [g] at this; omega
  · have := h.inc j i h1 hi; rw [g] at this; omega
theorem room_pos {d r : Nat → Nat → Int} {i j : Nat} {s : Int} (h : stp d r i j = some s) : 0 < room d r i j := by
  unfold stp at h
  unfold room
  split at h
  · rename_i h0; rw [if_pos h0]; exact h0
  · rename_i h0
    rw [if_neg h0]
    split at h
    · omega
    · exact absurd h (by simp)
/-- after k moves along a way -/
structure Mvd (d r0 : Nat → Nat → Int) (n : Nat) (q : Nat → Int) (w : List Nat) (a : Int) (k : Nat) (r : Nat → Nat → Int) : Prop where
  bd : Bd d r n
  pot : Pot d r n q
  bal : ∀ x, bl n r x = bl n r0 x + (if x = w.getD 0 0 then a else 0) - if x = w.getD k 0 then a else 0
  rest : ∀ k', k ≤ k' → k' + 1 < w.length → stp d r (w.getD k' 0) (w.getD (k' + 1) 0) = stp d r0 (w.getD k' 0) (w.getD (k' + 1) 0) ∧ room d r (w.getD k' 0) (w.getD (k' + 1) 0) = room d r0 (w.getD k' 0) (w.getD (k' + 1) 0)
theorem Mvd.zero {d r : Nat → Nat → Int} {n : Nat} {q : Nat → Int} {w : List Nat} {a : Int} (hb : Bd d r n) (hp : Pot d r n q) : Mvd d r n q w a 0 r := ⟨hb, hp, fun x => by split <;> omega, fun k' _ _ => ⟨rfl, rfl⟩⟩
theorem Mvd.step {d r0 r : Nat → Nat → Int} {n k : Nat} {c q : Nat → Int} {T : Nat → Nat} {w : List Nat} {a : Int} (h : Mvd d r0 n q w a k r) (hw : Way d r0 n c T w) (hq : ∀ v, v < n → c v < 1000 → q v = c v) (hk : k + 1 < w.length) (ha : 0 < a) (hr : a ≤ room d r0 (w.getD k 0) (w.getD (k + 1) 0)) : Mvd d r0 n q w a (k + 1) (mv r (w.getD k 0) (w.getD (k + 1) 0) a) := by
  obtain ⟨s, hs, ht⟩ := hw.tight k hk
  have hi := hw.lt k (by omega)
  have hj := hw.lt (k + 1) hk
  have hne := hw.ne (i := k) (j := k + 1) (by omega) hk (by omega)
  obtain ⟨e1, e2⟩ := h.rest k (Nat.le_refl _) hk
  obtain ⟨b, p⟩ := mv_pot (a := a) h.bd h.pot hi hj hne (e1.trans hs) (by rw [hq _ hi (hw.act k (by omega)), hq _ hj (hw.act (k + 1) hk), ht]) ha (by rw [e2]; exact hr)
  refine ⟨b, p, fun x => ?_, fun k' h1 h2 => ?_⟩
  · rw [mv_bl hi hj, h.bal]
    split <;> split <;> split <;> omega
  · have n1 := hw.ne (i := k') (j := k) (by omega) (by omega) (by omega)
    have n2 := hw.ne (i := k' + 1) (j := k) h2 (by omega) (by omega)
    obtain ⟨f1, f2⟩ := stp_other (d := d) (r := r) (a := a) (i := w.getD k 0) (j := w.getD (k + 1) 0) (x := w.getD k' 0) (y := w.getD (k' + 1) 0) (fun g => n1 g.1) (fun g => n2 g.2)
    obtain ⟨g1, g2⟩ := h.rest k' (by omega) h2
    exact ⟨f1.trans g1, f2.trans g2⟩

/-- what is still open -/
def opn (d r : Nat → Nat → Int) (n v : Nat) : Int := bl n d v - bl n r v
theorem opn_sum {d r : Nat → Nat → Int} {n : Nat} : sm n (opn d r n) = 0 := by
  have : sm n (opn d r n) = sm n (bl n d) - sm n (bl n r) := sm_sub n
  rw [this, bl_sum, bl_sum]
  rfl
/-- where the search begins -/
def stO (o : Nat → Int) (v : Nat) : Int := if o v ≤ 0 then 1000 else 0
theorem Cheap.first {d r : Nat → Nat → Int} {n v : Nat} {o c b : Nat → Int} {T : Nat → Nat} (h : Cheap d r n (stO o) c b T) (hv : v < n) (hc : c v < 1000) (hb : b v = -1) : 0 < o v := by
  rcases h.from_ v hv with ⟨_, g⟩ | ⟨u, s, _, g, _⟩
  · unfold stO at g
    split at g
    · omega
    · omega
  · omega
theorem Cheap.reached {d r : Nat → Nat → Int} {n v : Nat} {o c b : Nat → Int} {T : Nat → Nat} (h : Cheap d r n (stO o) c b T) (hv : v < n) (ho : 0 < o v) : c v < 1000 := by
  rcases h.from_ v hv with ⟨_, g⟩ | ⟨u, s, hu, g, hs, h1, h2, _⟩
  · unfold stO at g
    rw [if_neg (by omega)] at g
    omega
  · have := stp_val hs
    have := h.bd u hu
    omega
/-- no way: nothing is open -/
theorem no_way {d r : Nat → Nat → Int} {n : Nat} {c b : Nat → Int} {T : Nat → Nat} (hb : Bd d r n) (h : Cheap d r n (stO (opn d r n)) c b T) (hno : ∀ v, v < n → opn d r n v < 0 → ¬ c v < 1000) : ∀ v, v < n → opn d r n v = 0 := by
  have hχ : ∀ v, ∃ x : Int, (c v < 1000 → x = 1) ∧ (¬ c v < 1000 → x = 0) := fun v => by
    by_cases g : c v < 1000
    · exact ⟨1, fun _ => rfl, fun k => absurd g k⟩
    · exact ⟨0, fun k => absurd k g, fun _ => rfl⟩
  obtain ⟨χ, hχ⟩ : ∃ χ : Nat → Int, ∀ v, (c v < 1000 → χ v = 1) ∧ (¬ c v < 1000 → χ v = 0) := ⟨fun v => if c v < 1000 then 1 else 0, fun v => ⟨fun g => if_pos g, fun g => if_neg g⟩⟩
  obtain ⟨e, he⟩ : ∃ e : Nat → Nat → Int, e = fun i j => d i j - r i j := ⟨_, rfl⟩
  have hoe : ∀ v, opn d r n v = sm n (fun w => e v w - e w v) := fun v => by
    unfold opn bl
    rw [sm_sub, he]
    simp only
    rw [sm_sub, sm_sub]
    omega
  have h1 : sm n (fun v => χ v * opn d r n v) = sm n fun v => sm n fun w => (χ v - χ w) * e v w := by
    have a1 : sm n (fun v => χ v * opn d r n v) = sm n (fun v => sm n fun w => χ v * e v w - χ v * e w v) := sm_congr n fun v _ => by
      rw [hoe, ← sm_mul]
      exact sm_congr n fun w _ => Int.mul_sub ..
    have a2 : sm n (fun v => sm n fun w => χ v * e v w - χ v * e w v) = sm n (fun v => sm n fun w => χ v * e v w) - sm n fun v => sm n fun w => χ v * e w v := by
      rw [← sm_sub]
      exact sm_congr n fun v _ => sm_sub n
    have a3 : sm n (fun v => sm n fun w => (χ v - χ w) * e v w) = sm n (fun v => sm n fun w => χ v * e v w) - sm n fun v => sm n fun w => χ w * e v w := by
      rw [← sm_sub]
      refine sm_congr n fun v _ => ?_
      rw [← sm_sub]
      exact sm_congr n fun w _ => Int.sub_mul ..
    rw [a1, a2, a3]
    congr 1
    exact sm_swap n
  have h2 : sm n (fun v => sm n fun w => (χ v - χ w) * e v w) ≤ 0 := by
    have := sm_le (f := fun v => sm n fun w => (χ v - χ w) * e v w) (g := fun _ => 0) n fun v hv => by
      have := sm_le (f := fun w => (χ v - χ w) * e v w) (g := fun _ => 0) n fun w hw => by
        have hvw := hb v w hv hw
        have hwv := hb w v hw hv
        have hev : e v w = d v w - r v w := by rw [he]
        by_cases g1 : c v < 1000
        · by_cases g2 : c w < 1000
          · simp only [(hχ v).1 g1, (hχ w).1 g2]
            simp
          · -- nothing leads out
            have hz : e v w = 0 := by
              refine Classical.byContradiction fun g => ?_
              by_cases h0 : 0 < r w v
              · have := h.fix v w (-1) hv hw (by unfold stp; rw [if_pos h0]) g1
                have := h.bd v hv
                omega
              · have := h.fix v w 1 hv hw (by unfold stp; rw [if_neg h0, if_pos (by omega)]) g1
                have := h.bd v hv
                omega
            simp only [hz]
            simp
        · by_cases g2 : c w < 1000
          · simp only [(hχ v).2 g1, (hχ w).1 g2]
            omega
          · simp only [(hχ v).2 g1, (hχ w).2 g2]
            simp
      rw [sm_zero] at this
      exact this
    rw [sm_zero] at this
    exact this
  have h3 : ∀ v, v < n → 0 ≤ χ v * opn d r n v := fun v hv => by
    by_cases g : c v < 1000
    · rw [(hχ v).1 g, Int.one_mul]
      exact Int.not_lt.1 fun k => hno v hv k g
    · rw [(hχ v).2 g, Int.zero_mul]
      exact Int.le_refl _
  have h4 := sm_none n h3 (by rw [h1]; exact h2)
  have h5 : ∀ v, v < n → 0 ≤ - opn d r n v := fun v hv => by
    refine Int.not_lt.1 fun g => ?_
    have hc := h.reached hv (show 0 < opn d r n v by omega)
    have := h4 v hv
    rw [(hχ v).1 hc, Int.one_mul] at this
    omega
  have h6 : sm n (fun v => - opn d r n v) ≤ 0 := by
    have := sm_mul (f := opn d r n) (c := -1) n
    rw [opn_sum] at this
    have e : (fun v => -opn d r n v) = fun i => -1 * opn d r n i := by funext v; omega
    rw [e, this]
    decide
  intro v hv
  have := sm_none n h5 h6 v hv
  omega
/-- how much is to be moved -/
def pos (o : Nat → Int) (n : Nat) : Int := sm n fun v => max (o v) 0
theorem pos_nonneg {o : Nat → Int} {n : Nat} : 0 ≤ pos o n := sm_nonneg n fun i _ => by omega
/-- less is open after a move -/
theorem pos_less {o : Nat → Int} {n i j : Nat} {a : Int} (hi : i < n) (hj : j < n) (ha : 0 < a) (h1 : a ≤ o i) (h2 : a ≤ - o j) : pos (upf (upf o i (o i - a)) j (o j + a)) n = pos o n - a := by
  have hij : i ≠ j := fun g => by subst g; omega
  have e : (fun v => max (upf (upf o i (o i - a)) j (o j + a) v) 0) = upf (fun v => max (o v) 0) i (max (o i) 0 - a) := by
    funext v
    by_cases g1 : v = j
    · subst g1
      rw [upf_same, upf_other (fun g => hij g.symm)]
      omega
    · by_cases g2 : v = i
      · subst g2
        rw [upf_other g1, upf_same, upf_same]
        omega
      · rw [upf_other g1, upf_other g2, upf_other g2]
  unfold pos
  rw [e, sm_upd, if_pos hi]
  omega
end Go.Proofs.YtngpoamjhngcgaaGreatDoor.Ev

