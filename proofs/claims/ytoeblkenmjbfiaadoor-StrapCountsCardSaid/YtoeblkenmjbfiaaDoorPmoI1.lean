/- Round straps: common divisors, comparisons of lists. -/
import Derived.Test.YtoeblkenmjbfiaaDoorPmoG11
import Derived.Test.YtoeblkenmjbfiaaDoorPmQ3
set_option linter.unusedSimpArgs false
set_option linter.unusedVariables false
namespace Go.Proofs.YtoeblkenmjbfiaaDoor.Ev
open Go Go.Proofs
noncomputable section

theorem tmod_nat {x y : Nat} : ((x : Int).tmod (y : Int)) = ((x % y : Nat) : Int) := rfl
set_option maxHeartbeats 4000000 in
theorem divisor_spec {G a b : Nat} {h : H} (hb : b < 2147483648) : Spec Tryd.prog (En G) 40 [.int .i64 a, .int .i64 b] h fun v h' => v = .int .i64 (Nat.gcd a b) ∧ h' = h := by
  refine CallsE_enter (En_known (by decide)) (En_f.trans Tryd.func40) rfl ⟨Nat.le_of_ble_eq_true rfl, by decide⟩ fun Q' hQ' => ?_
  simp only [Tryd.f40, go_sem,reduceIte,Nat.reduceEqDiff,Nat.reduceLT]
  refine WK_loopN (fun j α h2 => ∃ x y : Nat, y ≤ j ∧ h2 = h ∧ α.get 0 = some (.int .i64 x) ∧ α.get 1 = some (.int .i64 y) ∧ Nat.gcd x y = Nat.gcd a b) b
    ⟨a, b, Nat.le_refl _, rfl, by simp only [go_sem,reduceIte,Nat.reduceEqDiff,Nat.reduceLT], by simp only [go_sem,reduceIte,Nat.reduceEqDiff,Nat.reduceLT], rfl⟩ (by omega) ?_
  rintro J j α h2 ⟨x, y, hyj, rfl, e0, e1, hg⟩ hJ
  by_cases hy : y = 0
  · subst hy
    have d1 : decide (((0 : Nat) : Int) ≠ 0) = false := rfl
    simp (disch := omega) only [go_sem,reduceIte,Nat.reduceEqDiff,Nat.reduceLT, e0, e1, d1]
    rw [Nat.gcd_zero_right] at hg
    exact hQ' _ _ ⟨Pres.refl _ _, by rw [← hg], rfl⟩
  · have d1 : decide ((y : Int) ≠ 0) = true := decide_eq_true (by omega)
    simp (disch := omega) only [go_sem,reduceIte,Nat.reduceEqDiff,Nat.reduceLT, e0, e1, d1]
    refine WK_regionT 5 ⟨by kernel_rfl, by kernel_rfl, by kernel_rfl⟩ ?_
    simp (disch := omega) only [go_sem,reduceIte,Nat.reduceEqDiff,Nat.reduceLT, e0, e1, tmod_nat]
    have hlt : x % y < y := Nat.mod_lt _ (by omega)
    refine hJ (x % y) _ _ (by omega) ⟨y, x % y, Nat.le_refl _, rfl, by (simp only [go_sem,reduceIte,Nat.reduceEqDiff,Nat.reduceLT]) <;> rfl, by (simp only [go_sem,reduceIte,Nat.reduceEqDiff,Nat.reduceLT]) <;> rfl, ?_⟩
    rw [← hg, Nat.gcd_comm x y, Nat.gcd_rec y x, Nat.gcd_comm]
set_option maxHeartbeats 4000000 in
theorem Gcd_spec {G a b : Nat} {h : H} (hb : b < 2147483648) : Spec Tryd.prog (En G) 12 [.int .i64 a, .int .i64 b] h fun v h' => v = .int .i64 (Nat.gcd a b) ∧ h' = h := by
  refine CallsE_enter (En_known (by decide)) (En_f.trans Tryd.func12) rfl ⟨Nat.le_of_ble_eq_true rfl, by decide⟩ fun Q' hQ' => ?_
  simp only [Tryd.f12, go_sem,reduceIte,Nat.reduceEqDiff,Nat.reduceLT]
  refine WK_loopN (fun j α h2 => ∃ x y : Nat, y ≤ j ∧ h2 = h ∧ α.get 0 = some (.int .i64 x) ∧ α.get 1 = some (.int .i64 y) ∧ Nat.gcd x y = Nat.gcd a b) b
    ⟨a, b, Nat.le_refl _, rfl, by simp only [go_sem,reduceIte,Nat.reduceEqDiff,Nat.reduceLT], by simp only [go_sem,reduceIte,Nat.reduceEqDiff,Nat.reduceLT], rfl⟩ (by omega) ?_
  rintro J j α h2 ⟨x, y, hyj, rfl, e0, e1, hg⟩ hJ
  by_cases hy : y = 0
  · subst hy
    have d1 : decide ((0 : Int) < ((0 : Nat) : Int)) = false := rfl
    have d2 : decide (((0 : Nat) : Int) > (0 : Int)) = false := rfl
    simp (disch := omega) only [go_sem,reduceIte,Nat.reduceEqDiff,Nat.reduceLT, e0, e1, d1, d2]
    rw [Nat.gcd_zero_right] at hg
    exact hQ' _ _ ⟨Pres.refl _ _, by rw [← hg], rfl⟩
  · have d1 : decide ((0 : Int) < (y : Int)) = true := decide_eq_true (by omega)
    have d2 : decide ((y : Int) > (0 : Int)) = true := decide_eq_true (by omega)
    simp (disch := omega) only [go_sem,reduceIte,Nat.reduceEqDiff,Nat.reduceLT, e0, e1, d1, d2]
    refine WK_regionT 5 ⟨by kernel_rfl, by kernel_rfl, by kernel_rfl⟩ ?_
    simp (disch := omega) only [go_sem,reduceIte,Nat.reduceEqDiff,Nat.reduceLT, e0, e1, tmod_nat]
    have hlt : x % y < y := Nat.mod_lt _ (by omega)
    refine hJ (x % y) _ _ (by omega) ⟨y, x % y, Nat.le_refl _, rfl, by (simp only [go_sem,reduceIte,Nat.reduceEqDiff,Nat.reduceLT]) <;> rfl, by (simp only [go_sem,reduceIte,Nat.reduceEqDiff,Nat.reduceLT]) <;> rfl, ?_⟩
    rw [← hg, Nat.gcd_comm x y, Nat.gcd_rec y x, Nat.gcd_comm]

/-- lists of the same length -/
theorem bef_lt {l m : List Int} (hl : l.length = m.length) {b : Bool} (h : BefR l.length m.length (fun i => l.getD i 0) (fun i => m.getD i 0) b) : b = true ↔ l < m := by
  rw [List.lt_iff_exists]
  rcases h with ⟨i, h1, h2, h3, h4, rfl⟩ | ⟨h1, rfl⟩
  · simp only [decide_eq_true_eq]
    have g : ∀ (l : List Int) (k : Nat) (hk : k < l.length), l.getD k 0 = l[k] := fun l k hk => by simp [hk]
    constructor
    · intro hlt
      refine .inr ⟨i, h1, h2, fun j hj => ?_, ?_⟩
      · rw [← g l j (by omega), ← g m j (by omega)]; exact h3 j hj
      · rw [← g l i h1, ← g m i h2]; exact hlt
    · rintro (⟨_, hlt⟩ | ⟨k, k1, k2, k3, k4⟩)
      · omega
      · by_cases hk : k = i
        · subst hk; rw [g l k h1, g m k h2]; exact k4
        · by_cases hk2 : k < i
          · have : l.getD k 0 = m.getD k 0 := h3 k hk2
            rw [g l k k1, g m k k2] at this
            omega
          · have := k3 i (by omega)
            exact absurd (show l.getD i 0 = m.getD i 0 by rw [g l i h1, g m i h2]; exact this) h4
  · have hno : ¬ m.length < m.length := by omega
    have hno2 : ¬ l.length < m.length := by omega
    simp only [hno2, decide_false, Bool.false_eq_true, false_iff]
    rintro (⟨_, hlt⟩ | ⟨k, k1, k2, k3, k4⟩)
    · omega
    · have := h1 k k1 k2
      simp only [List.getD, List.getElem?_eq_getElem k1, List.getElem?_eq_getElem k2, Option.getD_some] at this
      omega
theorem list_eq {l m : List Int} (hl : l.length = m.length) : (∀ k, k < l.length → l.getD k 0 = m.getD k 0) ↔ l = m := by
  constructor
  · intro h
    refine List.ext_getElem hl fun k h1 h2 => ?_
    have := h k h1
    simpa [h1, h2] using this
  · rintro rfl k _; rfl

theorem isNaN_spec {G : Nat} {x : Int} {h : H} : Spec Tryd.prog (En G) 46 [.int .i64 x] h fun v h' => v = .bool false ∧ h' = h := by
  refine CallsE_enter (En_known (by decide)) (En_f.trans Tryd.func46) rfl ⟨Nat.le_of_ble_eq_true rfl, by decide⟩ fun Q' hQ' => ?_
  have d1 : decide (x ≠ x) = false := decide_eq_false fun e => e rfl
  simp (disch := omega) only [Tryd.f46, go_sem,reduceIte,Nat.reduceEqDiff,Nat.reduceLT, d1]
  exact hQ' _ _ ⟨Pres.refl _ _, rfl, rfl⟩
theorem cmp_spec {G : Nat} {x y : Int} {h : H} : Spec Tryd.prog (En G) 43 [.int .i64 x, .int .i64 y] h fun v h' => v = .int .i64 (if x < y then -1 else if y < x then 1 else 0) ∧ h' = h := by
  refine CallsE_enter (En_known (by decide)) (En_f.trans Tryd.func43) rfl ⟨Nat.le_of_ble_eq_true rfl, by decide⟩ fun Q' hQ' => ?_
  simp only [Tryd.f43, go_sem,reduceIte,Nat.reduceEqDiff,Nat.reduceLT]
  refine CallO_same isNaN_spec (by omega) fun u hu => ?_
  subst hu
  simp only [go_sem,reduceIte,Nat.reduceEqDiff,Nat.reduceLT]
  refine CallO_same isNaN_spec (by omega) fun u hu => ?_
  subst hu
  by_cases h1 : x < y
  · simp (disch := omega) only [go_sem,reduceIte,Nat.reduceEqDiff,Nat.reduceLT, h1]
    exact hQ' _ _ ⟨Pres.refl _ _, by simp [h1], rfl⟩
  · by_cases h2 : y < x
    · simp (disch := omega) only [go_sem,reduceIte,Nat.reduceEqDiff,Nat.reduceLT, h1, h2]
      exact hQ' _ _ ⟨Pres.refl _ _, by simp [h1, h2], rfl⟩
    · simp (disch := omega) only [go_sem,reduceIte,Nat.reduceEqDiff,Nat.reduceLT, h1, h2]
      exact hQ' _ _ ⟨Pres.refl _ _, by simp [h1, h2], rfl⟩
set_option maxHeartbeats 4000000 in
theorem Compare_spec {G lo hi lo2 hi2 n c c2 : Nat} {A A2 : Option Addr} {f g : Nat → Int} {h : H} (hv : SlV h.blks lo hi 1 n (intsL n f) (.slice A n c)) (hw : SlV h.blks lo2 hi2 1 n (intsL n g) (.slice A2 n c2)) (hn : n < 2147483648) :
    Spec Tryd.prog (En G) 39 [.slice A n c, .slice A2 n c2] h fun v h' => (∃ z b, v = .int .i64 z ∧ (z < 0 ↔ b = true) ∧ BefR n n f g b) ∧ h' = h := by
  refine CallsE_enter (En_known (by decide)) (En_f.trans Tryd.func39) rfl ⟨Nat.le_of_ble_eq_true rfl, by decide⟩ fun Q' hQ' => ?_
  simp only [Tryd.f39, go_sem,reduceIte,Nat.reduceEqDiff,Nat.reduceLT, len24]
  refine WK_loopN (fun j α h2 => ∃ i : Nat, i + j = n ∧ h2 = h ∧ α.get 0 = some (.slice A n c) ∧ α.get 1 = some (.slice A2 n c2) ∧ α.get 9 = some (.slice A n c) ∧ α.get 10 = some (.int .i64 n) ∧ α.get 11 = some (.int .i64 i) ∧ ∀ k, k < i → f k = g k) n
    ⟨0, by omega, rfl, by simp only [go_sem,reduceIte,Nat.reduceEqDiff,Nat.reduceLT], by simp only [go_sem,reduceIte,Nat.reduceEqDiff,Nat.reduceLT], by simp only [go_sem,reduceIte,Nat.reduceEqDiff,Nat.reduceLT], by simp only [go_sem,reduceIte,Nat.reduceEqDiff,Nat.reduceLT], by (simp only [go_sem,reduceIte,Nat.reduceEqDiff,Nat.reduceLT]) <;> rfl, fun k hk => absurd hk (Nat.not_lt_zero k)⟩ (by omega) ?_
  rintro J j α h2 ⟨i, hij, rfl, e0, e1, e9, e10, e11, hall⟩ hJ
  by_cases hlt : (i : Int) < n
  · obtain ⟨b, off, rfl, hld⟩ := hv.ints_at (by omega)
    obtain ⟨b2, off2, rfl, hld2⟩ := hw.ints_at (by omega)
    have l1 := hld i (by omega)
    have l2 := hld2 i (by omega)
    have hge : ¬ (n : Int) ≤ i := by omega
    simp (disch := omega) only [go_sem,reduceIte,Nat.reduceEqDiff,Nat.reduceLT, e0, e1, e9, e10, e11, hlt, hge, len24, idxA24, load3, Int.toNat_natCast, Nat.mul_one, l1, l2]
    refine CallO_same cmp_spec (by omega) fun u hu => ?_
    subst hu
    by_cases c1 : f i < g i
    · have d0 : (if f i < g i then (-1 : Int) else if g i < f i then 1 else 0) = -1 := if_pos c1
      have d1 : decide ((-1 : Int) ≠ 0) = true := rfl
      simp (disch := omega) only [d0]
      simp (disch := omega) only [go_sem,reduceIte,Nat.reduceEqDiff,Nat.reduceLT, d1]
      exact hQ' _ _ ⟨Pres.refl _ _, ⟨-1, true, rfl, by simp, .inl ⟨i, by omega, by omega, hall, by omega, by simp [c1]⟩⟩, rfl⟩
    · by_cases c2 : g i < f i
      · have d0 : (if f i < g i then (-1 : Int) else if g i < f i then 1 else 0) = 1 := by rw [if_neg c1, if_pos c2]
        have d1 : decide ((1 : Int) ≠ 0) = true := rfl
        simp (disch := omega) only [d0]
        simp (disch := omega) only [go_sem,reduceIte,Nat.reduceEqDiff,Nat.reduceLT, d1]
        exact hQ' _ _ ⟨Pres.refl _ _, ⟨1, false, rfl, by simp, .inl ⟨i, by omega, by omega, hall, by omega, by simp [c1]⟩⟩, rfl⟩
      · have d0 : (if f i < g i then (-1 : Int) else if g i < f i then 1 else 0) = 0 := by rw [if_neg c1, if_neg c2]
        have d1 : decide ((0 : Int) ≠ 0) = false := rfl
        simp (disch := omega) only [d0]
        simp (disch := omega) only [go_sem,reduceIte,Nat.reduceEqDiff,Nat.reduceLT, e0, e1, e9, e10, e11, d1, wrap_i64]
        refine hJ (n - (i + 1)) _ _ (by omega) ⟨i + 1, by omega, rfl, by simp only [go_sem,reduceIte,Nat.reduceEqDiff,Nat.reduceLT, e0], by simp only [go_sem,reduceIte,Nat.reduceEqDiff,Nat.reduceLT, e1], by simp only [go_sem,reduceIte,Nat.reduceEqDiff,Nat.reduceLT, e9], by simp only [go_sem,reduceIte,Nat.reduceEqDiff,Nat.reduceLT, e10], by (simp only [go_sem,reduceIte,Nat.reduceEqDiff,Nat.reduceLT]) <;> rfl, fun k hk => ?_⟩
        by_cases e : k = i
        · subst e; omega
        · exact hall k (by omega)
  · obtain rfl : i = n := by omega
    have hn2 : ¬ (i : Int) < i := by omega
    simp (disch := omega) only [go_sem,reduceIte,Nat.reduceEqDiff,Nat.reduceLT, e0, e1, e9, e10, e11, hn2, len24]
    exact hQ' _ _ ⟨Pres.refl _ _, ⟨0, false, rfl, by simp, .inr ⟨fun k h1 _ => hall k h1, by simp⟩⟩, rfl⟩
set_option maxHeartbeats 4000000 in
theorem Equal_spec {G lo hi lo2 hi2 n c c2 : Nat} {A A2 : Option Addr} {f g : Nat → Int} {h : H} (hv : SlV h.blks lo hi 1 n (intsL n f) (.slice A n c)) (hw : SlV h.blks lo2 hi2 1 n (intsL n g) (.slice A2 n c2)) (hn : n < 2147483648) :
    Spec Tryd.prog (En G) 30 [.slice A n c, .slice A2 n c2] h fun v h' => (∃ b, v = .bool b ∧ (b = true ↔ ∀ k, k < n → f k = g k)) ∧ h' = h := by
  refine CallsE_enter (En_known (by decide)) (En_f.trans Tryd.func30) rfl ⟨Nat.le_of_ble_eq_true rfl, by decide⟩ fun Q' hQ' => ?_
  have d0 : decide ((n : Int) ≠ n) = false := decide_eq_false fun e => e rfl
  simp (disch := omega) only [Tryd.f30, go_sem,reduceIte,Nat.reduceEqDiff,Nat.reduceLT, len24, d0]
  refine WK_loopN (fun j α h2 => ∃ i : Nat, i + j = n ∧ h2 = h ∧ α.get 0 = some (.slice A n c) ∧ α.get 1 = some (.slice A2 n c2) ∧ α.get 12 = some (.int .i64 n) ∧ α.get 13 = some (.int .i64 i) ∧ ∀ k, k < i → f k = g k) n
    ⟨0, by omega, rfl, by simp only [go_sem,reduceIte,Nat.reduceEqDiff,Nat.reduceLT], by simp only [go_sem,reduceIte,Nat.reduceEqDiff,Nat.reduceLT], by simp only [go_sem,reduceIte,Nat.reduceEqDiff,Nat.reduceLT], by (simp only [go_sem,reduceIte,Nat.reduceEqDiff,Nat.reduceLT]) <;> rfl, fun k hk => absurd hk (Nat.not_lt_zero k)⟩ (by omega) ?_
  rintro J j α h2 ⟨i, hij, rfl, e0, e1, e12, e13, hall⟩ hJ
  by_cases hlt : (i : Int) < n
  · obtain ⟨b, off, rfl, hld⟩ := hv.ints_at (by omega)
    obtain ⟨b2, off2, rfl, hld2⟩ := hw.ints_at (by omega)
    have l1 := hld i (by omega)
    have l2 := hld2 i (by omega)
    simp (disch := omega) only [go_sem,reduceIte,Nat.reduceEqDiff,Nat.reduceLT, e0, e1, e12, e13, hlt]
    refine WK_regionT 8 ⟨by kernel_rfl, by kernel_rfl, by kernel_rfl⟩ ?_
    by_cases c1 : f i = g i
    · have d1 : decide (f i ≠ g i) = false := decide_eq_false fun e => e c1
      simp (disch := omega) only [go_sem,reduceIte,Nat.reduceEqDiff,Nat.reduceLT, e0, e1, e12, e13, idxA24, load3, Int.toNat_natCast, Nat.mul_one, l1, l2, d1, wrap_i64]
      refine hJ (n - (i + 1)) _ _ (by omega) ⟨i + 1, by omega, rfl, by simp only [go_sem,reduceIte,Nat.reduceEqDiff,Nat.reduceLT, e0], by simp only [go_sem,reduceIte,Nat.reduceEqDiff,Nat.reduceLT, e1], by simp only [go_sem,reduceIte,Nat.reduceEqDiff,Nat.reduceLT, e12], by (simp only [go_sem,reduceIte,Nat.reduceEqDiff,Nat.reduceLT]) <;> rfl, fun k hk => ?_⟩
      by_cases e : k = i
      · subst e; exact c1
      · exact hall k (by omega)
    · have d1 : decide (f i ≠ g i) = true := decide_eq_true c1
      simp (disch := omega) only [go_sem,reduceIte,Nat.reduceEqDiff,Nat.reduceLT, e0, e1, e12, e13, idxA24, load3, Int.toNat_natCast, Nat.mul_one, l1, l2, d1]
      exact hQ' _ _ ⟨Pres.refl _ _, ⟨false, rfl, by simp; exact ⟨i, by omega, c1⟩⟩, rfl⟩
  · obtain rfl : i = n := by omega
    have hn2 : ¬ (i : Int) < i := by omega
    simp (disch := omega) only [go_sem,reduceIte,Nat.reduceEqDiff,Nat.reduceLT, e0, e1, e12, e13, hn2]
    exact hQ' _ _ ⟨Pres.refl _ _, ⟨true, rfl, by simp; exact hall⟩, rfl⟩
end
end Go.Proofs.YtoeblkenmjbfiaaDoor.Ev


