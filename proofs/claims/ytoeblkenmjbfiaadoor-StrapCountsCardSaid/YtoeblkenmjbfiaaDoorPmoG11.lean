/- The reference: straps, distances, those that are missing; orders of lists. -/
import Derived.Test.YtoeblkenmjbfiaaDoorPmoG9
set_option linter.unusedSimpArgs false
set_option linter.unusedVariables false
namespace Go.Proofs.YtoeblkenmjbfiaaDoor.Ev
open Go Go.Proofs
noncomputable section

def StrapAt (f : Nat → Int) (k : Nat) : Prop := (k = 0 → f k = 0) ∧ (0 < k → f (k - 1) < f k) ∧ f k ≤ 1000
theorem StrapP.at_ {n : Nat} {f : Nat → Int} (h : StrapP n f) {k : Nat} (hk : k < n) : StrapAt f k :=
  ⟨fun e => by rw [e]; exact h.2, fun h0 => (h.1.1 k hk).2.2 h0, (h.1.1 k hk).2.1⟩
/-- which list comes first -/
def BefR (n m : Nat) (f g : Nat → Int) (b : Bool) : Prop :=
  (∃ i, i < n ∧ i < m ∧ (∀ k, k < i → f k = g k) ∧ f i ≠ g i ∧ b = decide (f i < g i)) ∨ ((∀ k, k < n → k < m → f k = g k) ∧ b = decide (n < m))
set_option maxHeartbeats 4000000 in
theorem Before_spec {G lo hi lo2 hi2 n m c c2 : Nat} {A A2 : Option Addr} {f g : Nat → Int} {h : H} (hv : SlV h.blks lo hi 1 n (intsL n f) (.slice A n c)) (hw : SlV h.blks lo2 hi2 1 m (intsL m g) (.slice A2 m c2)) (hn : n < 2147483648) :
    Spec Tryd.prog (En G) 20 [.slice A n c, .slice A2 m c2] h fun v h' => (∃ b, v = .bool b ∧ BefR n m f g b) ∧ h' = h := by
  refine CallsE_enter (En_known (by decide)) (En_f.trans Tryd.func20) rfl ⟨Nat.le_of_ble_eq_true rfl, by decide⟩ fun Q' hQ' => ?_
  simp only [Tryd.f20, go_sem,reduceIte,Nat.reduceEqDiff,Nat.reduceLT]
  refine WK_loopN (fun j α h2 => ∃ i : Nat, i + j = n ∧ h2 = h ∧ α.get 0 = some (.slice A n c) ∧ α.get 1 = some (.slice A2 m c2) ∧ α.get 5 = some (.int .i64 i) ∧ i ≤ m ∧ ∀ k, k < i → f k = g k) n
    ⟨0, by omega, rfl, by simp only [go_sem,reduceIte,Nat.reduceEqDiff,Nat.reduceLT], by simp only [go_sem,reduceIte,Nat.reduceEqDiff,Nat.reduceLT], by (simp only [go_sem,reduceIte,Nat.reduceEqDiff,Nat.reduceLT]) <;> rfl, by omega, fun k hk => absurd hk (Nat.not_lt_zero k)⟩ (by omega) ?_
  rintro J j α h2 ⟨i, hij, rfl, e0, e1, e5, him, hall⟩ hJ
  have fin : (∀ k, k < n → k < m → f k = g k) → Q' (.bool (decide ((n : Int) < m))) h2 := fun hh => hQ' _ _ ⟨Pres.refl _ _, ⟨_, rfl, .inr ⟨hh, by simp⟩⟩, rfl⟩
  by_cases hlt : (i : Int) < n
  · by_cases hlt2 : (i : Int) < m
    · obtain ⟨b, off, rfl, hld⟩ := hv.ints_at (by omega)
      obtain ⟨b2, off2, rfl, hld2⟩ := hw.ints_at (by omega)
      have l1 := hld i (by omega)
      have l2 := hld2 i (by omega)
      simp (disch := omega) only [go_sem,reduceIte,Nat.reduceEqDiff,Nat.reduceLT, e0, e1, e5, hlt, hlt2, len24]
      refine WK_regionT 8 ⟨by kernel_rfl, by kernel_rfl, by kernel_rfl⟩ ?_
      by_cases c1 : f i = g i
      · have d1 : decide (f i ≠ g i) = false := decide_eq_false fun e => e c1
        simp (disch := omega) only [go_sem,reduceIte,Nat.reduceEqDiff,Nat.reduceLT, e0, e1, e5, idxA24, load3, Int.toNat_natCast, Nat.mul_one, l1, l2, d1, wrap_i64]
        refine hJ (n - (i + 1)) _ _ (by omega) ⟨i + 1, by omega, rfl, by simp only [go_sem,reduceIte,Nat.reduceEqDiff,Nat.reduceLT, e0], by simp only [go_sem,reduceIte,Nat.reduceEqDiff,Nat.reduceLT, e1], by (simp only [go_sem,reduceIte,Nat.reduceEqDiff,Nat.reduceLT]) <;> rfl, by omega, fun k hk => ?_⟩
        by_cases e : k = i
        · subst e; exact c1
        · exact hall k (by omega)
      · have d1 : decide (f i ≠ g i) = true := decide_eq_true c1
        simp (disch := omega) only [go_sem,reduceIte,Nat.reduceEqDiff,Nat.reduceLT, e0, e1, e5, idxA24, load3, Int.toNat_natCast, Nat.mul_one, l1, l2, d1]
        refine WK_regionT 8 ⟨by kernel_rfl, by kernel_rfl, by kernel_rfl⟩ ?_
        simp (disch := omega) only [go_sem,reduceIte,Nat.reduceEqDiff,Nat.reduceLT, e0, e1, e5, idxA24, load3, Int.toNat_natCast, Nat.mul_one, l1, l2]
        exact hQ' _ _ ⟨Pres.refl _ _, ⟨_, rfl, .inl ⟨i, by omega, by omega, hall, c1, rfl⟩⟩, rfl⟩
    · obtain rfl : i = m := by omega
      simp (disch := omega) only [go_sem,reduceIte,Nat.reduceEqDiff,Nat.reduceLT, e0, e1, e5, hlt, hlt2, len24]
      exact fin fun k h1 h2 => hall k h2
  · obtain rfl : i = n := by omega
    simp (disch := omega) only [go_sem,reduceIte,Nat.reduceEqDiff,Nat.reduceLT, e0, e1, e5, hlt, len24]
    exact fin fun k h1 h2 => hall k h1
end
end Go.Proofs.YtoeblkenmjbfiaaDoor.Ev


