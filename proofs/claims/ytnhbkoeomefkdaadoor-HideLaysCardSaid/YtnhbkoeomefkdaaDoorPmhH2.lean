/- Euclid: the program's and the reference's. -/
import Derived.Test.YtnhbkoeomefkdaaDoorPmhH1
set_option linter.unusedSimpArgs false
set_option linter.unusedVariables false
namespace Go.Proofs.YtnhbkoeomefkdaaDoor.Ev.L
open Go Go.Proofs Go.Proofs.YtnhbkoeomefkdaaDoor.Ev
noncomputable section

/-- the sizes that are cut off -/
def eu : Nat → Int → Int → List Int
  | 0, _, _ => []
  | k + 1, w, h => if 0 < w ∧ 0 < h then min w h :: (if h < w then eu k (w - min w h) h else eu k w (h - min w h)) else []
theorem eu_stop {k : Nat} {w h : Int} (hs : ¬ (0 < w ∧ 0 < h)) : eu k w h = [] := by
  cases k with
  | zero => rfl
  | succ k => rw [eu, if_neg hs]
theorem eu_go {k : Nat} {w h : Int} (hs : 0 < w ∧ 0 < h) (hk : w + h ≤ k) : eu k w h = min w h :: (if h < w then eu (k - 1) (w - min w h) h else eu (k - 1) w (h - min w h)) := by
  cases k with
  | zero => omega
  | succ k => rw [eu, if_pos hs]; rfl
/-- fuel enough is fuel enough -/
theorem eu_fuel : ∀ (k j : Nat) (w h : Int), 0 ≤ w → 0 ≤ h → w + h ≤ k → w + h ≤ j → eu k w h = eu j w h := by
  intro k
  induction k with
  | zero => intro j w h h1 h2 h3 h4; rw [eu_stop (by omega), eu_stop (by omega)]
  | succ k ih =>
    intro j w h h1 h2 h3 h4
    by_cases hs : 0 < w ∧ 0 < h
    · rw [eu_go hs h3, eu_go hs h4]
      congr 1
      split
      · exact ih _ _ _ (by omega) (by omega) (by omega) (by omega)
      · exact ih _ _ _ (by omega) (by omega) (by omega) (by omega)
    · rw [eu_stop hs, eu_stop hs]
theorem eu_len : ∀ (k : Nat) (w h : Int), (eu k w h).length ≤ k := by
  intro k
  induction k with
  | zero => intro w h; simp [eu]
  | succ k ih =>
    intro w h
    rw [eu]
    split
    · simp only [List.length_cons]
      split
      · have := ih (w - min w h) h; omega
      · have := ih w (h - min w h); omega
    · simp

set_option maxHeartbeats 4000000 in
theorem refEuclid_spec {G : Nat} {w h : Int} {h0 : H} (hG : G ≤ h0.next) (hw : 1 ≤ w ∧ w ≤ 1000) (hh : 1 ≤ h ∧ h ≤ 1000) :
    Spec Tryd.prog (En G) 33 [.int .i64 w, .int .i64 h] h0 fun v h' => ∃ A : Option Addr, v = .slice A (eu 2000 w h).length (eu 2000 w h).length ∧ SlV h'.blks h0.next h'.next 1 (eu 2000 w h).length (ints (eu 2000 w h)) (.slice A (eu 2000 w h).length (eu 2000 w h).length) := by
  refine CallsE_enter (En_known (by decide)) (En_f.trans Tryd.func33) rfl ⟨Nat.le_of_ble_eq_true rfl, by decide⟩ fun Q' hQ' => ?_
  simp only [Tryd.f33, go_sem,reduceIte,Nat.reduceEqDiff,Nat.reduceLT]
  refine At_lit0 u27 i3 zero3 (by rw [size3]; rfl) (by omega) ?_
  simp only [go_sem,reduceIte,Nat.reduceEqDiff,Nat.reduceLT]
  refine WK_loopN (fun j α h2 => ∃ (x y : Int) (l : List Int) (A : Option Addr), 0 ≤ x ∧ x ≤ 1000 ∧ 0 ≤ y ∧ y ≤ 1000 ∧ j = (x + y).toNat ∧ l ++ eu 2000 x y = eu 2000 w h ∧ α.get 0 = some (.int .i64 x) ∧ α.get 1 = some (.int .i64 y) ∧
      α.get 5 = some (.slice A l.length l.length) ∧ SlV h2.blks h0.next h2.next 1 l.length (ints l) (.slice A l.length l.length) ∧ Pres h0.next h0 h2) (w + h).toNat
    ⟨w, h, [], some ⟨0, 0, some 0⟩, by omega, by omega, by omega, by omega, rfl, rfl, by simp only [go_sem,reduceIte,Nat.reduceEqDiff,Nat.reduceLT], by simp only [go_sem,reduceIte,Nat.reduceEqDiff,Nat.reduceLT], by (simp only [go_sem,reduceIte,Nat.reduceEqDiff,Nat.reduceLT]) <;> rfl, .emp rfl rfl, Pres.refl _ _⟩ (by omega) ?_
  rintro J j α h2 ⟨x, y, l, A, hx0, hx1, hy0, hy1, rfl, hl, e0, e1, e5, hsl, hpr⟩ hJ
  have hlen : l.length ≤ 2000 := by
    have h3 := eu_len 2000 w h
    rw [← hl, List.length_append] at h3
    omega
  have nx := hpr.next
  by_cases hs : 0 < x ∧ 0 < y
  · obtain ⟨hs1, hs2⟩ := hs
    simp (disch := omega) only [go_sem,reduceIte,Nat.reduceEqDiff,Nat.reduceLT, e0, e1, e5, hs1, hs2]
    refine At_pushI (lo := h0.next) (hi := h2.next) (l := l) (z := min x y) (by (simp only [go_sem,reduceIte,Nat.reduceEqDiff,Nat.reduceLT]) <;> rfl) (by simp only [go_sem,reduceIte,Nat.reduceEqDiff,Nat.reduceLT, e5]) hsl (by omega) (by omega) (by omega) (by omega) (by decide) (by decide) (by decide) fun A3 h3 pr3 hs3 nx3 => ?_
    have hpr' := hpr.trans pr3
    have hgo := eu_go (k := 2000) ⟨hs1, hs2⟩ (by omega)
    by_cases hlt : y < x
    · simp (disch := omega) only [go_sem,reduceIte,Nat.reduceEqDiff,Nat.reduceLT, e0, e1, hlt, wrap_i64]
      rw [if_pos hlt, eu_fuel 1999 2000 _ _ (by omega) (by omega) (by omega) (by omega)] at hgo
      refine hJ _ _ _ ?_ ⟨x - min x y, y, l ++ [min x y], A3, by omega, by omega, by omega, by omega, rfl, ?_, by simp only [go_sem,reduceIte,Nat.reduceEqDiff,Nat.reduceLT], by simp only [go_sem,reduceIte,Nat.reduceEqDiff,Nat.reduceLT, e1], by simp only [go_sem,reduceIte,Nat.reduceEqDiff,Nat.reduceLT], hs3, hpr'⟩
      · omega
      · rw [List.append_assoc, ← hl, hgo]; rfl
    · simp (disch := omega) only [go_sem,reduceIte,Nat.reduceEqDiff,Nat.reduceLT, e0, e1, hlt, wrap_i64]
      rw [if_neg hlt, eu_fuel 1999 2000 _ _ (by omega) (by omega) (by omega) (by omega)] at hgo
      refine hJ _ _ _ ?_ ⟨x, y - min x y, l ++ [min x y], A3, by omega, by omega, by omega, by omega, rfl, ?_, by simp only [go_sem,reduceIte,Nat.reduceEqDiff,Nat.reduceLT, e0], by simp only [go_sem,reduceIte,Nat.reduceEqDiff,Nat.reduceLT], by simp only [go_sem,reduceIte,Nat.reduceEqDiff,Nat.reduceLT], hs3, hpr'⟩
      · omega
      · rw [List.append_assoc, ← hl, hgo]; rfl
  · have hstop := eu_stop (k := 2000) hs
    rw [hstop, List.append_nil] at hl
    by_cases hs1 : 0 < x
    · have hs2 : ¬ 0 < y := fun h => hs ⟨hs1, h⟩
      simp (disch := omega) only [go_sem,reduceIte,Nat.reduceEqDiff,Nat.reduceLT, e0, e1, e5, hs1, hs2]
      exact hQ' _ _ ⟨hpr, A, by rw [← hl], by rw [← hl]; exact hsl⟩
    · simp (disch := omega) only [go_sem,reduceIte,Nat.reduceEqDiff,Nat.reduceLT, e0, e1, e5, hs1]
      exact hQ' _ _ ⟨hpr, A, by rw [← hl], by rw [← hl]; exact hsl⟩
end
end Go.Proofs.YtnhbkoeomefkdaaDoor.Ev.L

