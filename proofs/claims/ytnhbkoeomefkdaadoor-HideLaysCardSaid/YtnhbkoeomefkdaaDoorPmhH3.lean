/- The program's Euclid. -/
import Derived.Test.YtnhbkoeomefkdaaDoorPmhH2
set_option linter.unusedSimpArgs false
set_option linter.unusedVariables false
namespace Go.Proofs.YtnhbkoeomefkdaaDoor.Ev.L
open Go Go.Proofs Go.Proofs.YtnhbkoeomefkdaaDoor.Ev
noncomputable section

theorem hideEuclid_bad {G : Nat} {w h : Int} {h0 : H} (hbad : ¬ ((1 ≤ w ∧ w ≤ 1000) ∧ (1 ≤ h ∧ h ≤ 1000))) :
    Spec Tryd.prog (En G) 32 [.int .i64 w, .int .i64 h] h0 fun v _ => v = .tuple #[.slice none 0 0, .int .i64 1] := by
  refine CallsE_enter (En_known (by decide)) (En_f.trans Tryd.func32) rfl ⟨Nat.le_of_ble_eq_true rfl, by decide⟩ fun Q' hQ' => ?_
  simp only [Tryd.f32, go_sem,reduceIte,Nat.reduceEqDiff,Nat.reduceLT]
  refine At_lit (vs := [(0, .int .i64 w), (1, .int .i64 h)]) (cs := #[.int .i64 w, .int .i64 h]) u27 i3 zero3 (by rw [size3]; rfl) (by simp only [go_sem,reduceIte,Nat.reduceEqDiff,Nat.reduceLT]) (by rw [size3]; rfl) (by omega) fun h1 hn => ?_
  rw [size3] at hn
  simp only [go_sem,reduceIte,Nat.reduceEqDiff,Nat.reduceLT]
  refine CallO_f (areSides_spec (l := [w, h]) (hn.slv rfl) (by omega)) (by omega) fun v h2 hp hv => ?_
  subst hv
  have hall : [w, h].all sideOk = false := by
    simp only [List.all_cons, List.all_nil, sideOk, Bool.and_true]
    rw [Bool.eq_false_iff]
    simp only [ne_eq, Bool.and_eq_true, decide_eq_true_eq]
    exact hbad
  simp only [go_sem,reduceIte,Nat.reduceEqDiff,Nat.reduceLT, hall]
  exact hQ' _ _ ⟨(hn.pres (Nat.le_refl _)).trans (hp.le (by have := hn.next; omega)), rfl⟩

set_option maxHeartbeats 4000000 in
theorem hideEuclid_ok {G : Nat} {w h : Int} {h0 : H} (hG : G ≤ h0.next) (hw : 1 ≤ w ∧ w ≤ 1000) (hh : 1 ≤ h ∧ h ≤ 1000) :
    Spec Tryd.prog (En G) 32 [.int .i64 w, .int .i64 h] h0 fun v h' =>
      ((eu 2000 w h).length ≤ 24 ∧ ∃ A, v = .tuple #[.slice A (eu 2000 w h).length (eu 2000 w h).length, .int .i64 0] ∧ SlV h'.blks h0.next h'.next 1 (eu 2000 w h).length (ints (eu 2000 w h)) (.slice A (eu 2000 w h).length (eu 2000 w h).length)) ∨
      (24 < (eu 2000 w h).length ∧ v = .tuple #[.slice none 0 0, .int .i64 3]) := by
  refine CallsE_enter (En_known (by decide)) (En_f.trans Tryd.func32) rfl ⟨Nat.le_of_ble_eq_true rfl, by decide⟩ fun Q' hQ' => ?_
  simp only [Tryd.f32, go_sem,reduceIte,Nat.reduceEqDiff,Nat.reduceLT]
  refine At_lit (vs := [(0, .int .i64 w), (1, .int .i64 h)]) (cs := #[.int .i64 w, .int .i64 h]) u27 i3 zero3 (by rw [size3]; rfl) (by simp only [go_sem,reduceIte,Nat.reduceEqDiff,Nat.reduceLT]) (by rw [size3]; rfl) (by omega) fun h1 hn => ?_
  rw [size3] at hn
  simp only [go_sem,reduceIte,Nat.reduceEqDiff,Nat.reduceLT]
  refine CallO_f (areSides_spec (l := [w, h]) (hn.slv rfl) (by omega)) (by omega) fun v h2 hp hv => ?_
  subst hv
  have hall : [w, h].all sideOk = true := by
    simp only [List.all_cons, List.all_nil, sideOk, Bool.and_true, Bool.and_eq_true, decide_eq_true_eq]
    exact ⟨hw, hh⟩
  simp only [go_sem,reduceIte,Nat.reduceEqDiff,Nat.reduceLT, hall]
  have hpr0 : Pres h0.next h0 h2 := (hn.pres (Nat.le_refl _)).trans (hp.le (by have := hn.next; omega))
  refine WK_loopN (fun j α h2 => ∃ (x y : Int) (l : List Int) (A : Option Addr), 0 ≤ x ∧ x ≤ 1000 ∧ 0 ≤ y ∧ y ≤ 1000 ∧ j = (x + y).toNat ∧ l ++ eu 2000 x y = eu 2000 w h ∧ l.length ≤ 24 ∧ α.get 0 = some (.int .i64 x) ∧ α.get 1 = some (.int .i64 y) ∧
      α.get 6 = some (.slice A l.length l.length) ∧ SlV h2.blks h0.next h2.next 1 l.length (ints l) (.slice A l.length l.length) ∧ Pres h0.next h0 h2) (w + h).toNat
    ⟨w, h, [], none, by omega, by omega, by omega, by omega, rfl, rfl, by simp, by simp only [go_sem,reduceIte,Nat.reduceEqDiff,Nat.reduceLT], by simp only [go_sem,reduceIte,Nat.reduceEqDiff,Nat.reduceLT], by simp only [go_sem,reduceIte,Nat.reduceEqDiff,Nat.reduceLT]; rfl, .nil rfl rfl, hpr0⟩ (by omega) ?_
  clear hpr0 hp hn h1 h2 hall
  rintro J j α h2 ⟨x, y, l, A, hx0, hx1, hy0, hy1, rfl, hl, hl24, e0, e1, e6, hsl, hpr⟩ hJ
  by_cases hs : 0 < x ∧ 0 < y
  · obtain ⟨hs1, hs2⟩ := hs
    have hgo := eu_go (k := 2000) ⟨hs1, hs2⟩ (by omega)
    have hlong : l.length < (eu 2000 w h).length := by
      rw [← hl, hgo]; simp
    by_cases h24 : (l.length : Int) = 24
    · simp (disch := omega) only [go_sem,reduceIte,Nat.reduceEqDiff,Nat.reduceLT, e0, e1, e6, hs1, hs2, len27, h24]
      exact hQ' _ _ ⟨hpr, .inr ⟨by omega, rfl⟩⟩
    · simp (disch := omega) only [go_sem,reduceIte,Nat.reduceEqDiff,Nat.reduceLT, e0, e1, e6, hs1, hs2, len27, h24]
      have nx := hpr.next
      refine At_pushI (lo := h0.next) (hi := h2.next) (l := l) (z := min x y) (by (simp only [go_sem,reduceIte,Nat.reduceEqDiff,Nat.reduceLT]) <;> rfl) (by simp only [go_sem,reduceIte,Nat.reduceEqDiff,Nat.reduceLT, e6]) hsl (by omega) (by omega) (by omega) (by omega) (by decide) (by decide) (by decide) fun A3 h3 pr3 hs3 nx3 => ?_
      have hpr' := hpr.trans pr3
      by_cases hlt : y < x
      · simp (disch := omega) only [go_sem,reduceIte,Nat.reduceEqDiff,Nat.reduceLT, e0, e1, hlt, wrap_i64]
        rw [if_pos hlt, eu_fuel 1999 2000 _ _ (by omega) (by omega) (by omega) (by omega)] at hgo
        refine hJ _ _ _ ?_ ⟨x - min x y, y, l ++ [min x y], A3, by omega, by omega, by omega, by omega, rfl, ?_, by simp only [List.length_append, List.length_singleton]; omega, by simp only [go_sem,reduceIte,Nat.reduceEqDiff,Nat.reduceLT], by simp only [go_sem,reduceIte,Nat.reduceEqDiff,Nat.reduceLT, e1], by simp only [go_sem,reduceIte,Nat.reduceEqDiff,Nat.reduceLT], hs3, hpr'⟩
        · omega
        · rw [List.append_assoc, ← hl, hgo]; rfl
      · simp (disch := omega) only [go_sem,reduceIte,Nat.reduceEqDiff,Nat.reduceLT, e0, e1, hlt, wrap_i64]
        rw [if_neg hlt, eu_fuel 1999 2000 _ _ (by omega) (by omega) (by omega) (by omega)] at hgo
        refine hJ _ _ _ ?_ ⟨x, y - min x y, l ++ [min x y], A3, by omega, by omega, by omega, by omega, rfl, ?_, by simp only [List.length_append, List.length_singleton]; omega, by simp only [go_sem,reduceIte,Nat.reduceEqDiff,Nat.reduceLT, e0], by simp only [go_sem,reduceIte,Nat.reduceEqDiff,Nat.reduceLT], by simp only [go_sem,reduceIte,Nat.reduceEqDiff,Nat.reduceLT], hs3, hpr'⟩
        · omega
        · rw [List.append_assoc, ← hl, hgo]; rfl
  · have hstop := eu_stop (k := 2000) hs
    rw [hstop, List.append_nil] at hl
    subst hl
    by_cases hs1 : 0 < x
    · have hs2 : ¬ 0 < y := fun h => hs ⟨hs1, h⟩
      simp (disch := omega) only [go_sem,reduceIte,Nat.reduceEqDiff,Nat.reduceLT, e0, e1, e6, hs1, hs2]
      exact hQ' _ _ ⟨hpr, .inl ⟨hl24, A, rfl, hsl⟩⟩
    · simp (disch := omega) only [go_sem,reduceIte,Nat.reduceEqDiff,Nat.reduceLT, e0, e1, e6, hs1]
      exact hQ' _ _ ⟨hpr, .inl ⟨hl24, A, rfl, hsl⟩⟩
end
end Go.Proofs.YtnhbkoeomefkdaaDoor.Ev.L

