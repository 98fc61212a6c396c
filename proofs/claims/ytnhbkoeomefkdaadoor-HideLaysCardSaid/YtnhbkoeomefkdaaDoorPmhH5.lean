/- The law HideEuclids. -/
import Derived.Test.YtnhbkoeomefkdaaDoorPmhH4
set_option linter.unusedSimpArgs false
set_option linter.unusedVariables false
namespace Go.Proofs.YtnhbkoeomefkdaaDoor.Ev.L
open Go Go.Proofs Go.Proofs.YtnhbkoeomefkdaaDoor.Ev
noncomputable section

theorem nat0 : (((0 : Nat) : Int) = 0) = True := by simp
set_option maxHeartbeats 4000000 in
theorem law_HideEuclids {G : Nat} {w h : Int} {h0 : H} (hG : G ≤ h0.next) (h3 : 3 ≤ h0.next) (ht : TabsIn tabs h0.blks) :
    Spec Tryd.prog (En G) 8 [.int .i64 w, .int .i64 h] h0 fun v _ => v = .bool true := by
  refine CallsE_enter (En_known (by decide)) (En_f.trans Tryd.func8) rfl ⟨Nat.le_of_ble_eq_true rfl, by decide⟩ fun Q' hQ' => ?_
  simp only [Tryd.f8, go_sem,reduceIte,Nat.reduceEqDiff,Nat.reduceLT]
  by_cases hok : (1 ≤ w ∧ w ≤ 1000) ∧ (1 ≤ h ∧ h ≤ 1000)
  · obtain ⟨hw, hh⟩ := hok
    have w1 : ¬ w < 1 := by omega
    have w2 : ¬ 1000 < w := by omega
    have g1 : ¬ h < 1 := by omega
    have g2 : ¬ 1000 < h := by omega
    refine CallO_f (hideEuclid_ok hG hw hh) (by omega) fun v h1 hp hv => ?_
    have ht1 := ht.le hp h3
    have hn1 := hp.next
    rcases hv with ⟨hlen, A, rfl, hsl⟩ | ⟨hlen, rfl⟩
    · simp only [go_sem,reduceIte,Nat.reduceEqDiff,Nat.reduceLT, w1, w2, g1, g2]
      refine CallO_f (refEuclid_spec (by omega) hw hh) (by omega) fun v h2 hp2 hv => ?_
      obtain ⟨b, rfl, hs2⟩ := hv
      have ht2 := ht1.le hp2 (by omega)
      have hn2 := hp2.next
      have hle : ¬ (24 : Int) < ((eu 2000 w h).length : Int) := by omega
      simp only [go_sem,reduceIte,Nat.reduceEqDiff,Nat.reduceLT, len27, hle, ne_eq, not_true_eq_false]
      refine CallO_f (refEuclid_spec (by omega) hw hh) (by omega) fun v h4 hp4 hv => ?_
      obtain ⟨b', rfl, hs4⟩ := hv
      have ht4 := ht2.le hp4 (by omega)
      have hn4 := hp4.next
      simp only [go_sem,reduceIte,Nat.reduceEqDiff,Nat.reduceLT]
      have hsl4 : SlV h4.blks h0.next h1.next 1 (eu 2000 w h).length (ints (eu 2000 w h)) (.slice A (eu 2000 w h).length (eu 2000 w h).length) :=
        hsl.mono fun x _ hx => (hp4.get x (by omega)).trans (hp2.get x hx)
      have hbd := eu_len 2000 w h
      refine CallO_f (same_spec hsl4 hs4 (by omega) (by omega) (by omega) (by omega)) (by omega) fun v h5 hp5 hv => ?_
      subst hv
      have ht5 := ht4.le hp5 (by omega)
      have hn5 := hp5.next
      simp only [go_sem,reduceIte,Nat.reduceEqDiff,Nat.reduceLT]
      refine Call_lives ht5 (by omega) ?_
      simp only [go_sem,reduceIte,Nat.reduceEqDiff,Nat.reduceLT]
      exact hQ' _ _ ⟨hp.trans ((hp2.le hn1).trans ((hp4.le (by omega)).trans (hp5.le (by omega)))), rfl⟩
    · simp only [go_sem,reduceIte,Nat.reduceEqDiff,Nat.reduceLT, w1, w2, g1, g2]
      refine CallO_f (refEuclid_spec (by omega) hw hh) (by omega) fun v h2 hp2 hv => ?_
      obtain ⟨b, rfl, hs2⟩ := hv
      have ht2 := ht1.le hp2 (by omega)
      have hle : (24 : Int) < ((eu 2000 w h).length : Int) := by omega
      have hne : ¬ (3 : Int) = 0 := by omega
      simp only [go_sem,reduceIte,Nat.reduceEqDiff,Nat.reduceLT, len27, hle, ne_eq, hne, not_false_eq_true, nat0]
      refine Call_lives ht2 (by omega) ?_
      simp only [go_sem,reduceIte,Nat.reduceEqDiff,Nat.reduceLT]
      exact hQ' _ _ ⟨hp.trans (hp2.le hn1), rfl⟩
  · refine CallO_f (hideEuclid_bad hok) (by omega) fun v h1 hp hv => ?_
    subst hv
    have ht1 := ht.le hp h3
    have hne : ¬ (1 : Int) = 0 := by omega
    have hor : w < 1 ∨ ¬ w < 1 ∧ 1000 < w ∨ ¬ w < 1 ∧ ¬ 1000 < w ∧ h < 1 ∨ ¬ w < 1 ∧ ¬ 1000 < w ∧ ¬ h < 1 ∧ 1000 < h := by omega
    rcases hor with c1 | ⟨c1, c2⟩ | ⟨c1, c2, c3⟩ | ⟨c1, c2, c3, c4⟩
    · simp only [go_sem,reduceIte,Nat.reduceEqDiff,Nat.reduceLT, len27, c1, ne_eq, hne, not_false_eq_true, nat0]
      refine Call_lives ht1 (by omega) ?_
      simp only [go_sem,reduceIte,Nat.reduceEqDiff,Nat.reduceLT]
      exact hQ' _ _ ⟨hp, rfl⟩
    · simp only [go_sem,reduceIte,Nat.reduceEqDiff,Nat.reduceLT, len27, c1, c2, ne_eq, hne, not_false_eq_true, nat0]
      refine Call_lives ht1 (by omega) ?_
      simp only [go_sem,reduceIte,Nat.reduceEqDiff,Nat.reduceLT]
      exact hQ' _ _ ⟨hp, rfl⟩
    · simp only [go_sem,reduceIte,Nat.reduceEqDiff,Nat.reduceLT, len27, c1, c2, c3, ne_eq, hne, not_false_eq_true, nat0]
      refine Call_lives ht1 (by omega) ?_
      simp only [go_sem,reduceIte,Nat.reduceEqDiff,Nat.reduceLT]
      exact hQ' _ _ ⟨hp, rfl⟩
    · simp only [go_sem,reduceIte,Nat.reduceEqDiff,Nat.reduceLT, len27, c1, c2, c3, c4, ne_eq, hne, not_false_eq_true, nat0]
      refine Call_lives ht1 (by omega) ?_
      simp only [go_sem,reduceIte,Nat.reduceEqDiff,Nat.reduceLT]
      exact hQ' _ _ ⟨hp, rfl⟩
end
end Go.Proofs.YtnhbkoeomefkdaaDoor.Ev.L

