/- The law HideCompounds. -/
import Derived.Test.YtnhbkoeomefkdaaDoorPmhN5
import Derived.Test.YtnhbkoeomefkdaaDoorPmhA8
set_option linter.unusedVariables false
set_option linter.unusedSimpArgs false
namespace Go.Proofs.YtnhbkoeomefkdaaDoor.Ev.L
open Go Go.Proofs Go.Proofs.YtnhbkoeomefkdaaDoor.Ev
noncomputable section

set_option maxRecDepth 100000 in
set_option maxHeartbeats 32000000 in
theorem law_HideCompounds {G lo hi c : Nat} {X : List Sq} {A : Option Addr} {h : H} (hG : G ≤ h.next) (hG3 : 3 ≤ G) (hhi : hi ≤ h.next) (ht : TabsIn tabs h.blks) (hv : SlV h.blks lo hi 3 X.length (sqc X) (.slice A X.length c)) (hn : X.length < 4611686018427387904) :
    Spec Tryd.prog (En G) 6 [.slice A X.length c] h fun w _ => w = .bool true := by
  have k0 : decide ((0 : Int) = 0) = true := rfl
  have k5 : decide ((5 : Int) = 5) = true := rfl
  have k00 : decide (((0 : Nat) : Int) = 0) = true := rfl
  refine CallsE_enter (En_known (by decide)) (En_f.trans Tryd.func6) rfl ⟨Nat.le_of_ble_eq_true rfl, by decide⟩ fun Q' hQ' => ?_
  simp only [Tryd.f6, go_sem,reduceIte,Nat.reduceEqDiff,Nat.reduceLT]
  refine CallO_f (few_spec (most := 10) hG hhi hv (by omega) hn) (by omega) fun u h1 ph1 ⟨A1, hu, hs1⟩ => ?_
  subst hu
  have n1 := ph1.next
  obtain ⟨k, hk⟩ : ∃ k, k = fewN X.length 10 := ⟨_, rfl⟩
  have hkn : k ≤ X.length := by rw [hk]; exact Nat.min_le_left _ _
  have hk1 : k ≤ 10 ∨ k = 25 := by rw [hk]; unfold fewN; split <;> omega
  rw [← hk] at hs1 ⊢
  obtain ⟨L, hL⟩ : ∃ L, L = X.take k := ⟨_, rfl⟩
  have hLl : L.length = k := by rw [hL, List.length_take]; omega
  rw [← hL] at hs1
  rw [← hLl] at hs1 hk1 ⊢
  clear hL hLl hk hkn
  have ht1 := ht.le ph1 (by omega)
  simp only [go_sem,reduceIte,Nat.reduceEqDiff,Nat.reduceLT]
  refine CallO_f (Compound_spec (by omega) hG3 (Nat.le_refl _) ht1 hs1 (by omega)) (by omega) fun u h2 ph2 hm => ?_
  have n2 := ph2.next
  have hs2 := hs1.mono (B' := h2.blks) fun b _ hb => ph2.get b hb
  have ht2 := ht1.le ph2 (by omega)
  have pr2 : Pres h.next h h2 := ph1.trans (ph2.le (by omega))
  rcases hm with ⟨he, hu⟩ | ⟨he, hl0, hu⟩ | ⟨he, hl0, B, hu, hsB⟩
  · subst hu
    simp only [go_sem,reduceIte,Nat.reduceEqDiff,Nat.reduceLT]
    refine CallO_f (Check_spec (by omega) (by omega) hs2 (by omega)) (by omega) fun u h3 ph3 hu => ?_
    subst hu
    have n3 := ph3.next
    have ht3 := ht2.le ph3 (by omega)
    have kc : decide (chk L = 0) = false := decide_eq_false he
    have kcc : decide (chk L = chk L) = true := decide_eq_true rfl
    simp only [go_sem,reduceIte,Nat.reduceEqDiff,Nat.reduceLT, kc, kcc, k00, len27]
    refine Call_lives ht3 (by omega) ?_
    simp only [go_sem,reduceIte,Nat.reduceEqDiff,Nat.reduceLT]
    exact hQ' _ _ ⟨pr2.trans (ph3.le (by omega)), rfl⟩
  · subst hu
    obtain ⟨hl24, hok, hcov⟩ := chk_zero he
    obtain ⟨hmk, hw, hh⟩ := Mk_of_chk he
    have hlr : lpt L = rb L := lpt_rbest hmk hw hh
    simp only [go_sem,reduceIte,Nat.reduceEqDiff,Nat.reduceLT]
    refine CallO_f (Check_spec (by omega) (by omega) hs2 (by omega)) (by omega) fun u h3 ph3 hu => ?_
    subst hu
    rw [he]
    have n3 := ph3.next
    have hs3 := hs2.mono (B' := h3.blks) fun b _ hb => ph3.get b (by omega)
    have ht3 := ht2.le ph3 (by omega)
    simp only [go_sem,reduceIte,Nat.reduceEqDiff,Nat.reduceLT, k0]
    refine CallO_f (refCompound_spec (by omega) (by omega) hs3 (by omega) he) (by omega) fun u h4 ph4 ⟨B4, hu, hnil, hs4⟩ => ?_
    subst hu
    have n4 := ph4.next
    have ht4 := ht3.le ph4 (by omega)
    rw [← hlr, hl0] at hnil
    obtain rfl := hnil rfl
    have e0 : (rb L).length = 0 := by rw [← hlr, hl0]; rfl
    have hnN : binO Tryd.prog (En G) .neq 27 (some (.slice none (rb L).length (rb L).length)) (some (.slice none 0 0)) = some (.bool false) := neqNil27
    simp only [go_sem,reduceIte,Nat.reduceEqDiff,Nat.reduceLT, hnN, k00, k5, len27]
    refine Call_lives ht4 (by omega) ?_
    simp only [go_sem,reduceIte,Nat.reduceEqDiff,Nat.reduceLT]
    exact hQ' _ _ ⟨pr2.trans ((ph3.le (by omega)).trans (ph4.le (by omega))), rfl⟩
  · subst hu
    obtain ⟨hl24, hok, hcov⟩ := chk_zero he
    obtain ⟨hmk, hw, hh⟩ := Mk_of_chk he
    have hlr : lpt L = rb L := lpt_rbest hmk hw hh
    simp only [go_sem,reduceIte,Nat.reduceEqDiff,Nat.reduceLT]
    refine CallO_f (Check_spec (by omega) (by omega) hs2 (by omega)) (by omega) fun u h3 ph3 hu => ?_
    subst hu
    rw [he]
    have n3 := ph3.next
    have hs3 := hs2.mono (B' := h3.blks) fun b _ hb => ph3.get b (by omega)
    have ht3 := ht2.le ph3 (by omega)
    simp only [go_sem,reduceIte,Nat.reduceEqDiff,Nat.reduceLT, k0]
    refine CallO_f (refCompound_spec (by omega) (by omega) hs3 (by omega) he) (by omega) fun u h4 ph4 ⟨B4, hu, hnil, hs4⟩ => ?_
    subst hu
    have n4 := ph4.next
    have ht4 := ht3.le ph4 (by omega)
    rw [← hlr] at hnil hs4 ⊢
    have hpos : 0 < (lpt L).length := List.length_pos_iff.2 hl0
    have hlr24 : (lpt L).length ≤ 24 := by
      rw [hlr]
      rcases rb_cand (O := ordSq L) (2 ^ (ordSq L).length - 2) with g | ⟨m', _, _, g, _⟩
      · show (rbest _ _).length ≤ 24
        rw [g]; simp
      · show (rbest _ _).length ≤ 24
        rw [g]
        have := som_le (i := (ordSq L).length) (m := m')
        have := (ordSq_perm (L := L)).length_eq
        omega
    obtain ⟨b4, o4, rfl, _, _, _⟩ := hs4.at_ hpos
    have hsB4 := hsB.mono (B' := h4.blks) fun b _ hb => (ph4.get b (by omega)).trans (ph3.get b (by omega))
    have hnN : binO Tryd.prog (En G) .neq 27 (some (.slice (some ⟨b4, o4, none⟩) (lpt L).length (lpt L).length)) (some (.slice none 0 0)) = some (.bool true) := neqNil27
    simp only [go_sem,reduceIte,Nat.reduceEqDiff,Nat.reduceLT, hnN]
    refine CallO_f (same_spec hsB4 hs4 (by omega) (Nat.le_refl _) (by omega) (by omega)) (by omega) fun u h5 ph5 hu => ?_
    subst hu
    have n5 := ph5.next
    have ht5 := ht4.le ph5 (by omega)
    simp only [go_sem,reduceIte,Nat.reduceEqDiff,Nat.reduceLT, k0]
    refine Call_lives ht5 (by omega) ?_
    simp only [go_sem,reduceIte,Nat.reduceEqDiff,Nat.reduceLT]
    exact hQ' _ _ ⟨pr2.trans ((ph3.le (by omega)).trans ((ph4.le (by omega)).trans (ph5.le (by omega)))), rfl⟩
end
end Go.Proofs.YtnhbkoeomefkdaaDoor.Ev.L

