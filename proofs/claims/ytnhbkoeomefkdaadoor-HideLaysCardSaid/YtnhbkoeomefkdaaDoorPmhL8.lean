/- The law HideLays. -/
import Derived.Test.YtnhbkoeomefkdaaDoorPmhL7
set_option linter.unusedSimpArgs false
set_option linter.unusedVariables false
namespace Go.Proofs.YtnhbkoeomefkdaaDoor.Ev.L
open Go Go.Proofs Go.Proofs.YtnhbkoeomefkdaaDoor.Ev
noncomputable section

set_option maxHeartbeats 16000000 in
theorem law_HideLays {G lo hi n c : Nat} {w : Int} {A : Option Addr} {L : List Int} {h0 : H} (h3 : 3 ≤ h0.next) (hG : G ≤ h0.next) (ht : TabsIn tabs h0.blks) (hv : SlV h0.blks lo hi 1 n (ints L) (.slice A n c)) (hhi : hi ≤ h0.next) :
    Spec Tryd.prog (En G) 4 [.int .i64 w, .slice A n c] h0 fun v _ => v = .bool true := by
  have d0 : decide (((0 : Nat) : Int) = 0) = true := rfl
  have d30 : decide ((3 : Int) = 0) = false := rfl
  have d33 : decide ((3 : Int) = 3) = true := rfl
  have d10 : decide ((1 : Int) = 0) = false := rfl
  have d11 : decide ((1 : Int) = 1) = true := rfl
  have d00 : decide ((0 : Int) = 0) = true := rfl
  have d55 : decide ((5 : Int) = 5) = true := rfl
  refine CallsE_enter (En_known (by decide)) (En_f.trans Tryd.func4) rfl ⟨Nat.le_of_ble_eq_true rfl, by decide⟩ fun Q' hQ' => ?_
  obtain ⟨m, hmn, hm25, hmin⟩ : ∃ m : Nat, m ≤ n ∧ m ≤ 25 ∧ min (n : Int) 25 = (m : Int) := ⟨min n 25, by omega, by omega, by omega⟩
  simp only [Tryd.f4, go_sem,reduceIte,Nat.reduceEqDiff,Nat.reduceLT]
  refine At_lit0 u27 i3 zero3 (by rw [size3]; rfl) (by omega) ?_
  obtain ⟨A', c', hsl, hv1'⟩ := sliceO_take (E := En G) (kd := .i64) (m := m) u27 i3 size3 hv hmn
  obtain ⟨M, hM⟩ : ∃ M : List Int, ints M = (ints L).take (m * 1) := ⟨L.take m, by simp [ints, List.map_take]⟩
  rw [← hM] at hv1'
  have hMl : M.length = m := by have := hv1'.len; rw [ints_len] at this; omega
  simp only [go_sem,reduceIte,Nat.reduceEqDiff,Nat.reduceLT, len27, hmin, Option.toList_some, Option.toList_none, hsl]
  refine At_appendF (M := ints M) (m := m) (v := .slice A' m c') u27 u27 i3 zero3 (by rw [size3, bytes3]; rfl) (by simp only [go_sem,reduceIte,Nat.reduceEqDiff,Nat.reduceLT]) (by simp only [go_sem,reduceIte,Nat.reduceEqDiff,Nat.reduceLT]) (by rw [size3]; exact hv1') (by omega) (by simp [ints, oneB]) (by omega) fun A2 h2 pr2 hs2 => ?_
  rw [size3] at hs2
  have n2 := pr2.next
  have pr02 : Pres h0.next h0 h2 := pr2
  obtain ⟨c2, hc2⟩ : ∃ c2, c2 = m := ⟨_, rfl⟩
  rw [show Value.slice A2 m m = .slice A2 m c2 by rw [hc2]] at hs2 ⊢
  simp only [go_sem,reduceIte,Nat.reduceEqDiff,Nat.reduceLT]
  refine CallO_f (hideLay_spec (w := w) (by omega) hs2 (Nat.le_refl _) hm25) (by omega) fun u h4 hp4 hu => ?_
  have n4 := hp4.next
  have pr04 : Pres h0.next h0 h4 := pr02.trans (hp4.le (by omega))
  have ht4 := ht.le pr04 h3
  have hs4 : SlV h4.blks h0.next h2.next 1 m (ints M) (.slice A2 m c2) := hs2.mono fun b _ hb => hp4.get b hb
  rcases hu with ⟨g24, rfl⟩ | ⟨g24, gbad, rfl⟩ | ⟨g24, ⟨gne, gw, gL⟩, gno, rfl⟩ | ⟨g24, ⟨gne, gw, gL⟩, sq, B, gsq, rfl, hsq⟩
  · have d24 : decide ((24 : Int) < m) = true := decide_eq_true (by omega)
    have d0m : decide ((0 : Int) < m) = true := decide_eq_true (by omega)
    simp only [go_sem,reduceIte,Nat.reduceEqDiff,Nat.reduceLT, len27, d24]
    refine WK_loopN (fun j α h5 => h5 = h4 ∧ α.get 5 = some (.slice A2 m c2) ∧ α.get 6 = some (.slice none 0 0) ∧ α.get 7 = some (.int .i64 3) ∧ α.get 8 = some (.int .i64 3) ∧ α.get 9 = some (.int .i64 0)) 0
      ⟨rfl, by simp only [go_sem,reduceIte,Nat.reduceEqDiff,Nat.reduceLT], by simp only [go_sem,reduceIte,Nat.reduceEqDiff,Nat.reduceLT], by simp only [go_sem,reduceIte,Nat.reduceEqDiff,Nat.reduceLT], by simp only [go_sem,reduceIte,Nat.reduceEqDiff,Nat.reduceLT], by simp only [go_sem,reduceIte,Nat.reduceEqDiff,Nat.reduceLT]⟩ (by decide) ?_
    rintro J j α h5 ⟨rfl, e5, e6, e7, e8, e9⟩ _
    simp only [go_sem,reduceIte,Nat.reduceEqDiff,Nat.reduceLT, e5, e6, e7, e8, e9, len27, len22, d0m, d30, d33, d0]
    refine Call_lives ht4 (by omega) ?_
    simp only [go_sem,reduceIte,Nat.reduceEqDiff,Nat.reduceLT]
    exact hQ' _ _ ⟨pr04, rfl⟩
  · have d24 : decide ((24 : Int) < m) = false := decide_eq_false (by omega)
    by_cases hm0 : m = 0
    · have dm0 : decide ((m : Int) = 0) = true := decide_eq_true (by omega)
      have d0m : decide ((0 : Int) < m) = false := decide_eq_false (by omega)
      simp only [go_sem,reduceIte,Nat.reduceEqDiff,Nat.reduceLT, len27, d24, dm0]
      refine WK_loopN (fun j α h5 => h5 = h4 ∧ α.get 5 = some (.slice A2 m c2) ∧ α.get 6 = some (.slice none 0 0) ∧ α.get 7 = some (.int .i64 1) ∧ α.get 8 = some (.int .i64 1) ∧ α.get 9 = some (.int .i64 0)) 0
        ⟨rfl, by simp only [go_sem,reduceIte,Nat.reduceEqDiff,Nat.reduceLT], by simp only [go_sem,reduceIte,Nat.reduceEqDiff,Nat.reduceLT], by simp only [go_sem,reduceIte,Nat.reduceEqDiff,Nat.reduceLT], by simp only [go_sem,reduceIte,Nat.reduceEqDiff,Nat.reduceLT], by simp only [go_sem,reduceIte,Nat.reduceEqDiff,Nat.reduceLT]⟩ (by decide) ?_
      rintro J j α h5 ⟨rfl, e5, e6, e7, e8, e9⟩ _
      simp only [go_sem,reduceIte,Nat.reduceEqDiff,Nat.reduceLT, e5, e6, e7, e8, e9, len27, len22, d0m, d10, d11, d0]
      refine Call_lives ht4 (by omega) ?_
      simp only [go_sem,reduceIte,Nat.reduceEqDiff,Nat.reduceLT]
      exact hQ' _ _ ⟨pr04, rfl⟩
    · have dm0 : decide ((m : Int) = 0) = false := decide_eq_false (by omega)
      have d0m : decide ((0 : Int) < m) = true := decide_eq_true (by omega)
      by_cases hw1 : w < 1
      · simp only [go_sem,reduceIte,Nat.reduceEqDiff,Nat.reduceLT, len27, d24, dm0, hw1]
        refine WK_loopN (fun j α h5 => h5 = h4 ∧ α.get 5 = some (.slice A2 m c2) ∧ α.get 6 = some (.slice none 0 0) ∧ α.get 7 = some (.int .i64 1) ∧ α.get 8 = some (.int .i64 1) ∧ α.get 9 = some (.int .i64 0)) 0
          ⟨rfl, by simp only [go_sem,reduceIte,Nat.reduceEqDiff,Nat.reduceLT], by simp only [go_sem,reduceIte,Nat.reduceEqDiff,Nat.reduceLT], by simp only [go_sem,reduceIte,Nat.reduceEqDiff,Nat.reduceLT], by simp only [go_sem,reduceIte,Nat.reduceEqDiff,Nat.reduceLT], by simp only [go_sem,reduceIte,Nat.reduceEqDiff,Nat.reduceLT]⟩ (by decide) ?_
        rintro J j α h5 ⟨rfl, e5, e6, e7, e8, e9⟩ _
        simp only [go_sem,reduceIte,Nat.reduceEqDiff,Nat.reduceLT, e5, e6, e7, e8, e9, len27, len22, d0m, d10, d11, d0]
        refine Call_lives ht4 (by omega) ?_
        simp only [go_sem,reduceIte,Nat.reduceEqDiff,Nat.reduceLT]
        exact hQ' _ _ ⟨pr04, rfl⟩
      · by_cases hw2 : 1000 < w
        · simp only [go_sem,reduceIte,Nat.reduceEqDiff,Nat.reduceLT, len27, d24, dm0, hw1, hw2]
          refine WK_loopN (fun j α h5 => h5 = h4 ∧ α.get 5 = some (.slice A2 m c2) ∧ α.get 6 = some (.slice none 0 0) ∧ α.get 7 = some (.int .i64 1) ∧ α.get 8 = some (.int .i64 1) ∧ α.get 9 = some (.int .i64 0)) 0
            ⟨rfl, by simp only [go_sem,reduceIte,Nat.reduceEqDiff,Nat.reduceLT], by simp only [go_sem,reduceIte,Nat.reduceEqDiff,Nat.reduceLT], by simp only [go_sem,reduceIte,Nat.reduceEqDiff,Nat.reduceLT], by simp only [go_sem,reduceIte,Nat.reduceEqDiff,Nat.reduceLT], by simp only [go_sem,reduceIte,Nat.reduceEqDiff,Nat.reduceLT]⟩ (by decide) ?_
          rintro J j α h5 ⟨rfl, e5, e6, e7, e8, e9⟩ _
          simp only [go_sem,reduceIte,Nat.reduceEqDiff,Nat.reduceLT, e5, e6, e7, e8, e9, len27, len22, d0m, d10, d11, d0]
          refine Call_lives ht4 (by omega) ?_
          simp only [go_sem,reduceIte,Nat.reduceEqDiff,Nat.reduceLT]
          exact hQ' _ _ ⟨pr04, rfl⟩
        · have gall : ¬ M.all sideOk = true := fun h => gbad ⟨fun e => by subst e; simp at hMl; omega, sideOk_iff.2 ⟨by omega, by omega⟩, h⟩
          simp only [go_sem,reduceIte,Nat.reduceEqDiff,Nat.reduceLT, len27, d24, dm0, hw1, hw2]
          refine WK_loopN (fun j α h5 => ∃ (k : Nat) (bad : Int), k + j = m ∧ h5 = h4 ∧ (bad = 0 ∧ (M.take k).all sideOk = true ∨ bad = 1) ∧ α.get 5 = some (.slice A2 m c2) ∧ α.get 6 = some (.slice none 0 0) ∧ α.get 7 = some (.int .i64 1) ∧ α.get 8 = some (.int .i64 bad) ∧ α.get 9 = some (.int .i64 k)) m
            ⟨0, 0, by omega, rfl, .inl ⟨rfl, by simp⟩, by simp only [go_sem,reduceIte,Nat.reduceEqDiff,Nat.reduceLT], by simp only [go_sem,reduceIte,Nat.reduceEqDiff,Nat.reduceLT], by simp only [go_sem,reduceIte,Nat.reduceEqDiff,Nat.reduceLT], by simp only [go_sem,reduceIte,Nat.reduceEqDiff,Nat.reduceLT], by (simp only [go_sem,reduceIte,Nat.reduceEqDiff,Nat.reduceLT]) <;> rfl⟩ (by omega) ?_
          rintro J j α h5 ⟨k, bad, hk, rfl, hbad, e5, e6, e7, e8, e9⟩ hJ
          rcases hbad with ⟨rfl, hpre⟩ | rfl
          · have hkm : k < m := by
              rcases Nat.lt_or_ge k m with h | h
              · exact h
              · rw [List.take_of_length_le (by omega)] at hpre; exact absurd hpre gall
            have dkm : decide ((k : Int) < m) = true := decide_eq_true (by omega)
            obtain ⟨z, hz⟩ : ∃ z, M[k]? = some z := ⟨M[k]'(by omega), List.getElem?_eq_getElem (by omega)⟩
            obtain ⟨b, off, rfl, _, _, hld⟩ := hs4.at_ (by omega)
            have hld := hld k (by omega)
            rw [ints_get hz] at hld
            by_cases hlo : z < 1
            · simp (disch := omega) only [go_sem,reduceIte,Nat.reduceEqDiff,Nat.reduceLT, e5, e6, e7, e8, e9, len27, dkm, d00, idxA27, load3, Int.toNat_natCast, Nat.mul_one, hld, hlo, wrap_i64]
              exact hJ (j - 1) _ _ (by omega) ⟨k + 1, 1, by omega, rfl, .inr rfl, by simp only [go_sem,reduceIte,Nat.reduceEqDiff,Nat.reduceLT, e5], by simp only [go_sem,reduceIte,Nat.reduceEqDiff,Nat.reduceLT, e6], by simp only [go_sem,reduceIte,Nat.reduceEqDiff,Nat.reduceLT, e7], by simp only [go_sem,reduceIte,Nat.reduceEqDiff,Nat.reduceLT], by (simp only [go_sem,reduceIte,Nat.reduceEqDiff,Nat.reduceLT]) <;> rfl⟩
            · by_cases hhi2 : 1000 < z
              · simp (disch := omega) only [go_sem,reduceIte,Nat.reduceEqDiff,Nat.reduceLT, e5, e6, e7, e8, e9, len27, dkm, d00, idxA27, load3, Int.toNat_natCast, Nat.mul_one, hld, hlo, hhi2, wrap_i64]
                exact hJ (j - 1) _ _ (by omega) ⟨k + 1, 1, by omega, rfl, .inr rfl, by simp only [go_sem,reduceIte,Nat.reduceEqDiff,Nat.reduceLT, e5], by simp only [go_sem,reduceIte,Nat.reduceEqDiff,Nat.reduceLT, e6], by simp only [go_sem,reduceIte,Nat.reduceEqDiff,Nat.reduceLT, e7], by simp only [go_sem,reduceIte,Nat.reduceEqDiff,Nat.reduceLT], by (simp only [go_sem,reduceIte,Nat.reduceEqDiff,Nat.reduceLT]) <;> rfl⟩
              · simp (disch := omega) only [go_sem,reduceIte,Nat.reduceEqDiff,Nat.reduceLT, e5, e6, e7, e8, e9, len27, dkm, d00, idxA27, load3, Int.toNat_natCast, Nat.mul_one, hld, hlo, hhi2, wrap_i64]
                exact hJ (j - 1) _ _ (by omega) ⟨k + 1, 0, by omega, rfl, .inl ⟨rfl, all_step hpre hz (sideOk_iff.2 ⟨by omega, by omega⟩)⟩, by simp only [go_sem,reduceIte,Nat.reduceEqDiff,Nat.reduceLT, e5], by simp only [go_sem,reduceIte,Nat.reduceEqDiff,Nat.reduceLT, e6], by simp only [go_sem,reduceIte,Nat.reduceEqDiff,Nat.reduceLT, e7], by simp only [go_sem,reduceIte,Nat.reduceEqDiff,Nat.reduceLT, e8], by (simp only [go_sem,reduceIte,Nat.reduceEqDiff,Nat.reduceLT]) <;> rfl⟩
          · by_cases hkm : (k : Int) < m
            · simp only [go_sem,reduceIte,Nat.reduceEqDiff,Nat.reduceLT, e5, e6, e7, e8, e9, len27, len22, hkm, d10, d11, d0]
              refine Call_lives ht4 (by omega) ?_
              simp only [go_sem,reduceIte,Nat.reduceEqDiff,Nat.reduceLT]
              exact hQ' _ _ ⟨pr04, rfl⟩
            · simp only [go_sem,reduceIte,Nat.reduceEqDiff,Nat.reduceLT, e5, e6, e7, e8, e9, len27, len22, hkm, d10, d11, d0]
              refine Call_lives ht4 (by omega) ?_
              simp only [go_sem,reduceIte,Nat.reduceEqDiff,Nat.reduceLT]
              exact hQ' _ _ ⟨pr04, rfl⟩
  · have d24 : decide ((24 : Int) < m) = false := decide_eq_false (by omega)
    have hm0 : 0 < M.length := List.length_pos_iff.2 gne
    have dm0 : decide ((m : Int) = 0) = false := decide_eq_false (by omega)
    have gw' := sideOk_iff.1 gw
    have hw1 : ¬ w < 1 := by omega
    have hw2 : ¬ 1000 < w := by omega
    have gL' : ∀ z ∈ M, 1 ≤ z ∧ z ≤ 1000 := fun z hz => sideOk_iff.1 (List.all_eq_true.1 gL z hz)
    obtain ⟨w', rfl⟩ := Int.eq_ofNat_of_zero_le (a := w) (by omega)
    simp only [go_sem,reduceIte,Nat.reduceEqDiff,Nat.reduceLT, len27, d24, dm0, hw1, hw2]
    refine WK_loopN (fun j α h5 => ∃ k : Nat, k + j = m ∧ h5 = h4 ∧ α.get 0 = some (.int .i64 w') ∧ α.get 5 = some (.slice A2 m c2) ∧ α.get 6 = some (.slice none 0 0) ∧ α.get 7 = some (.int .i64 5) ∧ α.get 8 = some (.int .i64 0) ∧ α.get 9 = some (.int .i64 k)) m
      ⟨0, by omega, rfl, by simp only [go_sem,reduceIte,Nat.reduceEqDiff,Nat.reduceLT], by simp only [go_sem,reduceIte,Nat.reduceEqDiff,Nat.reduceLT], by simp only [go_sem,reduceIte,Nat.reduceEqDiff,Nat.reduceLT], by simp only [go_sem,reduceIte,Nat.reduceEqDiff,Nat.reduceLT], by simp only [go_sem,reduceIte,Nat.reduceEqDiff,Nat.reduceLT], by (simp only [go_sem,reduceIte,Nat.reduceEqDiff,Nat.reduceLT]) <;> rfl⟩ (by omega) ?_
    rintro J j α h5 ⟨k, hk, rfl, e0, e5, e6, e7, e8, e9⟩ hJ
    by_cases hkm : (k : Int) < m
    · obtain ⟨z, hz⟩ : ∃ z, M[k]? = some z := ⟨M[k]'(by omega), List.getElem?_eq_getElem (by omega)⟩
      obtain ⟨b, off, rfl, _, _, hld⟩ := hs4.at_ (by omega)
      have hld := hld k (by omega)
      rw [ints_get hz] at hld
      have hzb := gL' z (List.mem_of_getElem? hz)
      have hlo : ¬ z < 1 := by omega
      have hhi2 : ¬ 1000 < z := by omega
      simp (disch := omega) only [go_sem,reduceIte,Nat.reduceEqDiff,Nat.reduceLT, e0, e5, e6, e7, e8, e9, len27, hkm, d00, idxA27, load3, Int.toNat_natCast, Nat.mul_one, hld, hlo, hhi2, wrap_i64]
      exact hJ (j - 1) _ _ (by omega) ⟨k + 1, by omega, rfl, by simp only [go_sem,reduceIte,Nat.reduceEqDiff,Nat.reduceLT, e0], by simp only [go_sem,reduceIte,Nat.reduceEqDiff,Nat.reduceLT, e5], by simp only [go_sem,reduceIte,Nat.reduceEqDiff,Nat.reduceLT, e6], by simp only [go_sem,reduceIte,Nat.reduceEqDiff,Nat.reduceLT, e7], by simp only [go_sem,reduceIte,Nat.reduceEqDiff,Nat.reduceLT, e8], by (simp only [go_sem,reduceIte,Nat.reduceEqDiff,Nat.reduceLT]) <;> rfl⟩
    · simp only [go_sem,reduceIte,Nat.reduceEqDiff,Nat.reduceLT, e0, e5, e6, e7, e8, e9, len27, hkm, d00]
      refine CallO_f (refLay_spec (w := w') (by omega) hs4 (by omega) hm25 (by omega) gL') (by omega) fun u h6 hp6 hu => ?_
      have pr06 : Pres h0.next h0 h6 := pr04.trans (hp6.le (by omega))
      have ht6 := ht.le pr06 h3
      rcases hu with ⟨_, rfl⟩ | ⟨sq, B, g1, rfl, _⟩
      · simp only [go_sem,reduceIte,Nat.reduceEqDiff,Nat.reduceLT, e0, e5, e6, e7, e8, e9, len22, d0, d55]
        refine Call_lives ht6 (by omega) ?_
        simp only [go_sem,reduceIte,Nat.reduceEqDiff,Nat.reduceLT]
        exact hQ' _ _ ⟨pr06, rfl⟩
      · rw [show ((w' : Int)).toNat = w' by omega] at gno
        rw [gno] at g1; cases g1
  · have d24 : decide ((24 : Int) < m) = false := decide_eq_false (by omega)
    have hm0 : 0 < M.length := List.length_pos_iff.2 gne
    have dm0 : decide ((m : Int) = 0) = false := decide_eq_false (by omega)
    have gw' := sideOk_iff.1 gw
    have hw1 : ¬ w < 1 := by omega
    have hw2 : ¬ 1000 < w := by omega
    have gL' : ∀ z ∈ M, 1 ≤ z ∧ z ≤ 1000 := fun z hz => sideOk_iff.1 (List.all_eq_true.1 gL z hz)
    obtain ⟨w', rfl⟩ := Int.eq_ofNat_of_zero_le (a := w) (by omega)
    simp only [go_sem,reduceIte,Nat.reduceEqDiff,Nat.reduceLT, len27, d24, dm0, hw1, hw2]
    refine WK_loopN (fun j α h5 => ∃ k : Nat, k + j = m ∧ h5 = h4 ∧ α.get 0 = some (.int .i64 w') ∧ α.get 5 = some (.slice A2 m c2) ∧ α.get 6 = some (.slice B sq.length sq.length) ∧ α.get 7 = some (.int .i64 0) ∧ α.get 8 = some (.int .i64 0) ∧ α.get 9 = some (.int .i64 k)) m
      ⟨0, by omega, rfl, by simp only [go_sem,reduceIte,Nat.reduceEqDiff,Nat.reduceLT], by simp only [go_sem,reduceIte,Nat.reduceEqDiff,Nat.reduceLT], by simp only [go_sem,reduceIte,Nat.reduceEqDiff,Nat.reduceLT], by simp only [go_sem,reduceIte,Nat.reduceEqDiff,Nat.reduceLT], by simp only [go_sem,reduceIte,Nat.reduceEqDiff,Nat.reduceLT], by (simp only [go_sem,reduceIte,Nat.reduceEqDiff,Nat.reduceLT]) <;> rfl⟩ (by omega) ?_
    rintro J j α h5 ⟨k, hk, rfl, e0, e5, e6, e7, e8, e9⟩ hJ
    by_cases hkm : (k : Int) < m
    · obtain ⟨z, hz⟩ : ∃ z, M[k]? = some z := ⟨M[k]'(by omega), List.getElem?_eq_getElem (by omega)⟩
      obtain ⟨b, off, rfl, _, _, hld⟩ := hs4.at_ (by omega)
      have hld := hld k (by omega)
      rw [ints_get hz] at hld
      have hzb := gL' z (List.mem_of_getElem? hz)
      have hlo : ¬ z < 1 := by omega
      have hhi2 : ¬ 1000 < z := by omega
      simp (disch := omega) only [go_sem,reduceIte,Nat.reduceEqDiff,Nat.reduceLT, e0, e5, e6, e7, e8, e9, len27, hkm, d00, idxA27, load3, Int.toNat_natCast, Nat.mul_one, hld, hlo, hhi2, wrap_i64]
      exact hJ (j - 1) _ _ (by omega) ⟨k + 1, by omega, rfl, by simp only [go_sem,reduceIte,Nat.reduceEqDiff,Nat.reduceLT, e0], by simp only [go_sem,reduceIte,Nat.reduceEqDiff,Nat.reduceLT, e5], by simp only [go_sem,reduceIte,Nat.reduceEqDiff,Nat.reduceLT, e6], by simp only [go_sem,reduceIte,Nat.reduceEqDiff,Nat.reduceLT, e7], by simp only [go_sem,reduceIte,Nat.reduceEqDiff,Nat.reduceLT, e8], by (simp only [go_sem,reduceIte,Nat.reduceEqDiff,Nat.reduceLT]) <;> rfl⟩
    · simp only [go_sem,reduceIte,Nat.reduceEqDiff,Nat.reduceLT, e0, e5, e6, e7, e8, e9, len27, hkm, d00]
      refine CallO_f (refLay_spec (w := w') (by omega) hs4 (by omega) hm25 (by omega) gL') (by omega) fun u h6 hp6 hu => ?_
      have n6 := hp6.next
      have pr06 : Pres h0.next h0 h6 := pr04.trans (hp6.le (by omega))
      rw [show ((w' : Int)).toNat = w' by omega] at gsq
      rcases hu with ⟨g1, rfl⟩ | ⟨sq', B', g1, rfl, hsq'⟩
      · rw [gsq] at g1; cases g1
      · rw [gsq] at g1
        injection g1 with g1
        subst g1
        have hsql := layOn_len gsq
        simp only [go_sem,reduceIte,Nat.reduceEqDiff,Nat.reduceLT, e0, e5, e6, e7, e8, e9, d00]
        refine CallO_f (sqSame_spec (hsq.mono fun b _ hb => hp6.get b hb) hsq' (by omega)) (by omega) fun u h7 hp7 hu => ?_
        subst hu
        have pr07 : Pres h0.next h0 h7 := pr06.trans (hp7.le (by omega))
        have ht7 := ht.le pr07 h3
        simp only [go_sem,reduceIte,Nat.reduceEqDiff,Nat.reduceLT, e7, d00]
        refine Call_lives ht7 (by omega) ?_
        simp only [go_sem,reduceIte,Nat.reduceEqDiff,Nat.reduceLT]
        exact hQ' _ _ ⟨pr07, rfl⟩
end
end Go.Proofs.YtnhbkoeomefkdaaDoor.Ev.L

