/- The law StrapMultipliers. -/
import Derived.Test.YtlblehmnanagaaaPmI7
set_option linter.unusedSimpArgs false
set_option linter.unusedVariables false
namespace Go.Proofs.Ytlblehmnanagaaa.Ev
open Go Go.Proofs
noncomputable section

theorem mlP_mlR {V : Nat} {l : List Int} (h : 0 < V) (hi : InV V l) (hl : l.Pairwise (· ≤ ·)) : mlP V l (uL V V) = mlR V l V := by
  unfold mlP mlR
  rw [mP_mR h hi hl]
set_option maxHeartbeats 8000000 in
theorem law_StrapMultipliers {G lo hi n c : Nat} {A : Option Addr} {v : Int} {f : Nat → Int} {h : H} (hG : G ≤ h.next) (hhi : hi ≤ h.next) (hv : SlV h.blks lo hi 1 n (intsL n f) (.slice A n c)) :
    Spec Try.prog (En G) 6 [.int .i64 v, .slice A n c] h fun w _ => w = .bool true := by
  refine CallsE_enter (En_known (by decide)) (En_f.trans Try.func6) rfl ⟨Nat.le_of_ble_eq_true rfl, by decide⟩ fun Q' hQ' => ?_
  simp only [Try.f6, go_sem,reduceIte,Nat.reduceEqDiff,Nat.reduceLT]
  refine CallO_f (cut_spec hv) (by omega) fun u h1 pr1 ⟨A1, c1, hu, hs1⟩ => ?_
  subst hu
  have n1 := pr1.next
  have hm : min n 41 ≤ 41 := by omega
  generalize min n 41 = m at hs1 hm ⊢
  simp only [go_sem,reduceIte,Nat.reduceEqDiff,Nat.reduceLT]
  refine CallO_f (Multipliers_spec (by omega) (by omega) hs1 (by omega)) (by omega) fun u h2 pr2 hmul => ?_
  have n2 := pr2.next
  have hs2 := hs1.mono (B' := h2.blks) fun b _ hb => pr2.get b hb
  rcases hmul with ⟨e, he0, hre, hu⟩ | ⟨hre, V, A2, rfl, hu, hm2⟩
  · subst hu
    simp only [go_sem,reduceIte,Nat.reduceEqDiff,Nat.reduceLT]
    refine CallO_f (Canon_spec (by omega) (by omega) hs2 (by omega)) (by omega) fun u h3 pr3 hcan => ?_
    have n3 := pr3.next
    have hs3 := hs2.mono (B' := h3.blks) fun b _ hb => pr3.get b (by omega)
    rcases hcan with ⟨e', he0', hre', hu⟩ | ⟨hre', _⟩
    · subst hu
      obtain rfl := roundE_one hre hre'
      simp only [go_sem,reduceIte,Nat.reduceEqDiff,Nat.reduceLT]
      refine CallO_same (refSet_spec hs3 (by omega)) (by omega) fun u ⟨e2, hu, he2⟩ => ?_
      subst hu
      obtain rfl := roundE_one hre he2
      have d0 : decide (e ≠ 0) = true := decide_eq_true he0
      have d1 : decide (e = e) = true := decide_eq_true rfl
      have d2 : decide ((0 : Int) = 0) = true := rfl
      simp (disch := omega) only [go_sem,reduceIte,Nat.reduceEqDiff,Nat.reduceLT, d0, d1, d2, len23, wrap_i64, Int.natCast_zero, Int.add_zero, Int.cast_ofNat_Int]
      refine Call_lives (by omega) ?_
      simp only [go_sem,reduceIte,Nat.reduceEqDiff,Nat.reduceLT]
      exact hQ' _ _ ⟨pr1.trans ((pr2.trans (pr3.le n2)).le n1), rfl⟩
    · exact absurd (roundE_one hre hre') he0
  · subst hu
    simp only [go_sem,reduceIte,Nat.reduceEqDiff,Nat.reduceLT]
    refine CallO_f (Canon_spec (by omega) (by omega) hs2 (by omega)) (by omega) fun u h3 pr3 hcan => ?_
    have n3 := pr3.next
    have hs3 := hs2.mono (B' := h3.blks) fun b _ hb => pr3.get b (by omega)
    have hm3 := hm2.mono (B' := h3.blks) fun b _ hb => pr3.get b (by omega)
    rcases hcan with ⟨e', he0', hre', _⟩ | ⟨_, V', A3, hV', hu, hc3⟩
    · exact absurd (roundE_one hre' hre) he0'
    · subst hu
      obtain rfl : V' = V := by omega
      simp only [go_sem,reduceIte,Nat.reduceEqDiff,Nat.reduceLT]
      refine CallO_same (refSet_spec hs3 (by omega)) (by omega) fun u ⟨e2, hu, he2⟩ => ?_
      subst hu
      obtain rfl := roundE_one he2 hre
      obtain ⟨hn31, ⟨hv2, hv31⟩, hrise⟩ := roundE_zero hre
      obtain ⟨hin, hplt⟩ := rise_in hrise
      have hple : (ilst m f).Pairwise (· ≤ ·) := hplt.imp fun h => by omega
      have hil : (ilst m f).length = m := ilst_len
      rw [ints_ilst] at hs3
      have hcl : (cP V' (ilst m f) (uL V' V')).length = m := by rw [cP_len, hil]
      have hml := mlP_mlR (l := ilst m f) (by omega) hin hple
      have hml31 := mlR_len (V := V') (l := ilst m f) (n := V')
      rw [hml] at hm3 ⊢
      generalize ilst m f = l at *
      subst hil
      have d0 : decide ((0 : Int) ≠ 0) = false := rfl
      have d2 : decide ((0 : Int) = 0) = true := rfl
      simp only [go_sem,reduceIte,Nat.reduceEqDiff,Nat.reduceLT, d0]
      refine CallO_f (refMultipliers_spec (by omega) (by omega) hs3 hn31 (by omega) (by omega) hin hplt) (by omega) fun u h4 pr4 ⟨A4, hu, hs4⟩ => ?_
      subst hu
      have n4 := pr4.next
      have hm4 := hm3.mono (B' := h4.blks) fun b _ hb => pr4.get b (by omega)
      have hc4 := hc3.mono (B' := h4.blks) fun b _ hb => pr4.get b (by omega)
      have hs4' := hs3.mono (B' := h4.blks) fun b _ hb => pr4.get b (by omega)
      simp only [go_sem,reduceIte,Nat.reduceEqDiff,Nat.reduceLT]
      refine CallO_same (Same_l hm4 hs4 (by omega) (by omega)) (by omega) fun u ⟨b, hu, hb⟩ => ?_
      subst hu
      obtain rfl := hb.2 rfl
      simp only [go_sem,reduceIte,Nat.reduceEqDiff,Nat.reduceLT, d2]
      refine CallO_f (refCanon_spec (by omega) (by omega) hs4' hn31 (by omega) (by omega) hin hplt) (by omega) fun u h5 pr5 ⟨A5, c5, hu, hs5⟩ => ?_
      subst hu
      have n5 := pr5.next
      have hc5 := hc4.mono (B' := h5.blks) fun b _ hb => pr5.get b (by omega)
      simp only [go_sem,reduceIte,Nat.reduceEqDiff,Nat.reduceLT]
      have hsame : Spec Try.prog (En G) 12 [.slice A3 l.length l.length, .slice A5 l.length c5] h5 fun v h' => (∃ b, v = .bool b ∧ (b = true ↔ cP V' l (uL V' V') = cP V' l (uL V' V'))) ∧ h' = h5 := by
        have := Same_l (G := G) (lo := h2.next) (hi := h3.next) (lo2 := h4.next) (hi2 := h5.next) (c := l.length) (c2 := c5) (A := A3) (A2 := A5) (l := cP V' l (uL V' V')) (m := cP V' l (uL V' V')) (h := h5) (by rw [hcl]; exact hc5) (by rw [hcl]; exact hs5) (by omega) (by omega)
        rw [hcl] at this
        exact this
      refine CallO_same hsame (by omega) fun u ⟨b, hu, hb⟩ => ?_
      subst hu
      obtain rfl := hb.2 rfl
      simp only [go_sem,reduceIte,Nat.reduceEqDiff,Nat.reduceLT, d2]
      refine Call_lives (by omega) ?_
      simp only [go_sem,reduceIte,Nat.reduceEqDiff,Nat.reduceLT]
      exact hQ' _ _ ⟨pr1.trans ((pr2.trans ((pr3.trans ((pr4.trans (pr5.le n4)).le n3)).le n2)).le n1), rfl⟩
end
end Go.Proofs.Ytlblehmnanagaaa.Ev

