/- The law HideMeasures. -/
import Derived.Test.YtnhbkoeomefkdaaDoorPmhA7
set_option linter.unusedSimpArgs false
set_option linter.unusedVariables false
namespace Go.Proofs.YtnhbkoeomefkdaaDoor.Ev
open Go Go.Proofs
noncomputable section

/-- how many squares a copy has -/
def fewN (n most : Nat) : Nat := min n (if 24 < n then 25 else most)
set_option maxRecDepth 100000 in
set_option maxHeartbeats 8000000 in
theorem few_spec {G lo hi c most : Nat} {L : List Sq} {A : Option Addr} {h : H} (hG : G ≤ h.next) (hhi : hi ≤ h.next) (hv : SlV h.blks lo hi 3 L.length (sqc L) (.slice A L.length c)) (hm : most ≤ 1000) (hn : L.length < 4611686018427387904) :
    Spec Tryd.prog (En G) 13 [.slice A L.length c, .int .i64 most] h fun v h' => ∃ A', v = .slice A' (fewN L.length most) (fewN L.length most) ∧ SlV h'.blks h.next h'.next 3 (fewN L.length most) (sqc (L.take (fewN L.length most))) (.slice A' (fewN L.length most) (fewN L.length most)) := by
  refine CallsE_enter (En_known (by decide)) (En_f.trans Tryd.func13) rfl ⟨Nat.le_of_ble_eq_true rfl, by decide⟩ fun Q' hQ' => ?_
  simp only [Tryd.f13, go_sem,reduceIte,Nat.reduceEqDiff,Nat.reduceLT, len22]
  obtain ⟨k, hk⟩ : ∃ k, k = fewN L.length most := ⟨_, rfl⟩
  have hkn : k ≤ L.length := by rw [hk]; exact Nat.min_le_left _ _
  have hk1 : k ≤ 1000 := by rw [hk]; unfold fewN; split <;> omega
  rw [← hk] at hQ'
  obtain ⟨A2, c2, hsl, hp2⟩ := sliceO_take (E := En G) (kd := .i64) (m := k) u22 i61 size61 hv hkn
  rw [sqc_take] at hp2
  by_cases c1 : (24 : Int) < (L.length : Int)
  · have e25 : min (L.length : Int) 25 = (k : Int) := by rw [hk]; unfold fewN; rw [if_pos (by omega)]; omega
    simp only [go_sem,reduceIte,Nat.reduceEqDiff,Nat.reduceLT, len22, c1]
    refine At_lit0 u22 i61 zero61 (by rw [size61]; rfl) (by omega) ?_
    simp only [go_sem,reduceIte,Nat.reduceEqDiff,Nat.reduceLT, len22, e25, hsl]
    refine At_appendF (M := sqc (L.take k)) (m := k) (v := .slice A2 k c2) u22 u22 i61 zero61 (by rw [size61, bytes61]; rfl) (by simp only [go_sem,reduceIte,Nat.reduceEqDiff,Nat.reduceLT]) (by simp only [go_sem,reduceIte,Nat.reduceEqDiff,Nat.reduceLT]) (by rw [size61]; exact hp2) (by omega) sqc_one (by omega) fun A' h' hp hs' => ?_
    rw [size61] at hs'
    simp only [go_sem,reduceIte,Nat.reduceEqDiff,Nat.reduceLT]
    exact hQ' _ _ ⟨hp, A', rfl, hs'⟩
  · have e25 : min (L.length : Int) (most : Int) = (k : Int) := by rw [hk]; unfold fewN; rw [if_neg (by omega)]; omega
    simp only [go_sem,reduceIte,Nat.reduceEqDiff,Nat.reduceLT, len22, c1]
    refine At_lit0 u22 i61 zero61 (by rw [size61]; rfl) (by omega) ?_
    simp only [go_sem,reduceIte,Nat.reduceEqDiff,Nat.reduceLT, len22, e25, hsl]
    refine At_appendF (M := sqc (L.take k)) (m := k) (v := .slice A2 k c2) u22 u22 i61 zero61 (by rw [size61, bytes61]; rfl) (by simp only [go_sem,reduceIte,Nat.reduceEqDiff,Nat.reduceLT]) (by simp only [go_sem,reduceIte,Nat.reduceEqDiff,Nat.reduceLT]) (by rw [size61]; exact hp2) (by omega) sqc_one (by omega) fun A' h' hp hs' => ?_
    rw [size61] at hs'
    simp only [go_sem,reduceIte,Nat.reduceEqDiff,Nat.reduceLT]
    exact hQ' _ _ ⟨hp, A', rfl, hs'⟩

end
end Go.Proofs.YtnhbkoeomefkdaaDoor.Ev

