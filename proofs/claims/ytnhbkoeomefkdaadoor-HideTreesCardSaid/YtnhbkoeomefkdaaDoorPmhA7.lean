/- The document's Covers, Check, Measure, Code, Perfect. -/
import Derived.Test.YtnhbkoeomefkdaaDoorPmhA4
import Derived.Test.YtnhbkoeomefkdaaDoorPmhG0
import Derived.Test.YtnhbkoeomefkdaaDoorPmSS
set_option linter.unusedSimpArgs false
set_option linter.unusedVariables false
namespace Go.Proofs.YtnhbkoeomefkdaaDoor.Ev
open Go Go.Proofs
noncomputable section

set_option maxRecDepth 100000 in
set_option maxHeartbeats 8000000 in
theorem rMeasure_spec {G lo hi c : Nat} {L : List Sq} {A : Option Addr} {h : H} (hv : SlV h.blks lo hi 3 L.length (sqc L) (.slice A L.length c)) (hl : L.length ≤ 24) (hok : ∀ q ∈ L, okSq q) :
    Spec Tryd.prog (En G) 19 [.slice A L.length c] h fun v h' => v = .tuple #[.int .i64 (wid L), .int .i64 (hei L)] ∧ h' = h := by
  refine CallsE_enter (En_known (by decide)) (En_f.trans Tryd.func19) rfl ⟨Nat.le_of_ble_eq_true rfl, by decide⟩ fun Q' hQ' => ?_
  simp only [Tryd.f19, go_sem,reduceIte,Nat.reduceEqDiff,Nat.reduceLT]
  refine WK_loopN (fun j α h2 => ∃ i : Nat, i + j = L.length ∧ h2 = h ∧ α.get 0 = some (.slice A L.length c) ∧ α.get 4 = some (.int .i64 (wid (L.take i))) ∧ α.get 5 = some (.int .i64 (hei (L.take i))) ∧ α.get 6 = some (.int .i64 i)) L.length
    ⟨0, by omega, rfl, by simp only [go_sem,reduceIte,Nat.reduceEqDiff,Nat.reduceLT], by (simp only [go_sem,reduceIte,Nat.reduceEqDiff,Nat.reduceLT]) <;> rfl, by (simp only [go_sem,reduceIte,Nat.reduceEqDiff,Nat.reduceLT]) <;> rfl, by (simp only [go_sem,reduceIte,Nat.reduceEqDiff,Nat.reduceLT]) <;> rfl⟩ (by omega) ?_
  rintro J j α h2 ⟨i, hij, rfl, e0, e4, e5, e6⟩ hJ
  have hb := bounds (L.take i) fun q hq => hok q (List.mem_of_mem_take hq)
  by_cases hlt : (i : Int) < (L.length : Int)
  · obtain ⟨q, hq⟩ : ∃ q, L[i]? = some q := ⟨_, List.getElem?_eq_getElem (show i < L.length by omega)⟩
    obtain ⟨x1, x2, ⟨x3, x4⟩, x5, x6⟩ := hok q (List.mem_of_getElem? hq)
    obtain ⟨bA, oA, rfl, _, _, _⟩ := hv.at_ (by omega)
    obtain ⟨_, la0, la1, la2⟩ := hv.sq_at (G := G) hq rfl
    simp (disch := omega) only [go_sem,reduceIte,Nat.reduceEqDiff,Nat.reduceLT, e0, e6, hlt, len22]
    refine WK_regionT 27 ⟨by kernel_rfl, by kernel_rfl, by kernel_rfl⟩ ?_
    simp (maxSteps := 6000000) (disch := omega) only [go_sem,reduceIte,Nat.reduceEqDiff,Nat.reduceLT, e0, e4, e5, e6, idxA22, Int.toNat_natCast, fld61_0, fld61_1, fld61_2, Nat.add_zero, load3, la0, la1, la2, wrap_i64]
    exact hJ (L.length - (i + 1)) _ _ (by omega) ⟨i + 1, by omega, rfl, by simp only [go_sem,reduceIte,Nat.reduceEqDiff,Nat.reduceLT, e0], by rw [take_snoc hq, wid_snoc]; simp only [go_sem,reduceIte,Nat.reduceEqDiff,Nat.reduceLT], by rw [take_snoc hq, hei_snoc]; simp only [go_sem,reduceIte,Nat.reduceEqDiff,Nat.reduceLT], by (simp only [go_sem,reduceIte,Nat.reduceEqDiff,Nat.reduceLT]) <;> rfl⟩
  · obtain rfl : i = L.length := by omega
    rw [List.take_length] at e4 e5
    simp (disch := omega) only [go_sem,reduceIte,Nat.reduceEqDiff,Nat.reduceLT, e0, e4, e5, e6, hlt, len22]
    exact hQ' _ _ ⟨Pres.refl _ _, rfl, rfl⟩

end
end Go.Proofs.YtnhbkoeomefkdaaDoor.Ev

