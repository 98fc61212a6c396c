/- Measure, Code, Perfect; the document's Covers, Check, Measure, Perfect. -/
import Derived.Test.YtnhbkoeomefkdaaDoorPmhA4
import Derived.Test.YtnhbkoeomefkdaaDoorPmhG0
set_option linter.unusedSimpArgs false
set_option linter.unusedVariables false
namespace Go.Proofs.YtnhbkoeomefkdaaDoor.Ev
open Go Go.Proofs
noncomputable section

set_option maxRecDepth 100000 in
set_option maxHeartbeats 8000000 in
theorem Measure_spec {G lo hi c : Nat} {L : List Sq} {A : Option Addr} {h : H} (hG : G ≤ h.next) (hG3 : 3 ≤ G) (hhi : hi ≤ h.next) (ht : TabsIn tabs h.blks) (hv : SlV h.blks lo hi 3 L.length (sqc L) (.slice A L.length c)) (hl : L.length ≤ 1000) :
    Spec Tryd.prog (En G) 14 [.slice A L.length c] h fun v _ => (chk L = 0 ∧ v = .tuple #[.int .i64 (wid L), .int .i64 (hei L), .int .i64 0]) ∨ (chk L ≠ 0 ∧ v = .tuple #[.int .i64 0, .int .i64 0, .int .i64 (chk L)]) := by
  refine CallsE_enter (En_known (by decide)) (En_f.trans Tryd.func14) rfl ⟨Nat.le_of_ble_eq_true rfl, by decide⟩ fun Q' hQ' => ?_
  simp only [Tryd.f14, go_sem,reduceIte,Nat.reduceEqDiff,Nat.reduceLT]
  refine CallO_f (newCut_spec hG hG3 hhi ht hv hl) (by omega) fun u h1 ph1 hcut => ?_
  have n1 := ph1.next
  rcases hcut with ⟨he, A', hu, hsv⟩ | ⟨he, hu⟩
  · subst hu
    simp only [go_sem,reduceIte,Nat.reduceEqDiff,Nat.reduceLT]
    refine At_alloc i64 zero64 rfl (by omega) fun h2 hn2 => ?_
    have n2 := hn2.next
    have w2 := hn2.var
    rw [cutV_cells] at w2
    have pg2 : Pres h1.next h1 h2 := hn2.pres (Nat.le_refl _)
    try simp only [go_sem,reduceIte,Nat.reduceEqDiff,Nat.reduceLT]
    refine At_storeV (v := cutV A' L.length (wid L) (hei L)) i64 (by simp only [go_sem,reduceIte,Nat.reduceEqDiff,Nat.reduceLT]) (by (simp only [go_sem,reduceIte,Nat.reduceEqDiff,Nat.reduceLT]) <;> rfl) w2 (by rw [size64]; rfl) (by rw [size64]; rfl) rfl (by rw [En_G]; omega) fun h3 hs3 v3 => ?_
    rw [cutV_cells] at v3
    have ph3 : Pres h1.next h1 h3 := pg2.trans (hs3.pres (Nat.le_refl _))
    have n3 : h3.next = h2.next := hs3.next
    have pr3 : Pres h.next h h3 := ph1.trans (ph3.le (by omega))
    have l30 : loadv h3.blks h1.next 0 = some (.slice A' L.length L.length) := v3.load (i := 0) (by simp only [List.length_cons, List.length_nil]; omega)
    have l31 : loadv h3.blks h1.next 1 = some (.int .i64 (wid L)) := v3.load (i := 1) (by simp only [List.length_cons, List.length_nil]; omega)
    have l32 : loadv h3.blks h1.next 2 = some (.int .i64 (hei L)) := v3.load (i := 2) (by simp only [List.length_cons, List.length_nil]; omega)
    simp only [go_sem,reduceIte,Nat.reduceEqDiff,Nat.reduceLT]
    refine WK_regionT 6 ⟨by kernel_rfl, by kernel_rfl, by kernel_rfl⟩ ?_
    simp only [go_sem,reduceIte,Nat.reduceEqDiff,Nat.reduceLT, fld64_1, fld64_2, Nat.zero_add, load3, l31, l32]
    exact hQ' _ _ ⟨pr3, .inl ⟨he, rfl⟩⟩
  · subst hu
    simp only [go_sem,reduceIte,Nat.reduceEqDiff,Nat.reduceLT]
    refine At_alloc i64 zero64 rfl (by omega) fun h2 hn2 => ?_
    have n2 := hn2.next
    have w2 := hn2.var
    rw [cutV_cells] at w2
    have pg2 : Pres h1.next h1 h2 := hn2.pres (Nat.le_refl _)
    try simp only [go_sem,reduceIte,Nat.reduceEqDiff,Nat.reduceLT]
    refine At_storeV (v := cutV none 0 0 0) i64 (by simp only [go_sem,reduceIte,Nat.reduceEqDiff,Nat.reduceLT]) (by (simp only [go_sem,reduceIte,Nat.reduceEqDiff,Nat.reduceLT]) <;> rfl) w2 (by rw [size64]; rfl) (by rw [size64]; rfl) rfl (by rw [En_G]; omega) fun h3 hs3 v3 => ?_
    rw [cutV_cells] at v3
    have ph3 : Pres h1.next h1 h3 := pg2.trans (hs3.pres (Nat.le_refl _))
    have n3 : h3.next = h2.next := hs3.next
    have pr3 : Pres h.next h h3 := ph1.trans (ph3.le (by omega))
    have l30 : loadv h3.blks h1.next 0 = some (.slice none 0 0) := v3.load (i := 0) (by simp only [List.length_cons, List.length_nil]; omega)
    have l31 : loadv h3.blks h1.next 1 = some (.int .i64 0) := v3.load (i := 1) (by simp only [List.length_cons, List.length_nil]; omega)
    have l32 : loadv h3.blks h1.next 2 = some (.int .i64 0) := v3.load (i := 2) (by simp only [List.length_cons, List.length_nil]; omega)
    simp only [go_sem,reduceIte,Nat.reduceEqDiff,Nat.reduceLT]
    refine WK_regionT 6 ⟨by kernel_rfl, by kernel_rfl, by kernel_rfl⟩ ?_
    simp only [go_sem,reduceIte,Nat.reduceEqDiff,Nat.reduceLT, fld64_1, fld64_2, Nat.zero_add, load3, l31, l32]
    exact hQ' _ _ ⟨pr3, .inr ⟨he, rfl⟩⟩

abbrev szs (L : List Sq) : List Int := L.map fun q => q.2.2
end
end Go.Proofs.YtnhbkoeomefkdaaDoor.Ev

