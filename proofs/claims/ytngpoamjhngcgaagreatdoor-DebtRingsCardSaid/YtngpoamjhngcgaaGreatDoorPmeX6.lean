/- Prices that prove, by the program and by the reference. -/
import Derived.Test.YtngpoamjhngcgaaGreatDoorPmeX5
set_option linter.unusedSimpArgs false
namespace Go.Proofs.YtngpoamjhngcgaaGreatDoor.Ev
open Go Go.Proofs
noncomputable section

/-- prices prove that what is left is least -/
def Pz (n : Nat) (f r : Nat → Nat → Int) (p : Nat → Int) : Prop := ∀ i j, i < n → j < n → i ≠ j → ¬ ((0 < r i j ∧ p j - p i < 1) ∨ (r i j < f i j ∧ 1 < p j - p i))

set_option maxHeartbeats 16000000 in
theorem priced_spec {G lo hi n c c2 c3 : Nat} {g g2 : Nat → Nat} {f r : Nat → Nat → Int} {p : Nat → Int} {RA RA2 : Nat → Option Addr} {rc rc2 : Nat → Nat} {A A2 A3 : Option Addr} {h : H} (hm : MatV h.blks lo hi n g f RA rc (.slice A n c)) (hm2 : MatV h.blks lo hi n g2 r RA2 rc2 (.slice A2 n c2)) (hv : SlV h.blks lo hi 1 n (intsL n p) (.slice A3 n c3)) (hn : n ≤ 8) (hg : ∀ i, i < n → g i = n) (hg2 : ∀ i, i < n → g2 i = n) (hp : PrOk n p) :
    Spec Tryz.prog (En G) 61 [.slice A n c, .slice A2 n c2, .slice A3 n c3] h fun v h' => (∃ b, v = .bool b ∧ (b = true ↔ Pz n f r p)) ∧ h' = h := by
  refine CallsE_enter (En_known (by decide)) (En_f.trans Tryz.func61) rfl ⟨Nat.le_of_ble_eq_true rfl, by decide⟩ fun Q' hQ' => ?_
  have no : ¬ Pz n f r p → Q' (.bool false) h := fun hh => hQ' _ _ ⟨Pres.refl _ _, ⟨false, rfl, ⟨fun e => (by cases e), fun e => absurd e hh⟩⟩, rfl⟩
  simp only [Tryz.f61, go_sem,reduceIte,Nat.reduceEqDiff,Nat.reduceLT, len22]
  refine WK_loopN (fun j α h2 => ∃ i : Nat, i + j = n ∧ h2 = h ∧ α.get 0 = some (.slice A n c) ∧ α.get 2 = some (.slice A3 n c3) ∧ α.get 12 = some (.slice A2 n c2) ∧ α.get 13 = some (.int .i64 n) ∧ α.get 14 = some (.int .i64 i) ∧ ∀ k j, k < i → j < n → k ≠ j → ¬ ((0 < r k j ∧ p j - p k < 1) ∨ (r k j < f k j ∧ 1 < p j - p k))) n
    ⟨0, by omega, rfl, by simp only [go_sem,reduceIte,Nat.reduceEqDiff,Nat.reduceLT], by simp only [go_sem,reduceIte,Nat.reduceEqDiff,Nat.reduceLT], by simp only [go_sem,reduceIte,Nat.reduceEqDiff,Nat.reduceLT], by simp only [go_sem,reduceIte,Nat.reduceEqDiff,Nat.reduceLT], by (simp only [go_sem,reduceIte,Nat.reduceEqDiff,Nat.reduceLT]) <;> rfl, fun k j hk => absurd hk (Nat.not_lt_zero k)⟩ (by omega) ?_
  rintro J j α h2 ⟨i, hij, rfl, e0, e2, e12, e13, e14, hall⟩ hJ
  by_cases hlt : (i : Int) < n
  · obtain ⟨b, off, rfl, hld⟩ := hm.at_ (by omega)
    have l1 := hld i (by omega)
    obtain ⟨b2, off2, hRA, hld2⟩ := (hm.row i (by omega)).ints_at (by have := hg i (by omega); omega)
    rw [hRA] at l1
    obtain ⟨b', off', rfl, hld'⟩ := hm2.at_ (by omega)
    have l1' := hld' i (by omega)
    obtain ⟨b2', off2', hRA', hld2'⟩ := (hm2.row i (by omega)).ints_at (by have := hg2 i (by omega); omega)
    rw [hRA'] at l1'
    obtain ⟨b3, off3, rfl, hld3⟩ := hv.ints_at (by omega)
    have lp := hld3 i (by omega)
    have hgi := hg i (by omega)
    have hgi' := hg2 i (by omega)
    have hpi := hp i (by omega)
    simp (disch := omega) only [go_sem,reduceIte,Nat.reduceEqDiff,Nat.reduceLT, e0, e2, e12, e13, e14, hlt, len23, idxA22, load23, Int.toNat_natCast, Nat.mul_one, l1']
    refine WK_loopN (fun j' α h3 => ∃ i' : Nat, i' + j' = n ∧ h3 = h2 ∧ α.get 0 = some (.slice (some ⟨b, off, none⟩) n c) ∧ α.get 2 = some (.slice (some ⟨b3, off3, none⟩) n c3) ∧ α.get 7 = some (.int .i64 i) ∧ α.get 12 = some (.slice (some ⟨b', off', none⟩) n c2) ∧ α.get 13 = some (.int .i64 n) ∧ α.get 14 = some (.int .i64 i) ∧
        α.get 19 = some (.slice (some ⟨b2', off2', none⟩) (g2 i) (rc2 i)) ∧ α.get 20 = some (.int .i64 (g2 i)) ∧ α.get 21 = some (.int .i64 i') ∧ ∀ j, j < i' → i ≠ j → ¬ ((0 < r i j ∧ p j - p i < 1) ∨ (r i j < f i j ∧ 1 < p j - p i))) n
      ⟨0, by omega, rfl, by simp only [go_sem,reduceIte,Nat.reduceEqDiff,Nat.reduceLT, e0], by simp only [go_sem,reduceIte,Nat.reduceEqDiff,Nat.reduceLT, e2], by simp only [go_sem,reduceIte,Nat.reduceEqDiff,Nat.reduceLT], by simp only [go_sem,reduceIte,Nat.reduceEqDiff,Nat.reduceLT, e12], by simp only [go_sem,reduceIte,Nat.reduceEqDiff,Nat.reduceLT, e13], by simp only [go_sem,reduceIte,Nat.reduceEqDiff,Nat.reduceLT, e14], by simp only [go_sem,reduceIte,Nat.reduceEqDiff,Nat.reduceLT], by simp only [go_sem,reduceIte,Nat.reduceEqDiff,Nat.reduceLT], by (simp only [go_sem,reduceIte,Nat.reduceEqDiff,Nat.reduceLT]) <;> rfl, fun k hk => absurd hk (Nat.not_lt_zero k)⟩ (by omega) ?_
    clear e0 e2 e12 e13 e14
    rintro J' j' α h3 ⟨i', hij', rfl, e0, e2, e7, e12, e13, e14, e19, e20, e21, hall'⟩ hJ'
    by_cases hlt' : (i' : Int) < g2 i
    · have l3 := hld2 i' (by omega)
      have l3' := hld2' i' (by omega)
      have lq := hld3 i' (by omega)
      have hpj := hp i' (by omega)
      simp (disch := omega) only [go_sem,reduceIte,Nat.reduceEqDiff,Nat.reduceLT, e19, e20, e21, hlt', idxA23, load3, Int.toNat_natCast, Nat.mul_one, l3']
      refine WK_regionT 8 ⟨by kernel_rfl, by kernel_rfl, by kernel_rfl⟩ ?_
      simp (disch := omega) only [go_sem,reduceIte,Nat.reduceEqDiff,Nat.reduceLT, e2, e7, idxA23, load3, Int.toNat_natCast, Nat.mul_one, lp, lq, wrap_i64]
      by_cases hii : i = i'
      · have dij : decide ((i : Int) ≠ (i' : Int)) = false := decide_eq_false (by omega)
        simp (disch := omega) only [go_sem,reduceIte,Nat.reduceEqDiff,Nat.reduceLT, e21, dij, wrap_i64]
        refine hJ' (n - (i' + 1)) _ _ (by omega) ⟨i' + 1, by omega, rfl, by simp only [go_sem,reduceIte,Nat.reduceEqDiff,Nat.reduceLT, e0], by simp only [go_sem,reduceIte,Nat.reduceEqDiff,Nat.reduceLT, e2], by simp only [go_sem,reduceIte,Nat.reduceEqDiff,Nat.reduceLT, e7], by simp only [go_sem,reduceIte,Nat.reduceEqDiff,Nat.reduceLT, e12], by simp only [go_sem,reduceIte,Nat.reduceEqDiff,Nat.reduceLT, e13], by simp only [go_sem,reduceIte,Nat.reduceEqDiff,Nat.reduceLT, e14], by simp only [go_sem,reduceIte,Nat.reduceEqDiff,Nat.reduceLT, e19], by simp only [go_sem,reduceIte,Nat.reduceEqDiff,Nat.reduceLT, e20], by (simp only [go_sem,reduceIte,Nat.reduceEqDiff,Nat.reduceLT]) <;> rfl, fun k hk hne => ?_⟩
        exact hall' k (by omega) hne
      · have dij : decide ((i : Int) ≠ (i' : Int)) = true := decide_eq_true (by omega)
        by_cases a1 : 0 < r i i' <;> by_cases a2 : p i' - p i < 1 <;> by_cases a3 : r i i' < f i i' <;> by_cases a4 : 1 < p i' - p i <;> (
          simp (maxSteps := 1000000) (disch := omega) only [go_sem,reduceIte,Nat.reduceEqDiff,Nat.reduceLT, e0, e7, e21, dij, a1, a2, a3, a4, idxA22, idxA23, load23, load3, Int.toNat_natCast, Nat.mul_one, l1, l3, wrap_i64]
          first
          | exact no fun a => a i i' (by omega) (by omega) hii (by omega)
          | (refine hJ' (n - (i' + 1)) _ _ (by omega) ⟨i' + 1, by omega, rfl, by simp only [go_sem,reduceIte,Nat.reduceEqDiff,Nat.reduceLT, e0], by simp only [go_sem,reduceIte,Nat.reduceEqDiff,Nat.reduceLT, e2], by simp only [go_sem,reduceIte,Nat.reduceEqDiff,Nat.reduceLT, e7], by simp only [go_sem,reduceIte,Nat.reduceEqDiff,Nat.reduceLT, e12], by simp only [go_sem,reduceIte,Nat.reduceEqDiff,Nat.reduceLT, e13], by simp only [go_sem,reduceIte,Nat.reduceEqDiff,Nat.reduceLT, e14], by simp only [go_sem,reduceIte,Nat.reduceEqDiff,Nat.reduceLT, e19], by simp only [go_sem,reduceIte,Nat.reduceEqDiff,Nat.reduceLT, e20], by (simp only [go_sem,reduceIte,Nat.reduceEqDiff,Nat.reduceLT]) <;> rfl, fun k hk hne => ?_⟩
             by_cases hk2 : k = i'
             · subst hk2; omega
             · exact hall' k (by omega) hne))
    · simp (disch := omega) only [go_sem,reduceIte,Nat.reduceEqDiff,Nat.reduceLT, e14, e19, e20, e21, hlt', wrap_i64]
      refine hJ (n - (i + 1)) _ _ (by omega) ⟨i + 1, by omega, rfl, by simp only [go_sem,reduceIte,Nat.reduceEqDiff,Nat.reduceLT, e0], by simp only [go_sem,reduceIte,Nat.reduceEqDiff,Nat.reduceLT, e2], by simp only [go_sem,reduceIte,Nat.reduceEqDiff,Nat.reduceLT, e12], by simp only [go_sem,reduceIte,Nat.reduceEqDiff,Nat.reduceLT, e13], by (simp only [go_sem,reduceIte,Nat.reduceEqDiff,Nat.reduceLT]) <;> rfl, fun k j hk hj hne => ?_⟩
      by_cases hk2 : k = i
      · subst hk2
        exact hall' j (by omega) hne
      · exact hall k j (by omega) hj hne
  · obtain rfl : i = n := by omega
    simp (disch := omega) only [go_sem,reduceIte,Nat.reduceEqDiff,Nat.reduceLT, e12, e13, e14, hlt]
    exact hQ' _ _ ⟨Pres.refl _ _, ⟨true, rfl, ⟨fun _ => fun k j hk hj hne => hall k j hk hj hne, fun _ => rfl⟩⟩, rfl⟩
end
end Go.Proofs.YtngpoamjhngcgaaGreatDoor.Ev


