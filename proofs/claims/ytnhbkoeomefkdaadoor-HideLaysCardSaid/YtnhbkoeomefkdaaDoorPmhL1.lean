/- room: the leftmost column with the least floor. -/
import Derived.Test.YtnhbkoeomefkdaaDoorPmhH5
set_option linter.unusedSimpArgs false
set_option linter.unusedVariables false
namespace Go.Proofs.YtnhbkoeomefkdaaDoor.Ev.L
open Go Go.Proofs Go.Proofs.YtnhbkoeomefkdaaDoor.Ev
noncomputable section

theorem ints_getD {l : List Int} {i : Nat} (h : i < l.length) : (ints l)[i]? = some (.int .i64 (l.getD i 0)) := by
  rw [ints_get (z := l.getD i 0)]
  rw [List.getD, List.getElem?_eq_getElem h]; rfl

/-- where there is room: the leftmost least column, and how many are as low from there on -/
structure RoomOf (l : List Int) (k n : Nat) : Prop where
  le : k + n ≤ l.length
  low : ∀ i, i < l.length → l.getD k 0 ≤ l.getD i 0
  left : ∀ i, i < k → l.getD k 0 < l.getD i 0
  flat : ∀ i, k ≤ i → i < k + n → l.getD i 0 = l.getD k 0
  wall : k + n < l.length → l.getD (k + n) 0 ≠ l.getD k 0
  pos : 0 < n

set_option maxHeartbeats 4000000 in
theorem room_spec {G lo hi n : Nat} {l : List Int} {v : Value} {h : H} (hv : SlV h.blks lo hi 1 n (ints l) v) (h0 : 0 < n) (hn : n < 4000000000000000000) :
    Spec Tryd.prog (En G) 63 [v] h fun u h' => h' = h ∧ ∃ k m : Nat, u = .tuple #[.int .i64 k, .int .i64 m] ∧ RoomOf l k m := by
  obtain ⟨A, c, rfl⟩ := hv.shape
  have hl : l.length = n := by have := hv.len; rw [ints_len] at this; omega
  obtain ⟨b, off, rfl, _, _, hld⟩ := hv.at_ h0
  have hld : ∀ i, i < n → loadv h.blks b (off + i) = some (.int .i64 (l.getD i 0)) := fun i hi => by rw [hld i (by omega), ints_getD (by omega)]
  refine CallsE_enter (En_known (by decide)) (En_f.trans Tryd.func63) rfl ⟨Nat.le_of_ble_eq_true rfl, by decide⟩ fun Q' hQ' => ?_
  simp only [Tryd.f63, go_sem,reduceIte,Nat.reduceEqDiff,Nat.reduceLT, len96]
  refine WK_loopN (fun j α h1 => ∃ k m : Nat, k + j = n ∧ h1 = h ∧ (m < k ∨ m = 0) ∧ α.get 0 = some (.slice (some ⟨b, off, none⟩) n c) ∧ α.get 4 = some (.int .i64 m) ∧ α.get 8 = some (.slice (some ⟨b, off, none⟩) n c) ∧ α.get 9 = some (.int .i64 n) ∧ α.get 10 = some (.int .i64 k) ∧
      (∀ i, i < k → l.getD m 0 ≤ l.getD i 0) ∧ (∀ i, i < m → l.getD m 0 < l.getD i 0)) n
    ⟨0, 0, by omega, rfl, by omega, by simp only [go_sem,reduceIte,Nat.reduceEqDiff,Nat.reduceLT], by (simp only [go_sem,reduceIte,Nat.reduceEqDiff,Nat.reduceLT]) <;> rfl, by simp only [go_sem,reduceIte,Nat.reduceEqDiff,Nat.reduceLT], by simp only [go_sem,reduceIte,Nat.reduceEqDiff,Nat.reduceLT], by (simp only [go_sem,reduceIte,Nat.reduceEqDiff,Nat.reduceLT]) <;> rfl, fun i hi => by omega, fun i hi => by omega⟩ (by omega) ?_
  rintro J j α h1 ⟨k, m, hk, rfl, hmk, e0, e4, e8, e9, e10, hmin, hleft⟩ hJ
  by_cases hlt : (k : Int) < n
  · have hkn : k < n := by omega
    have hmn : m < n := by omega
    have l1 := hld k hkn
    have l2 := hld m hmn
    by_cases hc : l.getD k 0 < l.getD m 0
    · simp (disch := omega) only [go_sem,reduceIte,Nat.reduceEqDiff,Nat.reduceLT, e0, e4, e8, e9, e10, hlt, hc, idxA96, load3, Int.toNat_natCast, Nat.mul_one, l1, l2, wrap_i64]
      refine hJ (j - 1) _ _ (by omega) ⟨k + 1, k, by omega, rfl, by omega, by simp only [go_sem,reduceIte,Nat.reduceEqDiff,Nat.reduceLT, e0], by simp only [go_sem,reduceIte,Nat.reduceEqDiff,Nat.reduceLT], by simp only [go_sem,reduceIte,Nat.reduceEqDiff,Nat.reduceLT, e8], by simp only [go_sem,reduceIte,Nat.reduceEqDiff,Nat.reduceLT, e9], by (simp only [go_sem,reduceIte,Nat.reduceEqDiff,Nat.reduceLT]) <;> rfl, fun i hi => ?_, fun i hi => ?_⟩
      · by_cases hik : i = k
        · subst hik; exact Int.le_refl _
        · have := hmin i (by omega); omega
      · have := hmin i hi; omega
    · simp (disch := omega) only [go_sem,reduceIte,Nat.reduceEqDiff,Nat.reduceLT, e0, e4, e8, e9, e10, hlt, hc, idxA96, load3, Int.toNat_natCast, Nat.mul_one, l1, l2, wrap_i64]
      refine hJ (j - 1) _ _ (by omega) ⟨k + 1, m, by omega, rfl, by omega, by simp only [go_sem,reduceIte,Nat.reduceEqDiff,Nat.reduceLT, e0], by simp only [go_sem,reduceIte,Nat.reduceEqDiff,Nat.reduceLT, e4], by simp only [go_sem,reduceIte,Nat.reduceEqDiff,Nat.reduceLT, e8], by simp only [go_sem,reduceIte,Nat.reduceEqDiff,Nat.reduceLT, e9], by (simp only [go_sem,reduceIte,Nat.reduceEqDiff,Nat.reduceLT]) <;> rfl, fun i hi => ?_, hleft⟩
      by_cases hik : i = k
      · subst hik; omega
      · exact hmin i (by omega)
  · have hkn : k = n := by omega
    subst hkn
    have hmn : m < k := by omega
    simp (disch := omega) only [go_sem,reduceIte,Nat.reduceEqDiff,Nat.reduceLT, e0, e4, e8, e9, e10, hlt]
    clear hJ
    refine WK_loopN (fun j α h2 => ∃ t : Nat, m ≤ t ∧ t + j = k ∧ h2 = h1 ∧ α.get 0 = some (.slice (some ⟨b, off, none⟩) k c) ∧ α.get 4 = some (.int .i64 m) ∧ α.get 7 = some (.int .i64 t) ∧ (∀ i, m ≤ i → i < t → l.getD i 0 = l.getD m 0)) (k - m)
      ⟨m, Nat.le_refl _, by omega, rfl, by simp only [go_sem,reduceIte,Nat.reduceEqDiff,Nat.reduceLT, e0], by simp only [go_sem,reduceIte,Nat.reduceEqDiff,Nat.reduceLT, e4], by simp only [go_sem,reduceIte,Nat.reduceEqDiff,Nat.reduceLT, e4], fun i hi hi' => by omega⟩ (by omega) ?_
    clear e0 e4 e8 e9 e10
    rintro J2 j2 α2 h2 ⟨t, hmt, ht, rfl, e0, e4, e7, hflat⟩ hJ2
    simp only [go_sem,reduceIte,Nat.reduceEqDiff,Nat.reduceLT]
    refine WK_regionT 13 ⟨by kernel_rfl, by kernel_rfl, by kernel_rfl⟩ ?_
    have done : (t < k → l.getD t 0 ≠ l.getD m 0) → RoomOf l m (t - m) := fun hw => by
      have hmt' : m < t := by
        rcases Nat.lt_or_ge m t with h | h
        · exact h
        · have : t = m := by omega
          subst this
          exact absurd rfl (hw hmn)
      exact ⟨by omega, fun i hi => hmin i (by omega), hleft, fun i h1 h2 => hflat i h1 (by omega), fun h1 => by rw [show m + (t - m) = t by omega]; exact hw (by omega), by omega⟩
    by_cases htk : (t : Int) < k
    · have l1 := hld t (by omega)
      have l2 := hld m hmn
      by_cases hq : l.getD t 0 = l.getD m 0
      · simp (disch := omega) only [go_sem,reduceIte,Nat.reduceEqDiff,Nat.reduceLT, e0, e4, e7, len96, htk, hq, idxA96, load3, Int.toNat_natCast, Nat.mul_one, l1, l2, wrap_i64]
        refine hJ2 (j2 - 1) _ _ (by omega) ⟨t + 1, by omega, by omega, rfl, by simp only [go_sem,reduceIte,Nat.reduceEqDiff,Nat.reduceLT, e0], by simp only [go_sem,reduceIte,Nat.reduceEqDiff,Nat.reduceLT, e4], by (simp only [go_sem,reduceIte,Nat.reduceEqDiff,Nat.reduceLT]) <;> rfl, fun i h1 h2 => ?_⟩
        by_cases hit : i = t
        · subst hit; exact hq
        · exact hflat i h1 (by omega)
      · simp (disch := omega) only [go_sem,reduceIte,Nat.reduceEqDiff,Nat.reduceLT, e0, e4, e7, len96, htk, hq, idxA96, load3, Int.toNat_natCast, Nat.mul_one, l1, l2, wrap_i64]
        refine hQ' _ _ ⟨Pres.refl _ _, rfl, m, t - m, ?_, done fun _ => hq⟩
        rw [show ((t - m : Nat) : Int) = (t : Int) - m by omega]
    · simp (disch := omega) only [go_sem,reduceIte,Nat.reduceEqDiff,Nat.reduceLT, e0, e4, e7, len96, htk, wrap_i64]
      refine hQ' _ _ ⟨Pres.refl _ _, rfl, m, t - m, ?_, done fun h => by omega⟩
      rw [show ((t - m : Nat) : Int) = (t : Int) - m by omega]
end
end Go.Proofs.YtnhbkoeomefkdaaDoor.Ev.L

