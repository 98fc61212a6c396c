/- areSides. -/
import Derived.Test.YtnhbkoeomefkdaaDoorPmhA3
set_option linter.unusedSimpArgs false
set_option linter.unusedVariables false
namespace Go.Proofs.YtnhbkoeomefkdaaDoor.Ev.L
open Go Go.Proofs Go.Proofs.YtnhbkoeomefkdaaDoor.Ev
noncomputable section
def sideOk (z : Int) : Bool := decide (1 ≤ z) && decide (z ≤ 1000)
theorem ints_get {l : List Int} {i : Nat} {z : Int} (h : l[i]? = some z) : (ints l)[i]? = some (.int .i64 z) := by simp [ints, h]

theorem all_step {p : Int → Bool} {zs : List Int} {k : Nat} {z : Int} (h : (zs.take k).all p = true) (hz : zs[k]? = some z) (hp : p z = true) : (zs.take (k + 1)).all p = true := by
  rw [List.take_add_one, hz]; simp [List.all_append, h, hp]
theorem all_fails {p : Int → Bool} {zs : List Int} {k : Nat} {z : Int} (hz : zs[k]? = some z) (hp : p z = false) : zs.all p = false := by
  rw [List.all_eq_false]
  exact ⟨z, List.mem_of_getElem? hz, by simp [hp]⟩

set_option maxHeartbeats 1000000 in
theorem areSides_spec {G lo hi n : Nat} {l : List Int} {v : Value} {h : H} (hv : SlV h.blks lo hi 1 n (ints l) v) (hn : n < 4000000000000000000) :
    Spec Tryd.prog (En G) 43 [v] h fun u _ => u = .bool (l.all sideOk) := by
  obtain ⟨A, c, rfl⟩ := hv.shape
  have hl : l.length = n := by have := hv.len; rw [ints_len] at this; omega
  refine CallsE_enter (En_known (by decide)) (En_f.trans Tryd.func43) rfl ⟨Nat.le_of_ble_eq_true rfl, by decide⟩ fun Q' hQ' => ?_
  simp only [Tryd.f43, go_sem,reduceIte,Nat.reduceEqDiff,Nat.reduceLT, len27]
  refine WK_loopN (fun j α h1 => ∃ k : Nat, k + j = n ∧ h1 = h ∧ α.get 5 = some (.slice A n c) ∧ α.get 6 = some (.int .i64 n) ∧ α.get 7 = some (.int .i64 k) ∧ (l.take k).all sideOk = true) n
    ⟨0, by omega, rfl, by simp only [go_sem,reduceIte,Nat.reduceEqDiff,Nat.reduceLT], by simp only [go_sem,reduceIte,Nat.reduceEqDiff,Nat.reduceLT], by simp only [go_sem,reduceIte,Nat.reduceEqDiff,Nat.reduceLT]; rfl, by simp⟩ (by omega) ?_
  rintro J j α h1 ⟨k, hk, rfl, h5, h6, h7, hall⟩ hJ
  simp only [go_sem,reduceIte,Nat.reduceEqDiff,Nat.reduceLT, h5, h6, h7]
  refine Cond_dec (fun hlt => ?_) (fun hge => ?_)
  · have hkn : k < n := by omega
    obtain ⟨b, off, rfl, _, _, hld⟩ := hv.at_ (by omega)
    obtain ⟨z, hz⟩ : ∃ z, l[k]? = some z := ⟨l[k]'(by omega), List.getElem?_eq_getElem (by omega)⟩
    have hld := hld k (by omega)
    rw [ints_get hz] at hld
    by_cases hlo : z < 1
    · simp (disch := omega) only [go_sem,reduceIte,Nat.reduceEqDiff,Nat.reduceLT, h5, h6, h7, idxA27, load3, Int.toNat_natCast, Nat.mul_one, hld, hlo]
      exact hQ' _ _ ⟨Pres.refl _ _, by rw [all_fails hz (by simp [sideOk]; omega)]⟩
    · by_cases hhi : 1000 < z
      · simp (disch := omega) only [go_sem,reduceIte,Nat.reduceEqDiff,Nat.reduceLT, h5, h6, h7, idxA27, load3, Int.toNat_natCast, Nat.mul_one, hld, hlo, hhi]
        exact hQ' _ _ ⟨Pres.refl _ _, by rw [all_fails hz (by simp [sideOk]; omega)]⟩
      · simp (disch := omega) only [go_sem,reduceIte,Nat.reduceEqDiff,Nat.reduceLT, h5, h6, h7, idxA27, load3, Int.toNat_natCast, Nat.mul_one, hld, hlo, hhi, wrap_i64]
        exact hJ (j - 1) _ _ (by omega) ⟨k + 1, by omega, rfl, by simp only [go_sem,reduceIte,Nat.reduceEqDiff,Nat.reduceLT, h5], by simp only [go_sem,reduceIte,Nat.reduceEqDiff,Nat.reduceLT, h6], by simp only [go_sem,reduceIte,Nat.reduceEqDiff,Nat.reduceLT]; rfl, all_step hall hz (by simp [sideOk]; omega)⟩
  · simp only [go_sem,reduceIte,Nat.reduceEqDiff,Nat.reduceLT, h5, h6, h7]
    exact hQ' _ _ ⟨Pres.refl _ _, by rw [← hall, List.take_of_length_le (by omega)]⟩
end
end Go.Proofs.YtnhbkoeomefkdaaDoor.Ev.L

/- Euclid: the program's and the reference's. -/
set_option linter.unusedSimpArgs false
set_option linter.unusedVariables false
namespace Go.Proofs.YtnhbkoeomefkdaaDoor.Ev.L
open Go Go.Proofs Go.Proofs.YtnhbkoeomefkdaaDoor.Ev
noncomputable section

/-- the sizes that are cut off -/
def eu : Nat → Int → Int → List Int
  | 0, _, _ => []
  | k + 1, w, h => if 0 < w ∧ 0 < h then min w h :: (if h < w then eu k (w - min w h) h else eu k w (h - min w h)) else []
end
end Go.Proofs.YtnhbkoeomefkdaaDoor.Ev.L

