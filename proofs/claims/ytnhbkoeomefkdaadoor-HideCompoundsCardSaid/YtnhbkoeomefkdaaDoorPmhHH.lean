/- areSides. -/
import Derived.Test.YtnhbkoeomefkdaaDoorPmhA3
set_option linter.unusedSimpArgs false
set_option linter.unusedVariables false
namespace Go.Proofs.YtnhbkoeomefkdaaDoor.Ev.L
open Go Go.Proofs Go.Proofs.YtnhbkoeomefkdaaDoor.Ev
noncomputable section
theorem ints_get {l : List Int} {i : Nat} {z : Int} (h : l[i]? = some z) : (ints l)[i]? = some (.int .i64 z) := by simp [ints, h]

end
end Go.Proofs.YtnhbkoeomefkdaaDoor.Ev.L

/- Euclid: the program's and the reference's. -/
set_option linter.unusedSimpArgs false
set_option linter.unusedVariables false
namespace Go.Proofs.YtnhbkoeomefkdaaDoor.Ev.L
open Go Go.Proofs Go.Proofs.YtnhbkoeomefkdaaDoor.Ev
noncomputable section

/-- the sizes that are cut off -/
def eu : Nat → Int → Int → List Int
  | 0, _, _ => []
  | k + 1, w, h => if 0 < w ∧ 0 < h then min w h :: (if h < w then eu k (w - min w h) h else eu k w (h - min w h)) else []
end
end Go.Proofs.YtnhbkoeomefkdaaDoor.Ev.L

/- Before and Same. -/
set_option linter.unusedSimpArgs false
set_option linter.unusedVariables false
namespace Go.Proofs.YtnhbkoeomefkdaaDoor.Ev.L
open Go Go.Proofs Go.Proofs.YtnhbkoeomefkdaaDoor.Ev
noncomputable section

/-- the lexicographic order -/
def beforeB : List Int → List Int → Bool
  | [], [] => false
  | [], _ :: _ => true
  | _ :: _, [] => false
  | a :: l, b :: m => if a = b then beforeB l m else decide (a < b)
theorem before_drop {l m : List Int} {k : Nat} {a b : Int} (h1 : l[k]? = some a) (h2 : m[k]? = some b) : beforeB (l.drop k) (m.drop k) = if a = b then beforeB (l.drop (k + 1)) (m.drop (k + 1)) else decide (a < b) := by
  obtain ⟨g1, rfl⟩ := List.getElem?_eq_some_iff.1 h1
  obtain ⟨g2, rfl⟩ := List.getElem?_eq_some_iff.1 h2
  rw [List.drop_eq_getElem_cons g1, List.drop_eq_getElem_cons g2, beforeB]
theorem before_end {l m : List Int} {k : Nat} (h : l.length ≤ k ∨ m.length ≤ k) (hl : k ≤ l.length) (hm : k ≤ m.length) : beforeB (l.drop k) (m.drop k) = decide (l.length < m.length) := by
  rcases Nat.lt_or_ge l.length m.length with h1 | h1
  · have : l.drop k = [] := List.drop_eq_nil_of_le (by omega)
    rw [this, List.drop_eq_getElem_cons (by omega)]
    simp [beforeB, h1]
  · have : m.drop k = [] := List.drop_eq_nil_of_le (by omega)
    rw [this]
    cases l.drop k <;> simp [beforeB] <;> omega
theorem before_irrefl : ∀ l : List Int, beforeB l l = false
  | [] => rfl
  | a :: l => by simp [beforeB, before_irrefl l]

set_option maxHeartbeats 4000000 in
theorem before_spec {G lo1 hi1 lo2 hi2 n1 n2 : Nat} {l m : List Int} {v u : Value} {h : H} (hv : SlV h.blks lo1 hi1 1 n1 (ints l) v) (hu : SlV h.blks lo2 hi2 1 n2 (ints m) u) (hn1 : n1 < 4000000000000000000) (hn2 : n2 < 4000000000000000000) :
    Spec Tryd.prog (En G) 42 [v, u] h fun r _ => r = .bool (beforeB l m) := by
  obtain ⟨A, c, rfl⟩ := hv.shape
  obtain ⟨A', c', rfl⟩ := hu.shape
  have hl : l.length = n1 := by have := hv.len; rw [ints_len] at this; omega
  have hm : m.length = n2 := by have := hu.len; rw [ints_len] at this; omega
  refine CallsE_enter (En_known (by decide)) (En_f.trans Tryd.func42) rfl ⟨Nat.le_of_ble_eq_true rfl, by decide⟩ fun Q' hQ' => ?_
  simp only [Tryd.f42, go_sem,reduceIte,Nat.reduceEqDiff,Nat.reduceLT]
  refine WK_loopN (fun j α h1 => ∃ k : Nat, k + j = n1 ∧ k ≤ n2 ∧ h1 = h ∧ α.get 0 = some (.slice A n1 c) ∧ α.get 1 = some (.slice A' n2 c') ∧ α.get 5 = some (.int .i64 k) ∧ beforeB (l.drop k) (m.drop k) = beforeB l m) n1
    ⟨0, by omega, by omega, rfl, by simp only [go_sem,reduceIte,Nat.reduceEqDiff,Nat.reduceLT], by simp only [go_sem,reduceIte,Nat.reduceEqDiff,Nat.reduceLT], by simp only [go_sem,reduceIte,Nat.reduceEqDiff,Nat.reduceLT]; rfl, by simp⟩ (by omega) ?_
  rintro J j α h1 ⟨k, hk, hk2, rfl, e0, e1, e5, hb⟩ hJ
  by_cases hlt : k < n1 ∧ k < n2
  · obtain ⟨hlt1, hlt2⟩ := hlt
    have g1 : (k : Int) < n1 := by omega
    have g2 : (k : Int) < n2 := by omega
    obtain ⟨b, off, rfl, _, _, hld⟩ := hv.at_ (by omega)
    obtain ⟨b', off', rfl, _, _, hld'⟩ := hu.at_ (by omega)
    obtain ⟨y, hy⟩ : ∃ y, l[k]? = some y := ⟨l[k]'(by omega), List.getElem?_eq_getElem (by omega)⟩
    obtain ⟨z, hz⟩ : ∃ z, m[k]? = some z := ⟨m[k]'(by omega), List.getElem?_eq_getElem (by omega)⟩
    have hld := hld k (by omega)
    have hld' := hld' k (by omega)
    rw [ints_get hy] at hld
    rw [ints_get hz] at hld'
    rw [before_drop hy hz] at hb
    simp (disch := omega) only [go_sem,reduceIte,Nat.reduceEqDiff,Nat.reduceLT, e0, e1, e5, len27, g1, g2]
    refine WK_regionT 8 ⟨by kernel_rfl, by kernel_rfl, by kernel_rfl⟩ ?_
    by_cases hyz : y = z
    · simp (disch := omega) only [go_sem,reduceIte,Nat.reduceEqDiff,Nat.reduceLT, e0, e1, e5, idxA27, load3, Int.toNat_natCast, Nat.mul_one, hld, hld', hyz, ne_eq, not_true_eq_false, wrap_i64]
      rw [if_pos hyz] at hb
      exact hJ (j - 1) _ _ (by omega) ⟨k + 1, by omega, by omega, rfl, by simp only [go_sem,reduceIte,Nat.reduceEqDiff,Nat.reduceLT, e0], by simp only [go_sem,reduceIte,Nat.reduceEqDiff,Nat.reduceLT, e1], by simp only [go_sem,reduceIte,Nat.reduceEqDiff,Nat.reduceLT]; rfl, hb⟩
    · simp (disch := omega) only [go_sem,reduceIte,Nat.reduceEqDiff,Nat.reduceLT, e0, e1, e5, idxA27, load3, Int.toNat_natCast, Nat.mul_one, hld, hld', hyz, ne_eq, not_false_eq_true]
      refine WK_regionT 8 ⟨by kernel_rfl, by kernel_rfl, by kernel_rfl⟩ ?_
      simp (disch := omega) only [go_sem,reduceIte,Nat.reduceEqDiff,Nat.reduceLT, e0, e1, e5, idxA27, load3, Int.toNat_natCast, Nat.mul_one, hld, hld']
      rw [if_neg hyz] at hb
      exact hQ' _ _ ⟨Pres.refl _ _, by rw [← hb]⟩
  · have hend := before_end (l := l) (m := m) (k := k) (by omega) (by omega) (by omega)
    rw [hb] at hend
    have hfin : (decide ((n1 : Int) < n2)) = beforeB l m := by
      rw [hend, hl, hm]
      by_cases h : n1 < n2 <;> simp [h]
    by_cases g1 : (k : Int) < n1
    · have g2 : ¬ (k : Int) < n2 := by omega
      simp (disch := omega) only [go_sem,reduceIte,Nat.reduceEqDiff,Nat.reduceLT, e0, e1, e5, len27, g1, g2]
      exact hQ' _ _ ⟨Pres.refl _ _, by rw [← hfin]⟩
    · simp (disch := omega) only [go_sem,reduceIte,Nat.reduceEqDiff,Nat.reduceLT, e0, e1, e5, len27, g1]
      exact hQ' _ _ ⟨Pres.refl _ _, by rw [← hfin]⟩

set_option maxHeartbeats 4000000 in
theorem same_spec {G lo1 hi1 lo2 hi2 n1 n2 : Nat} {l : List Int} {v u : Value} {h : H} (hv : SlV h.blks lo1 hi1 1 n1 (ints l) v) (hu : SlV h.blks lo2 hi2 1 n2 (ints l) u) (h1 : hi1 ≤ h.next) (h2 : hi2 ≤ h.next) (hn1 : n1 < 4000000000000000000) (hn2 : n2 < 4000000000000000000) :
    Spec Tryd.prog (En G) 20 [v, u] h fun r _ => r = .bool true := by
  refine CallsE_enter (En_known (by decide)) (En_f.trans Tryd.func20) rfl ⟨Nat.le_of_ble_eq_true rfl, by decide⟩ fun Q' hQ' => ?_
  simp only [Tryd.f20, go_sem,reduceIte,Nat.reduceEqDiff,Nat.reduceLT]
  refine CallO_f (before_spec hv hu hn1 hn2) (by omega) fun r h3 hp hr => ?_
  subst hr
  simp only [go_sem,reduceIte,Nat.reduceEqDiff,Nat.reduceLT, before_irrefl]
  have hv' : SlV h3.blks lo1 hi1 1 n1 (ints l) v := hv.mono fun b _ hb => hp.get b (by omega)
  have hu' : SlV h3.blks lo2 hi2 1 n2 (ints l) u := hu.mono fun b _ hb => hp.get b (by omega)
  refine CallO_f (before_spec hu' hv' hn2 hn1) (by omega) fun r h4 hp2 hr => ?_
  subst hr
  simp only [go_sem,reduceIte,Nat.reduceEqDiff,Nat.reduceLT, before_irrefl]
  exact hQ' _ _ ⟨hp.trans (hp2.le (by have := hp.next; omega)), rfl⟩
end
end Go.Proofs.YtnhbkoeomefkdaaDoor.Ev.L

