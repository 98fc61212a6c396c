/- Rising lists, and how often each distance comes. -/
import Derived.Test.YtoeblkenmjbfiaaDoorPmoG0
set_option linter.unusedSimpArgs false
set_option linter.unusedVariables false
namespace Go.Proofs.YtoeblkenmjbfiaaDoor.Ev
open Go Go.Proofs
noncomputable section

def ilst (n : Nat) (f : Nat → Int) : List Int := (List.range n).map f
theorem ilst_len {n : Nat} {f : Nat → Int} : (ilst n f).length = n := by simp [ilst]
theorem ilst_succ {n : Nat} {f : Nat → Int} : ilst (n + 1) f = ilst n f ++ [f n] := by simp [ilst, List.range_succ]
theorem ints_ilst {n : Nat} {f : Nat → Int} : intsL n f = ints (ilst n f) := ints_ints

def RiseP (n : Nat) (g : Int) (f : Nat → Int) : Prop := (∀ i, i < n → 0 ≤ f i ∧ f i ≤ g ∧ (0 < i → f (i - 1) < f i)) ∧ 0 < n
theorem RiseP.lt {n : Nat} {g : Int} {f : Nat → Int} (h : RiseP n g f) {i : Nat} : ∀ {j : Nat}, i < j → j < n → f i < f j := by
  intro j
  induction j with
  | zero => intro h1; omega
  | succ j ih =>
    intro h1 h2
    have h3 := (h.1 (j + 1) h2).2.2 (by omega)
    rw [Nat.add_sub_cancel] at h3
    by_cases e : i = j
    · subst e; exact h3
    · have := ih (by omega) (by omega)
      omega

set_option maxHeartbeats 4000000 in
theorem rise_spec {G lo hi n c : Nat} {A : Option Addr} {f : Nat → Int} {g : Int} {h : H} (hv : SlV h.blks lo hi 1 n (intsL n f) (.slice A n c)) (hn : n < 2147483648) :
    Spec Tryd.prog (En G) 22 [.slice A n c, .int .i64 g] h fun v h' => (∃ b, v = .bool b ∧ (b = true ↔ RiseP n g f)) ∧ h' = h := by
  refine CallsE_enter (En_known (by decide)) (En_f.trans Tryd.func22) rfl ⟨Nat.le_of_ble_eq_true rfl, by decide⟩ fun Q' hQ' => ?_
  have no : ¬ RiseP n g f → Q' (.bool false) h := fun hh => hQ' _ _ ⟨Pres.refl _ _, ⟨false, rfl, ⟨fun e => (by cases e), fun e => absurd e hh⟩⟩, rfl⟩
  simp only [Tryd.f22, go_sem,reduceIte,Nat.reduceEqDiff,Nat.reduceLT, len24]
  refine WK_loopN (fun j α h2 => ∃ i : Nat, i + j = n ∧ h2 = h ∧ α.get 0 = some (.slice A n c) ∧ α.get 1 = some (.int .i64 g) ∧ α.get 7 = some (.slice A n c) ∧ α.get 8 = some (.int .i64 n) ∧ α.get 9 = some (.int .i64 i) ∧
      ∀ k, k < i → 0 ≤ f k ∧ f k ≤ g ∧ (0 < k → f (k - 1) < f k)) n
    ⟨0, by omega, rfl, by simp only [go_sem,reduceIte,Nat.reduceEqDiff,Nat.reduceLT], by simp only [go_sem,reduceIte,Nat.reduceEqDiff,Nat.reduceLT], by simp only [go_sem,reduceIte,Nat.reduceEqDiff,Nat.reduceLT], by simp only [go_sem,reduceIte,Nat.reduceEqDiff,Nat.reduceLT], by (simp only [go_sem,reduceIte,Nat.reduceEqDiff,Nat.reduceLT]) <;> rfl, fun k hk => absurd hk (Nat.not_lt_zero k)⟩ (by omega) ?_
  rintro J j α h2 ⟨i, hij, rfl, e0, e1, e7, e8, e9, hall⟩ hJ
  by_cases hlt : (i : Int) < n
  · obtain ⟨b, off, rfl, hld⟩ := hv.ints_at (by omega)
    have l1 := hld i (by omega)
    by_cases c1 : f i < 0
    · simp (disch := omega) only [go_sem,reduceIte,Nat.reduceEqDiff,Nat.reduceLT, e0, e1, e7, e8, e9, hlt, idxA24, load3, Int.toNat_natCast, Nat.mul_one, l1, c1]
      exact no fun a => by have := (a.1 i (by omega)).1; omega
    · by_cases c2 : g < f i
      · simp (disch := omega) only [go_sem,reduceIte,Nat.reduceEqDiff,Nat.reduceLT, e0, e1, e7, e8, e9, hlt, idxA24, load3, Int.toNat_natCast, Nat.mul_one, l1, c1, c2]
        exact no fun a => by have := (a.1 i (by omega)).2.1; omega
      · by_cases c3 : (0 : Int) < i
        · have l2 : loadv h2.blks b (off + ((i : Int) - 1).toNat) = some (.int .i64 (f (i - 1))) := by
            rw [show ((i : Int) - 1).toNat = i - 1 by omega]
            exact hld (i - 1) (by omega)
          by_cases c4 : f i ≤ f (i - 1)
          · simp (disch := omega) only [go_sem,reduceIte,Nat.reduceEqDiff,Nat.reduceLT, e0, e1, e7, e8, e9, hlt, idxA24, load3, Int.toNat_natCast, Nat.mul_one, l1, c1, c2, c3, wrap_i64, l2, c4]
            exact no fun a => by have := (a.1 i (by omega)).2.2 (by omega); omega
          · simp (disch := omega) only [go_sem,reduceIte,Nat.reduceEqDiff,Nat.reduceLT, e0, e1, e7, e8, e9, hlt, idxA24, load3, Int.toNat_natCast, Nat.mul_one, l1, c1, c2, c3, wrap_i64, l2, c4]
            refine hJ (n - (i + 1)) _ _ (by omega) ⟨i + 1, by omega, rfl, by simp only [go_sem,reduceIte,Nat.reduceEqDiff,Nat.reduceLT, e0], by simp only [go_sem,reduceIte,Nat.reduceEqDiff,Nat.reduceLT, e1], by simp only [go_sem,reduceIte,Nat.reduceEqDiff,Nat.reduceLT, e7], by simp only [go_sem,reduceIte,Nat.reduceEqDiff,Nat.reduceLT, e8], by (simp only [go_sem,reduceIte,Nat.reduceEqDiff,Nat.reduceLT]) <;> rfl, fun k hk => ?_⟩
            by_cases hk2 : k = i
            · subst hk2; exact ⟨by omega, by omega, fun _ => by omega⟩
            · exact hall k (by omega)
        · simp (disch := omega) only [go_sem,reduceIte,Nat.reduceEqDiff,Nat.reduceLT, e0, e1, e7, e8, e9, hlt, idxA24, load3, Int.toNat_natCast, Nat.mul_one, l1, c1, c2, c3, wrap_i64]
          refine hJ (n - (i + 1)) _ _ (by omega) ⟨i + 1, by omega, rfl, by simp only [go_sem,reduceIte,Nat.reduceEqDiff,Nat.reduceLT, e0], by simp only [go_sem,reduceIte,Nat.reduceEqDiff,Nat.reduceLT, e1], by simp only [go_sem,reduceIte,Nat.reduceEqDiff,Nat.reduceLT, e7], by simp only [go_sem,reduceIte,Nat.reduceEqDiff,Nat.reduceLT, e8], by (simp only [go_sem,reduceIte,Nat.reduceEqDiff,Nat.reduceLT]) <;> rfl, fun k hk => ?_⟩
          by_cases hk2 : k = i
          · subst hk2; exact ⟨by omega, by omega, fun _ => by omega⟩
          · exact hall k (by omega)
  · obtain rfl : i = n := by omega
    by_cases c0 : (0 : Int) < i
    · simp (disch := omega) only [go_sem,reduceIte,Nat.reduceEqDiff,Nat.reduceLT, e0, e1, e7, e8, e9, hlt, len24, c0]
      exact hQ' _ _ ⟨Pres.refl _ _, ⟨true, rfl, ⟨fun _ => ⟨hall, by omega⟩, fun _ => rfl⟩⟩, rfl⟩
    · simp (disch := omega) only [go_sem,reduceIte,Nat.reduceEqDiff,Nat.reduceLT, e0, e1, e7, e8, e9, hlt, len24, c0]
      exact no fun a => by have := a.2; omega

/-- a strap -/
def StrapP (n : Nat) (f : Nat → Int) : Prop := RiseP n 1000 f ∧ f 0 = 0
end
end Go.Proofs.YtoeblkenmjbfiaaDoor.Ev


