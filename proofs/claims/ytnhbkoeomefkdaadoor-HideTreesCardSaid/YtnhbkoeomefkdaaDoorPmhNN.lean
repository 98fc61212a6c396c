/- What a part is: comparisons of parts; the squares between two. -/
import Derived.Test.YtnhbkoeomefkdaaDoorPmhM1
import Derived.Test.YtnhbkoeomefkdaaDoorPmhLL
import Derived.Laws.StructEq
set_option linter.unusedVariables false
set_option linter.unusedSimpArgs false
namespace Go.Proofs.YtnhbkoeomefkdaaDoor.Ev.L
open Go Go.Proofs Go.Proofs.YtnhbkoeomefkdaaDoor.Ev
noncomputable section

theorem isNaN_spec {G : Nat} {x : Int} {h : H} : Spec Tryd.prog (En G) 82 [.int .i64 x] h fun v h' => v = .bool false ∧ h' = h := by
  refine CallsE_enter (En_known (by decide)) (En_f.trans Tryd.func82) rfl ⟨Nat.le_of_ble_eq_true rfl, by decide⟩ fun Q' hQ' => ?_
  have d : decide (x ≠ x) = false := decide_eq_false fun e => e rfl
  simp only [Tryd.f82, go_sem,reduceIte,Nat.reduceEqDiff,Nat.reduceLT, d]
  exact hQ' _ _ ⟨Pres.refl _ _, rfl, rfl⟩
def cmp (x y : Int) : Int := if x < y then -1 else if y < x then 1 else 0
theorem Compare_spec {G : Nat} {x y : Int} {h : H} : Spec Tryd.prog (En G) 68 [.int .i64 x, .int .i64 y] h fun v h' => v = .int .i64 (cmp x y) ∧ h' = h := by
  refine CallsE_enter (En_known (by decide)) (En_f.trans Tryd.func68) rfl ⟨Nat.le_of_ble_eq_true rfl, by decide⟩ fun Q' hQ' => ?_
  simp only [Tryd.f68, go_sem,reduceIte,Nat.reduceEqDiff,Nat.reduceLT]
  refine CallO_same (Q := fun v => v = .bool false) isNaN_spec (by omega) fun u hu => ?_
  subst hu
  simp only [go_sem,reduceIte,Nat.reduceEqDiff,Nat.reduceLT]
  refine CallO_same (Q := fun v => v = .bool false) isNaN_spec (by omega) fun u hu => ?_
  subst hu
  by_cases h1 : x < y
  · simp only [go_sem,reduceIte,Nat.reduceEqDiff,Nat.reduceLT, h1]
    exact hQ' _ _ ⟨Pres.refl _ _, by unfold cmp; rw [if_pos h1], rfl⟩
  · by_cases h2 : y < x
    · simp only [go_sem,reduceIte,Nat.reduceEqDiff,Nat.reduceLT, h1, h2]
      exact hQ' _ _ ⟨Pres.refl _ _, by unfold cmp; rw [if_neg h1, if_pos h2], rfl⟩
    · simp only [go_sem,reduceIte,Nat.reduceEqDiff,Nat.reduceLT, h1, h2]
      exact hQ' _ _ ⟨Pres.refl _ _, by unfold cmp; rw [if_neg h1, if_neg h2], rfl⟩
/-- cmp.Or of two numbers -/
theorem Or_spec {G lo hi : Nat} {x y : Int} {A : Option Addr} {c : Nat} {h : H} (hv : SlV h.blks lo hi 1 2 [.int .i64 x, .int .i64 y] (.slice A 2 c)) : Spec Tryd.prog (En G) 67 [.slice A 2 c] h fun v h' => v = .int .i64 (if x ≠ 0 then x else y) ∧ h' = h := by
  refine CallsE_enter (En_known (by decide)) (En_f.trans Tryd.func67) rfl ⟨Nat.le_of_ble_eq_true rfl, by decide⟩ fun Q' hQ' => ?_
  obtain ⟨b, off, rfl, _, _, hld⟩ := hv.at_ (by omega)
  have l0 := hld 0 (by simp)
  have l1 := hld 1 (by simp)
  simp only [List.getElem?_cons_zero, List.getElem?_cons_succ, Nat.add_zero] at l0 l1
  simp only [Tryd.f67, go_sem,reduceIte,Nat.reduceEqDiff,Nat.reduceLT, len27]
  refine WK_loopN (fun j α h2 => ∃ i : Nat, i + j = 2 ∧ h2 = h ∧ (i = 1 → x = 0) ∧ (i = 2 → x = 0 ∧ y = 0) ∧ α.get 3 = some (.int .i64 0) ∧ α.get 6 = some (.slice (some ⟨b, off, none⟩) 2 c) ∧ α.get 7 = some (.int .i64 2) ∧ α.get 8 = some (.int .i64 i)) 2
    ⟨0, rfl, rfl, by omega, by omega, by simp only [go_sem,reduceIte,Nat.reduceEqDiff,Nat.reduceLT], by simp only [go_sem,reduceIte,Nat.reduceEqDiff,Nat.reduceLT], by (simp only [go_sem,reduceIte,Nat.reduceEqDiff,Nat.reduceLT]) <;> rfl, by (simp only [go_sem,reduceIte,Nat.reduceEqDiff,Nat.reduceLT]) <;> rfl⟩ (by omega) ?_
  rintro J j α h2 ⟨i, hij, rfl, hx, hy, e3, e6, e7, e8⟩ hJ
  obtain rfl | rfl | rfl : i = 0 ∨ i = 1 ∨ i = 2 := by omega
  · have c1 : ((0 : Nat) : Int) < 2 := by decide
    have i0 : Int.toNat ((0 : Nat) : Int) = 0 := rfl
    by_cases h0 : x = 0
    · have d : decide (x ≠ 0) = false := decide_eq_false fun e => e h0
      simp (disch := omega) only [go_sem,reduceIte,Nat.reduceEqDiff,Nat.reduceLT, e3, e6, e7, e8, c1, idxA27, i0, Nat.zero_mul, Nat.add_zero, load3, l0, d, wrap_i64]
      exact hJ 1 _ _ (by omega) ⟨1, rfl, rfl, fun _ => h0, by omega, by simp only [go_sem,reduceIte,Nat.reduceEqDiff,Nat.reduceLT, e3], by simp only [go_sem,reduceIte,Nat.reduceEqDiff,Nat.reduceLT, e6], by simp only [go_sem,reduceIte,Nat.reduceEqDiff,Nat.reduceLT, e7], by (simp only [go_sem,reduceIte,Nat.reduceEqDiff,Nat.reduceLT]) <;> rfl⟩
    · have d : decide (x ≠ 0) = true := decide_eq_true h0
      simp (disch := omega) only [go_sem,reduceIte,Nat.reduceEqDiff,Nat.reduceLT, e3, e6, e7, e8, c1, idxA27, i0, Nat.zero_mul, Nat.add_zero, load3, l0, d]
      exact hQ' _ _ ⟨Pres.refl _ _, by rw [if_pos h0], rfl⟩
  · have c1 : ((1 : Nat) : Int) < 2 := by decide
    have i0 : Int.toNat ((1 : Nat) : Int) = 1 := rfl
    have hx0 := hx rfl
    by_cases h0 : y = 0
    · have d : decide (y ≠ 0) = false := decide_eq_false fun e => e h0
      simp (disch := omega) only [go_sem,reduceIte,Nat.reduceEqDiff,Nat.reduceLT, e3, e6, e7, e8, c1, idxA27, i0, Nat.one_mul, load3, l1, d, wrap_i64]
      exact hJ 0 _ _ (by omega) ⟨2, rfl, rfl, by omega, fun _ => ⟨hx0, h0⟩, by simp only [go_sem,reduceIte,Nat.reduceEqDiff,Nat.reduceLT, e3], by simp only [go_sem,reduceIte,Nat.reduceEqDiff,Nat.reduceLT, e6], by simp only [go_sem,reduceIte,Nat.reduceEqDiff,Nat.reduceLT, e7], by (simp only [go_sem,reduceIte,Nat.reduceEqDiff,Nat.reduceLT]) <;> rfl⟩
    · have d : decide (y ≠ 0) = true := decide_eq_true h0
      simp (disch := omega) only [go_sem,reduceIte,Nat.reduceEqDiff,Nat.reduceLT, e3, e6, e7, e8, c1, idxA27, i0, Nat.one_mul, load3, l1, d]
      exact hQ' _ _ ⟨Pres.refl _ _, by rw [if_neg (fun e => e hx0)], rfl⟩
  · have c1 : ¬ ((2 : Nat) : Int) < 2 := by decide
    obtain ⟨hx0, hy0⟩ := hy rfl
    simp (disch := omega) only [go_sem,reduceIte,Nat.reduceEqDiff,Nat.reduceLT, e3, e6, e7, e8, c1]
    exact hQ' _ _ ⟨Pres.refl _ _, by rw [if_neg (fun e => e hx0), hy0], rfl⟩

/-- lexicographically -/
def cmpL : List Int → List Int → Int
  | [], [] => 0
  | [], _ :: _ => -1
  | _ :: _, [] => 1
  | a :: l, b :: m => if cmp a b ≠ 0 then cmp a b else cmpL l m
/-- smaller parts first, then lexicographically -/
def cmpP (a b : List Int) : Int := if cmp a.length b.length ≠ 0 then cmp a.length b.length else cmpL a b
end
end Go.Proofs.YtnhbkoeomefkdaaDoor.Ev.L

/- The squares between two. -/
set_option linter.unusedVariables false
set_option linter.unusedSimpArgs false
namespace Go.Proofs.YtnhbkoeomefkdaaDoor.Ev.L
open Go Go.Proofs Go.Proofs.YtnhbkoeomefkdaaDoor.Ev
noncomputable section

/-- a square lies in the rectangle from one square's corner to another's end -/
def insB (f l q : Sq) : Bool := decide (f.1 ≤ q.1) && decide (f.2.1 ≤ q.2.1) && decide (q.1 + q.2.2 ≤ l.1 + l.2.2) && decide (q.2.1 + q.2.2 ≤ l.2.1 + l.2.2)
def inP (f l : Sq) (O : List Sq) (k : Nat) : List Int := ((List.range k).filter fun i => insB f l (O.getD i (0, 0, 0))).map Int.ofNat
def rectA (f l : Sq) : Int := (l.1 + l.2.2 - f.1) * (l.2.1 + l.2.2 - f.2.1)
def btw (O : List Sq) (f l : Sq) : List Int := if rectA f l - are (O.filter (insB f l)) ≠ 0 then [] else inP f l O O.length
end
end Go.Proofs.YtnhbkoeomefkdaaDoor.Ev.L

/- Squares compared; the least part. -/
set_option linter.unusedVariables false
set_option linter.unusedSimpArgs false
namespace Go.Proofs.YtnhbkoeomefkdaaDoor.Ev.L
open Go Go.Proofs Go.Proofs.YtnhbkoeomefkdaaDoor.Ev
noncomputable section
/-- a part is taken if it is less -/
def stp (O : List Sq) (lst part : List Int) : List Int := if part = [] ∨ part.length = O.length then lst else if lst = [] ∨ cmpP part lst < 0 then part else lst
def inn (O : List Sq) (f : Sq) : Nat → List Int → List Int
  | 0, lst => lst
  | k + 1, lst => if f = O.getD k (0, 0, 0) then inn O f k lst else stp O (inn O f k lst) (btw O f (O.getD k (0, 0, 0)))
end
end Go.Proofs.YtnhbkoeomefkdaaDoor.Ev.L

