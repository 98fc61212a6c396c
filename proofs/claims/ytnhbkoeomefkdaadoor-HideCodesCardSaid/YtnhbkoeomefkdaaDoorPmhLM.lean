/- Structs compared. -/
import Derived.Test.YtnhbkoeomefkdaaDoorPmhLL
import Derived.Laws.StructEq
set_option linter.unusedSimpArgs false
set_option linter.unusedVariables false
namespace Go.Proofs.YtnhbkoeomefkdaaDoor.Ev.L
open Go Go.Proofs Go.Proofs.YtnhbkoeomefkdaaDoor.Ev
noncomputable section

theorem pureRun_bindS {α β : Type} {P : Program} : ∀ (m : Sem α) (f : α → Sem β), pureRun P (m >>= f) = (pureRun P m).bind fun a => pureRun P (f a) := by
  intro m
  induction m with
  | pure a => intro f; rfl
  | program k ih => intro f; exact ih P f
  | _ => intro f; rfl
theorem pureRun_pure {α : Type} {P : Program} {a : α} : pureRun P (pure a) = some a := rfl
theorem eq3 {d : Nat} {a b : Int} : pureRun Tryd.prog (Op.equalIn (d + 1) 3 (.int .i64 a) (.int .i64 b)) = some (a == b) := by kernel_rfl
theorem und61 : pureRun Tryd.prog (underlying 61) = some (.struct (Tryd.prog.fieldsOf 61)) := by kernel_rfl
theorem flds61 : (Tryd.prog.fieldsOf 61).toList = [{ name := "X", type := 3, offset := 0, embedded := false, tag := "", pkgPath := "", byteOffset := 0 },
        { name := "Y", type := 3, offset := 1, embedded := false, tag := "", pkgPath := "", byteOffset := 8 },
        { name := "Size", type := 3, offset := 2, embedded := false, tag := "", pkgPath := "", byteOffset := 16 }] := by kernel_rfl
theorem held61 : Tryd.prog.stoodInHeld 61 = false := by kernel_rfl
theorem guard61 : Tryd.prog.eqGuardType Tryd.prog.depth 61 = false := by kernel_rfl
theorem pureProg {P : Program} : pureRun P program = some P := rfl
theorem part3_0 {x : Int} {y s : Value} : pureRun Tryd.prog (part 3 #[.int .i64 x, y, s] 0) = some (.int .i64 x) := by kernel_rfl
theorem part3_1 {y : Int} {x s : Value} : pureRun Tryd.prog (part 3 #[x, .int .i64 y, s] 1) = some (.int .i64 y) := by kernel_rfl
theorem part3_2 {s : Int} {x y : Value} : pureRun Tryd.prog (part 3 #[x, y, .int .i64 s] 2) = some (.int .i64 s) := by kernel_rfl
theorem eq61 {d : Nat} {x y s : Int} : pureRun Tryd.prog (Op.equalIn (d + 2) 61 (.agg #[.int .i64 x, .int .i64 y, .int .i64 s]) (.agg #[.int .i64 x, .int .i64 y, .int .i64 s])) = some true := by
  rw [Op.equalIn]
  simp only [pureRun_bindS, und61, Option.bind_some, pureProg, held61, Bool.false_eq_true, if_false]
  rw [← Array.forIn_toList, flds61]
  simp [List.forIn_cons, pureRun_bindS, part3_0, part3_1, part3_2, eq3, plain, pureRun_pure]
end
end Go.Proofs.YtnhbkoeomefkdaaDoor.Ev.L

/- same: two rows of squares. -/
set_option linter.unusedSimpArgs false
set_option linter.unusedVariables false
namespace Go.Proofs.YtnhbkoeomefkdaaDoor.Ev.L
open Go Go.Proofs Go.Proofs.YtnhbkoeomefkdaaDoor.Ev
noncomputable section

theorem neq61 {G : Nat} {x y s : Int} : binO Tryd.prog (En G) .neq 61 (some (.agg #[.int .i64 x, .int .i64 y, .int .i64 s])) (some (.agg #[.int .i64 x, .int .i64 y, .int .i64 s])) = some (.bool false) := by
  have hg : pureRun Tryd.prog (eqGuard .neq 61 (.tmp 0) (.tmp 0) (.agg #[.int .i64 x, .int .i64 y, .int .i64 s]) (.agg #[.int .i64 x, .int .i64 y, .int .i64 s])) = some () := by
    simp [eqGuard, pureRun_bindS, pureProg, guard61, pureRun_pure]
  have hb : pureRun Tryd.prog (binOp .neq 61 (.agg #[.int .i64 x, .int .i64 y, .int .i64 s]) (.agg #[.int .i64 x, .int .i64 y, .int .i64 s])) = some (.bool false) := by
    simp only [binOp, Op.equal, pureRun_bindS]
    have : Op.maxDepth = 9998 + 2 := rfl
    rw [this, eq61]
    rfl
  have hs : slowBin Tryd.prog .neq 61 (.agg #[.int .i64 x, .int .i64 y, .int .i64 s]) (.agg #[.int .i64 x, .int .i64 y, .int .i64 s]) = some (.bool false) := by
    unfold slowBin
    rw [pureRun_bindS, hg]
    simp only [Option.bind_some, hb]
    rfl
  have hp : plainA (.agg #[.int .i64 x, .int .i64 y, .int .i64 s]) = true := rfl
  have hf : fastBin .neq (.agg #[.int .i64 x, .int .i64 y, .int .i64 s]) (.agg #[.int .i64 x, .int .i64 y, .int .i64 s]) = none := rfl
  simp only [binO, hp, Bool.and_self, if_true, hf, hs]

theorem sqCells_at : ∀ {l : List (Nat × Int × Int)} {i : Nat} {q : Nat × Int × Int}, l[i]? = some q → ((sqCells l).drop (i * 3)).take 3 = [.int .i64 q.1, .int .i64 q.2.1, .int .i64 q.2.2]
  | a :: l, 0, q, h => by simp at h; subst h; simp [sqCells]
  | a :: l, i + 1, q, h => by
    have h' : l[i]? = some q := by simpa using h
    have := sqCells_at h'
    rw [show (i + 1) * 3 = i * 3 + 3 by omega]
    simpa [sqCells] using this

set_option maxHeartbeats 4000000 in
theorem sqSame_spec {G lo1 hi1 lo2 hi2 c1 c2 : Nat} {A1 A2 : Option Addr} {l : List (Nat × Int × Int)} {h : H} (hv : SlV h.blks lo1 hi1 3 l.length (sqCells l) (.slice A1 l.length c1)) (hu : SlV h.blks lo2 hi2 3 l.length (sqCells l) (.slice A2 l.length c2)) (hn : l.length < 4000000000000000000) :
    Spec Tryd.prog (En G) 25 [.slice A1 l.length c1, .slice A2 l.length c2] h fun r _ => r = .bool true := by
  refine CallsE_enter (En_known (by decide)) (En_f.trans Tryd.func25) rfl ⟨Nat.le_of_ble_eq_true rfl, by decide⟩ fun Q' hQ' => ?_
  simp only [Tryd.f25, go_sem,reduceIte,Nat.reduceEqDiff,Nat.reduceLT, len22, ne_eq, not_true_eq_false]
  refine WK_loopN (fun j α h1 => ∃ k : Nat, k + j = l.length ∧ h1 = h ∧ α.get 0 = some (.slice A1 l.length c1) ∧ α.get 1 = some (.slice A2 l.length c2) ∧ α.get 5 = some (.int .i64 k)) l.length
    ⟨0, by omega, rfl, by simp only [go_sem,reduceIte,Nat.reduceEqDiff,Nat.reduceLT], by simp only [go_sem,reduceIte,Nat.reduceEqDiff,Nat.reduceLT], by (simp only [go_sem,reduceIte,Nat.reduceEqDiff,Nat.reduceLT]) <;> rfl⟩ (by omega) ?_
  rintro J j α h1 ⟨k, hk, rfl, e0, e1, e5⟩ hJ
  by_cases hlt : (k : Int) < l.length
  · obtain ⟨q, hq⟩ : ∃ q, l[k]? = some q := ⟨l[k]'(by omega), List.getElem?_eq_getElem (by omega)⟩
    obtain ⟨b1, o1, rfl, _, _, _⟩ := hv.at_ (by omega)
    obtain ⟨b2, o2, rfl, _, _, _⟩ := hu.at_ (by omega)
    have g1 := hv.loadA (E := En G) (i := k) agg61 i61 size61 (by omega)
    have g2 := hu.loadA (E := En G) (i := k) agg61 i61 size61 (by omega)
    rw [sqCells_at hq] at g1 g2
    simp (disch := omega) only [go_sem,reduceIte,Nat.reduceEqDiff,Nat.reduceLT, e0, e1, e5, len22, hlt]
    refine WK_regionT 8 ⟨by kernel_rfl, by kernel_rfl, by kernel_rfl⟩ ?_
    simp (disch := omega) only [go_sem,reduceIte,Nat.reduceEqDiff,Nat.reduceLT, e0, e1, e5, idxA22, Int.toNat_natCast, g1, g2, neq61, wrap_i64]
    exact hJ (j - 1) _ _ (by omega) ⟨k + 1, by omega, rfl, by simp only [go_sem,reduceIte,Nat.reduceEqDiff,Nat.reduceLT, e0], by simp only [go_sem,reduceIte,Nat.reduceEqDiff,Nat.reduceLT, e1], by (simp only [go_sem,reduceIte,Nat.reduceEqDiff,Nat.reduceLT]) <;> rfl⟩
  · simp (disch := omega) only [go_sem,reduceIte,Nat.reduceEqDiff,Nat.reduceLT, e0, e1, e5, len22, hlt]
    exact hQ' _ _ ⟨Pres.refl _ _, rfl⟩

end
end Go.Proofs.YtnhbkoeomefkdaaDoor.Ev.L

