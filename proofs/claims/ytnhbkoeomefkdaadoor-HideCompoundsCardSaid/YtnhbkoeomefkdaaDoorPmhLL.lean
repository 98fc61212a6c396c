/- room: the leftmost column with the least floor. -/
import Derived.Test.YtnhbkoeomefkdaaDoorPmhHH
set_option linter.unusedSimpArgs false
set_option linter.unusedVariables false
namespace Go.Proofs.YtnhbkoeomefkdaaDoor.Ev.L
open Go Go.Proofs Go.Proofs.YtnhbkoeomefkdaaDoor.Ev
noncomputable section

theorem ints_getD {l : List Int} {i : Nat} (h : i < l.length) : (ints l)[i]? = some (.int .i64 (l.getD i 0)) := by
  rw [ints_get (z := l.getD i 0)]
  rw [List.getD, List.getElem?_eq_getElem h]; rfl

end
end Go.Proofs.YtnhbkoeomefkdaaDoor.Ev.L

/- Variables that lie in memory; squares; put. -/
set_option linter.unusedSimpArgs false
set_option linter.unusedVariables false
namespace Go.Proofs.YtnhbkoeomefkdaaDoor.Ev.L
open Go Go.Proofs Go.Proofs.YtnhbkoeomefkdaaDoor.Ev
noncomputable section

/-- a square -/
theorem u61 {G : Nat} : ∃ fs, (En G).u 61 = some (.struct fs) := ⟨_, En_u.trans <| (envOf_u (by decide)).trans Tryd.underlying61⟩
theorem agg61 {G : Nat} : (En G).agg 61 = some true := by
  obtain ⟨fs, h⟩ := @u61 G
  unfold Env.agg; rw [h]
theorem zero61 : inf61.zero = some (.agg #[.int .i64 0, .int .i64 0, .int .i64 0]) := by kernel_rfl
end
end Go.Proofs.YtnhbkoeomefkdaaDoor.Ev.L

/- laid. -/
set_option linter.unusedSimpArgs false
set_option linter.unusedVariables false
namespace Go.Proofs.YtnhbkoeomefkdaaDoor.Ev.L
open Go Go.Proofs Go.Proofs.YtnhbkoeomefkdaaDoor.Ev
noncomputable section

section
variable {P : Program} {E : Env} {n : Nat} {ops : List Oper} {r tl : List Oper} {k : List Frm} {α : Tr Value} {h : H} {R : Rt} {d : Nat}
theorem CallO_any {g : FuncId} {vs : List Value} {Q : Value → H → Prop} (hs : CallsE P E g vs h Q) (hd : d < n) (hk : ∀ v h', Q v h' → At P E n ops false r tl k (Tr.put α d v) h' R) :
    CallO P E n ops false r tl k α h R (some d) (some (.func (.func g) #[] #[])) (some vs) := CallO_of hs hd fun v h' hq => ⟨fun e => (by cases e), hk v h' hq⟩
end

end
end Go.Proofs.YtnhbkoeomefkdaaDoor.Ev.L

