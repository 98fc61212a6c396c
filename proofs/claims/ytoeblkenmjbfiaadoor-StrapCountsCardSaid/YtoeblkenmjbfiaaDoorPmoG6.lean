/- The law StrapMirrored. -/
import Derived.Test.YtoeblkenmjbfiaaDoorPmoG5
set_option linter.unusedSimpArgs false
set_option linter.unusedVariables false
namespace Go.Proofs.YtoeblkenmjbfiaaDoor.Ev
open Go Go.Proofs
noncomputable section

theorem En_tabs {G : Nat} : (En G).tabs = tabs := rfl
section
variable {G n : Nat} {ops : List Oper} {r tl : List Oper} {k : List Frm} {α : Tr Value} {h : H} {R : Rt} {d : Nat}
theorem Call_lives (hd : d < n) (hk : At Tryd.prog (En G) n ops false r tl k (Tr.put α d (.bool true)) h R) : CallO Tryd.prog (En G) n ops false r tl k α h R (some d) (some (.func (.func 9) #[] #[])) (some []) := by
  refine CallO_of (Q := fun v h' => v = .bool true ∧ h' = h) (CallsE_known En_lives (by rw [En_tabs]; exact fun x hx => by cases hx) ⟨rfl, rfl⟩) hd fun v h' ⟨e1, e2⟩ => ?_
  subst e1; subst e2
  exact ⟨fun e => (by cases e), hk⟩
end

end
end Go.Proofs.YtoeblkenmjbfiaaDoor.Ev


