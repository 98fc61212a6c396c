/- The law StitchLattice. -/
import Derived.Test.YtdfkblagcfgncaaGreatDoorPmsT3
import Derived.Test.YtdfkblagcfgncaaGreatDoorPmsM2
set_option linter.unusedSimpArgs false
namespace Go.Proofs.YtdfkblagcfgncaaGreatDoor.Ev
open Go Go.Proofs
noncomputable section

section
variable {P : Program} {E : Env} {n : Nat} {ops : List Oper} {q : Bool} {r tl : List Oper} {k : List Frm} {α : Tr Value} {h : H} {R : Rt}
/-- only what holds of the variables goes on -/
theorem At_cut {Φ : Tr Value → Prop} (hα : Φ α) (hk : ∀ β, Φ β → At P E n ops q r tl k β h R) : At P E n ops q r tl k α h R := hk α hα
end
theorem pc_irr {k : Nat} {ps : List (Int × Int)} (h : OkP k ps) (a : Nat) : pc ps a a = false := by
  cases e : pc ps a a with
  | false => rfl
  | true =>
    unfold pc at e
    obtain ⟨p, hp, hp2⟩ := List.any_eq_true.1 e
    have := h p hp
    simp only [decide_eq_true_eq] at hp2
    omega

end
end Go.Proofs.YtdfkblagcfgncaaGreatDoor.Ev


